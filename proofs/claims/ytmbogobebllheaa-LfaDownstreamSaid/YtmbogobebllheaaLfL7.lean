/-
  The walk of the law Downstream.
-/
import Derived.Test.YtmbogobebllheaaMra
import Derived.Test.YtmbogobebllheaaMy
import Derived.BigQuiet
namespace Go.Proofs.Ytmbogobebllheaa
open Go.RowKit HM GM SP Go.Lib
set_option linter.unusedSimpArgs false
set_option linter.unusedVariables false
set_option maxHeartbeats 4000000
set_option maxRecDepth 100000
theorem dwn_big (R N : Int) (l : List E) (s : Value) (root : Int) (w : World) (hr : Rd3 w s l) (h : lgF R N l.length = true) :
    Calls Try.prog 9 #[.agg #[.int .i64 R, .int .i64 N, s], .int .i64 root] w fun e w' => e = .returned (.bool true) ∧ Below w.heap.size w w' := by
  obtain ⟨ad, cap, hform⟩ := rd3_slice hr
  obtain ⟨L, hL⟩ : ∃ L, l.length = L := ⟨_, rfl⟩
  rw [hL] at hform
  subst hform
  have HB0 := Lib.hid (below_alloc w (.cells #[.int .i64 R, .int .i64 N, .slice ad L cap] 27))
  have HX0 : Hid ((w.alloc (.cells #[.int .i64 R, .int .i64 N, .slice ad L cap] 27)).heap[w.heap.size]? = some (.cells #[.int .i64 R, .int .i64 N, .slice ad L cap] 27 (0, 0))) := heap_alloc_new _ _
  rw [hL] at h
  clear hr hL
  go_enter Try.func9, Try.ntmps9
  go_wp2_with fail
  go_at_call 24
  refine (large_any R N ad L cap _).mono ?_
  rintro e w1 ⟨rfl, hb⟩
  rw [h]
  have HB1 := Lib.hid (below_then HB0.out hb)
  clear hb HX0 HB0
  go_wp2_with fail
  go_at_call 17
  refine (awake_any _).mono ?_
  rintro e w2 ⟨rfl, hb⟩
  have HB2 := Lib.hid (below_then HB1.out hb)
  clear hb
  go_wp2
  go_ret
  exact ⟨rfl, HB2.out⟩
theorem dwn_err (R N : Int) (l : List E) (s : Value) (root : Int) (w : World) (hR : I64 R) (hN : I64 N) (hr : Rd3 w s l) (h : lgF R N l.length = false) (her : ∀ al er, LaR R N l root al er → er ≠ 0) :
    Calls Try.prog 9 #[.agg #[.int .i64 R, .int .i64 N, s], .int .i64 root] w fun e w' => e = .returned (.bool true) ∧ Below w.heap.size w w' := by
  have HLA : Hid (∀ W, Below w.heap.size w W → Calls Try.prog 25 #[.agg #[.int .i64 R, .int .i64 N, s], .int .i64 root] W (LaQ R N l root W)) := fun W hW => la_any R N l s root W hR hN (hr.below hW)
  obtain ⟨ad, cap, hform⟩ := rd3_slice hr
  obtain ⟨L, hL⟩ : ∃ L, l.length = L := ⟨_, rfl⟩
  rw [hL] at hform
  subst hform
  have HB0 := Lib.hid (below_alloc w (.cells #[.int .i64 R, .int .i64 N, .slice ad L cap] 27))
  have HX0 : Hid ((w.alloc (.cells #[.int .i64 R, .int .i64 N, .slice ad L cap] 27)).heap[w.heap.size]? = some (.cells #[.int .i64 R, .int .i64 N, .slice ad L cap] 27 (0, 0))) := heap_alloc_new _ _
  rw [hL] at h
  have HER := Lib.hid her
  clear hr hL her
  go_enter Try.func9, Try.ntmps9
  go_wp2_with fail
  go_at_call 24
  refine (large_any R N ad L cap _).mono ?_
  rintro e w1 ⟨rfl, hb⟩
  rw [h]
  have HB1 := Lib.hid (below_then HB0.out hb)
  have HX1 := Lib.hid ((hb.block _ (lt_block HX0.out)).trans HX0.out)
  have q0 : w1.cell? ⟨w.heap.size, 0, none⟩ = some (.int .i64 R) := cell_of HX1.out rfl
  have q1 : w1.cell? ⟨w.heap.size, 1, none⟩ = some (.int .i64 N) := cell_of HX1.out rfl
  have q2 : w1.cell? ⟨w.heap.size, 2, none⟩ = some (.slice ad L cap) := cell_of HX1.out rfl
  clear hb HX0 HB0
  go_wp2_with fail
  go_at_call 25
  refine (HLA.out _ HB1.out).mono ?_
  rintro e w2 ⟨al, er, v, rfl, hra, hla, hb⟩
  have hne := HER.out _ _ hla
  have n1 : (er != 0) = true := by simpa using hne
  have HB2 := Lib.hid (below_then HB1.out hb)
  obtain ⟨x1, x2, rfl⟩ := hra.form
  clear hb hla hra hne HER HLA q0 q1 q2
  go_wp2_with fail
  go_at_call 17
  refine (awake_any _).mono ?_
  rintro e w3 ⟨rfl, hb⟩
  have HB3 := Lib.hid (below_then HB2.out hb)
  clear hb
  go_wp2
  go_ret
  exact ⟨rfl, HB3.out⟩
theorem dwn_ok (r root : Nat) (l : List E) (s : Value) (w : World) (hr : Rd3 w s l) (hf : FitT l) (hroot : root < r) (hro : roE (r : Int) 0 l = 0) (h : lgF (r : Int) 0 l.length = false) :
    Calls Try.prog 9 #[.agg #[.int .i64 (r : Int), .int .i64 0, s], .int .i64 (root : Int)] w fun e w' => e = .returned (.bool true) ∧ Below w.heap.size w w' := by
  have hv := chk_iff.1 (roE_ok hro).1
  have hS := hv.s
  have hI : I64 (r : Int) := by unfold I64; omega
  have hI0 : I64 (0 : Int) := by unfold I64; omega
  have HLA : Hid (∀ W, Below w.heap.size w W → Calls Try.prog 25 #[.agg #[.int .i64 (r : Int), .int .i64 0, s], .int .i64 (root : Int)] W fun e w' => ∃ v t, e = .returned (.tuple #[v, .int .i64 0]) ∧ RdA w' v (allA l (root : Int) r t.hops) ∧ IsTre (r : Int) 0 l (root : Int) t ∧ Below W.heap.size W w') := fun W hW => la_ok r root l s W hv (hr.below hW) hroot hro
  have HCK : Hid (∀ W, Below w.heap.size w W → Calls Try.prog 37 #[.agg #[.int .i64 (r : Int), .int .i64 0, s]] W fun e w' => e = .returned (.int .i64 0) ∧ Below W.heap.size W w') := fun W hW => by
    have := rcheck_any (r : Int) 0 s l W hI hI0 (hr.below hW) hf
    rwa [(roE_ok hro).1] at this
  have HAll : Hid (∀ W, Below w.heap.size w W → Calls Try.prog 41 #[.agg #[.int .i64 (r : Int), .int .i64 0, s]] W fun e w' => ∃ v, e = .returned (.tuple #[v, .int .i64 0]) ∧ RdR w' v (gT (allRow l r) r r) ∧ Below W.heap.size W w') := fun W hW => by
    refine (rall_any (r : Int) 0 l s W hI hI0 (hr.below hW) hf).mono ?_
    rintro e w' ⟨rows, er, v, rfl, h1, h2, h3⟩
    rcases h2 with ⟨a1, _⟩ | ⟨_, rfl, q, a3, rfl⟩
    · exact absurd (roE_ok hro).1 a1
    · obtain rfl : r = q := by omega
      exact ⟨v, rfl, h1, h3⟩
  have HCO : Hid (∀ (v : Nat) W, Below w.heap.size w W → (cstF (root : Int) (v : Int) l).2 = true → Calls Try.prog 43 #[.agg #[.int .i64 (r : Int), .int .i64 0, s], .int .i64 (root : Int), .int .i64 (v : Int)] W fun e w' => ∃ c, e = .returned (.tuple #[.int .i64 c, .bool true]) ∧ Below W.heap.size W w') := fun v W hW hc => by
    refine (rcost_any (r : Int) 0 (root : Int) (v : Int) l s W (hr.below hW)).mono ?_
    rintro e w' ⟨rfl, hb⟩
    rw [hc]
    exact ⟨_, rfl, hb⟩
  have HV := Lib.hid hv
  have hr8 : r ≤ 128 := by omega
  obtain ⟨ad, cap, hform⟩ := rd3_slice hr
  obtain ⟨L, hL⟩ : ∃ L, l.length = L := ⟨_, rfl⟩
  rw [hL] at hform
  subst hform
  have HB0 := Lib.hid (below_alloc w (.cells #[.int .i64 (r : Int), .int .i64 0, .slice ad L cap] 27))
  have HX0 : Hid ((w.alloc (.cells #[.int .i64 (r : Int), .int .i64 0, .slice ad L cap] 27)).heap[w.heap.size]? = some (.cells #[.int .i64 (r : Int), .int .i64 0, .slice ad L cap] 27 (0, 0))) := heap_alloc_new _ _
  rw [hL] at h
  clear hr hL hv hS hI hI0 hro hf
  go_enter Try.func9, Try.ntmps9
  go_wp2_with fail
  go_at_call 24
  refine (large_any (r : Int) 0 ad L cap _).mono ?_
  rintro e w1 ⟨rfl, hb⟩
  rw [h]
  have HB1 := Lib.hid (below_then HB0.out hb)
  have HX1 := Lib.hid ((hb.block _ (lt_block HX0.out)).trans HX0.out)
  have q0 : w1.cell? ⟨w.heap.size, 0, none⟩ = some (.int .i64 (r : Int)) := cell_of HX1.out rfl
  have q1 : w1.cell? ⟨w.heap.size, 1, none⟩ = some (.int .i64 0) := cell_of HX1.out rfl
  have q2 : w1.cell? ⟨w.heap.size, 2, none⟩ = some (.slice ad L cap) := cell_of HX1.out rfl
  clear hb HX0 HB0 h
  go_wp2_with fail
  go_at_call 25
  refine (HLA.out _ HB1.out).mono ?_
  rintro e w2 ⟨lv, t, rfl, hra, hist, hb⟩
  have HB2 := Lib.hid (below_then HB1.out hb)
  have HX2 := Lib.hid ((hb.block _ (lt_block HX1.out)).trans HX1.out)
  have HA2 := Lib.hid hra
  have HAN : Hid (∀ a ∈ allA l (root : Int) r t.hops, ∃ d v p, AlN l r root t.hops a d v p) := fun a ha => al_num HV.out hroot hist ha
  obtain ⟨x1, x2, hlf⟩ := hra.form
  subst hlf
  generalize allA l (root : Int) r t.hops = al at *
  clear hb hra hist HLA HB1 HX1 q0 q1 q2
  have q0 : w2.cell? ⟨w.heap.size, 0, none⟩ = some (.int .i64 (r : Int)) := cell_of HX2.out rfl
  have q1 : w2.cell? ⟨w.heap.size, 1, none⟩ = some (.int .i64 0) := cell_of HX2.out rfl
  have q2 : w2.cell? ⟨w.heap.size, 2, none⟩ = some (.slice ad L cap) := cell_of HX2.out rfl
  go_wp2_with fail
  go_at_call 37
  refine (HCK.out _ HB2.out).mono ?_
  rintro e w3 ⟨rfl, hb⟩
  clear q0 q1 q2
  have HB3 := Lib.hid (below_then HB2.out hb)
  have HX3 := Lib.hid ((hb.block _ (lt_block HX2.out)).trans HX2.out)
  have q0 : w3.cell? ⟨w.heap.size, 0, none⟩ = some (.int .i64 (r : Int)) := cell_of HX3.out rfl
  have q1 : w3.cell? ⟨w.heap.size, 1, none⟩ = some (.int .i64 0) := cell_of HX3.out rfl
  have q2 : w3.cell? ⟨w.heap.size, 2, none⟩ = some (.slice ad L cap) := cell_of HX3.out rfl
  have HA3 := Lib.hid (HA2.out.below hb)
  clear hb HCK HB2 HX2 HA2
  go_wp2_with fail
  go_at_call 41
  refine (HAll.out _ HB3.out).mono ?_
  rintro e X ⟨dv, rfl, hrd, hb⟩
  clear q0 q1 q2
  have HBX := Lib.hid (below_then HB3.out hb)
  have HXX := Lib.hid ((hb.block _ (lt_block HX3.out)).trans HX3.out)
  have HAX := Lib.hid (HA3.out.below hb)
  obtain ⟨db, dof, dc, hdv, hdc, hdt⟩ := DT.of hrd (allT_tb l r).1 (allT_tb l r).2 (by omega)
  subst hdv
  have HDT := Lib.hid hdt
  clear hb hrd hdt HAll HB3 HX3 HA3
  go_wp2_with fail
  obtain ⟨M, hM⟩ : ∃ M, al.length = M := ⟨_, rfl⟩
  obtain ⟨pad, pcap, hpe, hp1, hp2, hpr⟩ := HAX.out
  rw [hM] at hpe hp1 ⊢
  cases hpe
  have HM := Lib.hid hM
  have HPR := Lib.hid hpr
  have HQ : Hid (∀ W, Below X.heap.size X W → W.cell? ⟨w.heap.size, 0, none⟩ = some (.int .i64 (r : Int)) ∧ W.cell? ⟨w.heap.size, 1, none⟩ = some (.int .i64 0) ∧ W.cell? ⟨w.heap.size, 2, none⟩ = some (.slice ad L cap)) := fun W hW => ⟨carry hW (cell_of HXX.out rfl), carry hW (cell_of HXX.out rfl), carry hW (cell_of HXX.out rfl)⟩
  have HS0 : Hid (Below X.heap.size X X) := Below.refl _ _
  clear hpr hM HAX HXX
  go_loopg [10, 11, 12, 35] M (fun g s10 s11 s12 s35 wr => ∃ k : Nat, k ≤ M ∧ M - k ≤ g ∧ (∃ q, q = s10) ∧ (∃ q, q = s11) ∧ (∃ q, q = s12) ∧ s35 = .int .i64 (k : Int) ∧ Hid (Below X.heap.size X wr))
  case atStart => exact ⟨0, by omega, by omega, ⟨_, rfl⟩, ⟨_, rfl⟩, ⟨_, rfl⟩, rfl, HS0⟩
  case round =>
    clear HS0
    obtain ⟨k, hk, hkg, ⟨u10, rfl⟩, ⟨u11, rfl⟩, ⟨u12, rfl⟩, rfl, HS⟩ := hrel
    by_cases hkl : k < M
    · have k0 : (0 : Int) ≤ (k : Int) := by omega
      have k1 : (k : Int) < (M : Int) := by omega
      obtain ⟨a, ha⟩ : ∃ a, al[k]? = some a := ⟨_, List.getElem?_eq_getElem (by have := HM.out; omega)⟩
      obtain ⟨d, v, p, han⟩ := HAN.out a (List.mem_of_getElem? ha)
      obtain ⟨pb, po, rfl, hpb, c0, c1, c2, c3, c4⟩ := HPR.out k a ha
      obtain ⟨ad0, ap0, av0, ak0, dn⟩ := a
      have hd := han.hd; have hvv := han.hv; have hp := han.hp; have hne := han.ne; have hco := han.cost; have hdn := han.down
      dsimp only at hd hvv hp hdn c0 c1 c2 c3 c4
      obtain ⟨rfl, hd⟩ := hd
      obtain ⟨rfl, hvv⟩ := hvv
      obtain ⟨rfl, hp⟩ := hp
      have f0 := carry HS.out c0
      have f1 := carry HS.out c1
      have f2 := carry HS.out c2
      have f3 := carry HS.out c3
      have f4 := carry HS.out c4
      have HS1 : Hid (Below X.heap.size X (wr.alloc (.cells #[.int .i64 (d : Int), .int .i64 (p : Int), .int .i64 (v : Int), .int .i64 ak0, .bool dn] 47))) := below_then HS.out (below_alloc _ _)
      have HAB : Hid ((wr.alloc (.cells #[.int .i64 (d : Int), .int .i64 (p : Int), .int .i64 (v : Int), .int .i64 ak0, .bool dn] 47)).heap[wr.heap.size]? = some (.cells #[.int .i64 (d : Int), .int .i64 (p : Int), .int .i64 (v : Int), .int .i64 ak0, .bool dn] 47 (0, 0))) := heap_alloc_new _ _
      have HU0 : Hid (Below (wr.alloc (.cells #[.int .i64 (d : Int), .int .i64 (p : Int), .int .i64 (v : Int), .int .i64 ak0, .bool dn] 47)).heap.size (wr.alloc (.cells #[.int .i64 (d : Int), .int .i64 (p : Int), .int .i64 (v : Int), .int .i64 ak0, .bool dn] 47)) (wr.alloc (.cells #[.int .i64 (d : Int), .int .i64 (p : Int), .int .i64 (v : Int), .int .i64 ak0, .bool dn] 47))) := Below.refl _ _
      have q0 : (wr.alloc (.cells #[.int .i64 (d : Int), .int .i64 (p : Int), .int .i64 (v : Int), .int .i64 ak0, .bool dn] 47)).cell? ⟨w.heap.size, 0, none⟩ = some (.int .i64 (r : Int)) := (HQ.out _ HS1.out).1
      have q1 : (wr.alloc (.cells #[.int .i64 (d : Int), .int .i64 (p : Int), .int .i64 (v : Int), .int .i64 ak0, .bool dn] 47)).cell? ⟨w.heap.size, 1, none⟩ = some (.int .i64 0) := (HQ.out _ HS1.out).2.1
      have q2 : (wr.alloc (.cells #[.int .i64 (d : Int), .int .i64 (p : Int), .int .i64 (v : Int), .int .i64 ak0, .bool dn] 47)).cell? ⟨w.heap.size, 2, none⟩ = some (.slice ad L cap) := (HQ.out _ HS1.out).2.2
      have HCOST := Lib.hid hco
      have HDN := Lib.hid hdn
      clear c0 c1 c2 c3 c4 ha han hpb hco hdn
      go_wp2_with fail
      clear q0 q1 q2 f0 f1 f2 f3 f4
      generalize hV : (wr.alloc (.cells #[.int .i64 (d : Int), .int .i64 (p : Int), .int .i64 (v : Int), .int .i64 ak0, .bool dn] 47)) = V at *
      clear hV
      go_at_call 38
      refine (lnode_any r v _ _ hvv hr8).mono ?_
      rintro e u1 ⟨rfl, hb⟩
      have HU1 := Lib.hid (below_then HU0.out hb)
      clear hb
      have q0 : u1.cell? ⟨w.heap.size, 0, none⟩ = some (.int .i64 (r : Int)) := carry HU1.out (HQ.out _ (HS1.out)).1
      have q1 : u1.cell? ⟨w.heap.size, 1, none⟩ = some (.int .i64 0) := carry HU1.out (HQ.out _ (HS1.out)).2.1
      have q2 : u1.cell? ⟨w.heap.size, 2, none⟩ = some (.slice ad L cap) := carry HU1.out (HQ.out _ (HS1.out)).2.2
      have b0 : u1.cell? ⟨wr.heap.size, 0, none⟩ = some (.int .i64 (d : Int)) := carry HU1.out (cell_of HAB.out rfl)
      have b1 : u1.cell? ⟨wr.heap.size, 1, none⟩ = some (.int .i64 (p : Int)) := carry HU1.out (cell_of HAB.out rfl)
      have b2 : u1.cell? ⟨wr.heap.size, 2, none⟩ = some (.int .i64 (v : Int)) := carry HU1.out (cell_of HAB.out rfl)
      have b4 : u1.cell? ⟨wr.heap.size, 4, none⟩ = some (.bool dn) := carry HU1.out (cell_of HAB.out rfl)
      go_wp2_with fail
      clear q0 q1 q2 b0 b1 b2 b4
      go_at_call 38
      refine (lnode_any r d _ _ hd hr8).mono ?_
      rintro e u2 ⟨rfl, hb⟩
      have HU2 := Lib.hid (below_then HU1.out hb)
      clear hb
      have q0 : u2.cell? ⟨w.heap.size, 0, none⟩ = some (.int .i64 (r : Int)) := carry HU2.out (HQ.out _ (HS1.out)).1
      have q1 : u2.cell? ⟨w.heap.size, 1, none⟩ = some (.int .i64 0) := carry HU2.out (HQ.out _ (HS1.out)).2.1
      have q2 : u2.cell? ⟨w.heap.size, 2, none⟩ = some (.slice ad L cap) := carry HU2.out (HQ.out _ (HS1.out)).2.2
      have b0 : u2.cell? ⟨wr.heap.size, 0, none⟩ = some (.int .i64 (d : Int)) := carry HU2.out (cell_of HAB.out rfl)
      have b1 : u2.cell? ⟨wr.heap.size, 1, none⟩ = some (.int .i64 (p : Int)) := carry HU2.out (cell_of HAB.out rfl)
      have b2 : u2.cell? ⟨wr.heap.size, 2, none⟩ = some (.int .i64 (v : Int)) := carry HU2.out (cell_of HAB.out rfl)
      have b4 : u2.cell? ⟨wr.heap.size, 4, none⟩ = some (.bool dn) := carry HU2.out (cell_of HAB.out rfl)
      go_wp2_with fail
      clear q0 q1 q2 b0 b1 b2 b4
      go_at_call 38
      refine (lnode_any r root _ _ hroot hr8).mono ?_
      rintro e u3 ⟨rfl, hb⟩
      have HU3 := Lib.hid (below_then HU2.out hb)
      clear hb
      have q0 : u3.cell? ⟨w.heap.size, 0, none⟩ = some (.int .i64 (r : Int)) := carry HU3.out (HQ.out _ (HS1.out)).1
      have q1 : u3.cell? ⟨w.heap.size, 1, none⟩ = some (.int .i64 0) := carry HU3.out (HQ.out _ (HS1.out)).2.1
      have q2 : u3.cell? ⟨w.heap.size, 2, none⟩ = some (.slice ad L cap) := carry HU3.out (HQ.out _ (HS1.out)).2.2
      have b0 : u3.cell? ⟨wr.heap.size, 0, none⟩ = some (.int .i64 (d : Int)) := carry HU3.out (cell_of HAB.out rfl)
      have b1 : u3.cell? ⟨wr.heap.size, 1, none⟩ = some (.int .i64 (p : Int)) := carry HU3.out (cell_of HAB.out rfl)
      have b2 : u3.cell? ⟨wr.heap.size, 2, none⟩ = some (.int .i64 (v : Int)) := carry HU3.out (cell_of HAB.out rfl)
      have b4 : u3.cell? ⟨wr.heap.size, 4, none⟩ = some (.bool dn) := carry HU3.out (cell_of HAB.out rfl)
      go_wp2_with fail
      clear q0 q1 q2 b0 b1 b2 b4
      go_at_call 43
      refine (HCO.out v _ (below_then HBX.out (below_then HS1.out HU3.out)) HCOST.out).mono ?_
      rintro e u4 ⟨cst, rfl, hb⟩
      have HU4 := Lib.hid (below_then HU3.out hb)
      clear hb
      have b0 : u4.cell? ⟨wr.heap.size, 0, none⟩ = some (.int .i64 (d : Int)) := carry HU4.out (cell_of HAB.out rfl)
      have b1 : u4.cell? ⟨wr.heap.size, 1, none⟩ = some (.int .i64 (p : Int)) := carry HU4.out (cell_of HAB.out rfl)
      have b2 : u4.cell? ⟨wr.heap.size, 2, none⟩ = some (.int .i64 (v : Int)) := carry HU4.out (cell_of HAB.out rfl)
      have b4 : u4.cell? ⟨wr.heap.size, 4, none⟩ = some (.bool dn) := carry HU4.out (cell_of HAB.out rfl)
      have HW4 := Lib.hid (below_then HS1.out HU4.out)
      obtain ⟨g1, p1, cc1, r1, _, r2, r3⟩ := (HDT.out.below HW4.out).rows v hvv
      obtain ⟨g2, p2, cc2, s1, _, s2, s3⟩ := (HDT.out.below HW4.out).rows root hroot
      have r4 := r3 d hd
      have s4 := s3 d hd
      obtain ⟨t1, ht1⟩ : ∃ t, T l (v : Int) (d : Int) = t := ⟨_, rfl⟩
      obtain ⟨t2, ht2⟩ : ∃ t, T l (root : Int) (d : Int) = t := ⟨_, rfl⟩
      have hdn := HDN.out
      rw [ht1, ht2] at hdn
      rw [ht1] at r4
      rw [ht2] at s4
      have v0 : (0 : Int) ≤ (v : Int) := by omega
      have v1 : (v : Int) < (r : Int) := by omega
      have d0 : (0 : Int) ≤ (d : Int) := by omega
      have d1 : (d : Int) < (r : Int) := by omega
      have e0 : (0 : Int) ≤ (root : Int) := by omega
      have e1 : (root : Int) < (r : Int) := by omega
      have n1 : ((v : Int) == (p : Int)) = false := by simp; omega
      have HDN2 := Lib.hid hdn
      clear r3 s3 ht1 ht2 hdn HDN HU0 HU1 HU2 HU3 HU4 HAB HCOST
      by_cases hlt : t1 < t2
      · have l1 : decide (t1 < t2) = true := decide_eq_true hlt
        have hdt : dn = true := by rw [HDN2.out]; exact l1
        subst hdt
        clear HDN2
        go_wp2_with fail
        go_quiet (fail)
        go_wp2_with fail
        go_roundg (M - (k + 1))
        case measure => omega
        case rel => exact ⟨k + 1, by omega, Nat.le_refl _, ⟨_, rfl⟩, ⟨_, rfl⟩, ⟨_, rfl⟩, by go_num, below_drewN HW4.out _⟩
      · have l1 : decide (t1 < t2) = false := decide_eq_false hlt
        have hdt : dn = false := by rw [HDN2.out]; exact l1
        subst hdt
        clear HDN2
        go_wp2_with fail
        go_quiet (fail)
        go_wp2_with fail
        go_roundg (M - (k + 1))
        case measure => omega
        case rel => exact ⟨k + 1, by omega, Nat.le_refl _, ⟨_, rfl⟩, ⟨_, rfl⟩, ⟨_, rfl⟩, by go_num, below_drewN HW4.out _⟩
    · have k1 : decide ((k : Int) < (M : Int)) = false := decide_eq_false (by omega)
      go_wp2_with fail
      go_at_call 17
      refine (awake_any _).mono ?_
      rintro e w9 ⟨rfl, hb⟩
      have HB9 := Lib.hid (below_then (below_then HBX.out HS.out) hb)
      clear hb
      go_wp2
      go_ret
      exact ⟨rfl, HB9.out⟩
theorem dwn_walk (R N : Int) (l : List E) (s : Value) (root : Int) (w : World) (hR : I64 R) (hN : I64 N) (hr : Rd3 w s l) (hf : FitT l) (hro : I64 root) :
    Calls Try.prog 9 #[.agg #[.int .i64 R, .int .i64 N, s], .int .i64 root] w fun e w' => e = .returned (.bool true) ∧ Below w.heap.size w w' := by
  cases hl : lgF R N l.length
  · by_cases h : roE R N l = 0
    · by_cases h2 : 0 ≤ root ∧ root < R
      · obtain ⟨h3, rfl⟩ := roE_ok h
        obtain ⟨r, rfl⟩ : ∃ r : Nat, R = (r : Int) := ⟨R.toNat, by omega⟩
        obtain ⟨x, rfl⟩ : ∃ x : Nat, root = (x : Int) := ⟨root.toNat, by omega⟩
        exact dwn_ok r x l s w hr hf (by omega) h hl
      · refine dwn_err R N l s root w hR hN hr hl fun al er hla => ?_
        rcases hla with ⟨a, _⟩ | ⟨_, _, rfl, _⟩ | ⟨_, a, _⟩
        · exact absurd h a
        · omega
        · exact absurd a h2
    · refine dwn_err R N l s root w hR hN hr hl fun al er hla => ?_
      rcases hla with ⟨a, rfl, _⟩ | ⟨a, _⟩ | ⟨a, _⟩
      · exact a
      · exact absurd a h
      · exact absurd a h
  · exact dwn_big R N l s root w hr hl
end Go.Proofs.Ytmbogobebllheaa
