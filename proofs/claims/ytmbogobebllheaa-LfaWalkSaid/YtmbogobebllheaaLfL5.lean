/-
  The walk of the law Walk.
-/
import Derived.Test.YtmbogobebllheaaLfWy
import Derived.Test.YtmbogobebllheaaLfM1
import Derived.Test.YtmbogobebllheaaMy
import Derived.BigQuiet
namespace Go.Proofs.Ytmbogobebllheaa
open Go.RowKit HM GM SP Go.Lib
set_option linter.unusedSimpArgs false
set_option linter.unusedVariables false
set_option maxHeartbeats 4000000
set_option maxRecDepth 100000
theorem wlk_big (R N : Int) (l : List E) (s : Value) (root : Int) (w : World) (hr : Rd3 w s l) (h : lgF R N l.length = true) :
    Calls Try.prog 7 #[.agg #[.int .i64 R, .int .i64 N, s], .int .i64 root] w fun e w' => e = .returned (.bool true) ∧ Below w.heap.size w w' := by
  obtain ⟨ad, cap, hform⟩ := rd3_slice hr
  obtain ⟨L, hL⟩ : ∃ L, l.length = L := ⟨_, rfl⟩
  rw [hL] at hform
  subst hform
  have HB0 := Lib.hid (below_alloc w (.cells #[.int .i64 R, .int .i64 N, .slice ad L cap] 27))
  have HX0 : Hid ((w.alloc (.cells #[.int .i64 R, .int .i64 N, .slice ad L cap] 27)).heap[w.heap.size]? = some (.cells #[.int .i64 R, .int .i64 N, .slice ad L cap] 27 (0, 0))) := heap_alloc_new _ _
  rw [hL] at h
  clear hr hL
  go_enter Try.func7, Try.ntmps7
  go_wp2_with fail
  go_at_call 24
  refine (large_any R N ad L cap _).mono ?_
  rintro e w1 ⟨rfl, hb⟩
  rw [h]
  have HB1 := Lib.hid (below_then HB0.out hb)
  clear hb HX0 HB0
  go_wp2_with fail
  go_at_call 17
  refine (awake_any _).mono ?_
  rintro e w2 ⟨rfl, hb⟩
  have HB2 := Lib.hid (below_then HB1.out hb)
  clear hb
  go_wp2
  go_ret
  exact ⟨rfl, HB2.out⟩
theorem wlk_err (R N : Int) (l : List E) (s : Value) (root : Int) (w : World) (hR : I64 R) (hN : I64 N) (hr : Rd3 w s l) (h : lgF R N l.length = false) (her : ∀ al er, LaR R N l root al er → er ≠ 0) :
    Calls Try.prog 7 #[.agg #[.int .i64 R, .int .i64 N, s], .int .i64 root] w fun e w' => e = .returned (.bool true) ∧ Below w.heap.size w w' := by
  have HLA : Hid (∀ W, Below w.heap.size w W → Calls Try.prog 25 #[.agg #[.int .i64 R, .int .i64 N, s], .int .i64 root] W (LaQ R N l root W)) := fun W hW => la_any R N l s root W hR hN (hr.below hW)
  obtain ⟨ad, cap, hform⟩ := rd3_slice hr
  obtain ⟨L, hL⟩ : ∃ L, l.length = L := ⟨_, rfl⟩
  rw [hL] at hform
  subst hform
  have HB0 := Lib.hid (below_alloc w (.cells #[.int .i64 R, .int .i64 N, .slice ad L cap] 27))
  have HX0 : Hid ((w.alloc (.cells #[.int .i64 R, .int .i64 N, .slice ad L cap] 27)).heap[w.heap.size]? = some (.cells #[.int .i64 R, .int .i64 N, .slice ad L cap] 27 (0, 0))) := heap_alloc_new _ _
  rw [hL] at h
  have HER := Lib.hid her
  clear hr hL her
  go_enter Try.func7, Try.ntmps7
  go_wp2_with fail
  go_at_call 24
  refine (large_any R N ad L cap _).mono ?_
  rintro e w1 ⟨rfl, hb⟩
  rw [h]
  have HB1 := Lib.hid (below_then HB0.out hb)
  have HX1 := Lib.hid ((hb.block _ (lt_block HX0.out)).trans HX0.out)
  have q0 : w1.cell? ⟨w.heap.size, 0, none⟩ = some (.int .i64 R) := cell_of HX1.out rfl
  have q1 : w1.cell? ⟨w.heap.size, 1, none⟩ = some (.int .i64 N) := cell_of HX1.out rfl
  have q2 : w1.cell? ⟨w.heap.size, 2, none⟩ = some (.slice ad L cap) := cell_of HX1.out rfl
  clear hb HX0 HB0
  go_wp2_with fail
  go_at_call 25
  refine (HLA.out _ HB1.out).mono ?_
  rintro e w2 ⟨al, er, v, rfl, hra, hla, hb⟩
  have hne := HER.out _ _ hla
  have n1 : (er != 0) = true := by simpa using hne
  have HB2 := Lib.hid (below_then HB1.out hb)
  obtain ⟨x1, x2, rfl⟩ := hra.form
  clear hb hla hra hne HER HLA q0 q1 q2
  go_wp2_with fail
  go_at_call 17
  refine (awake_any _).mono ?_
  rintro e w3 ⟨rfl, hb⟩
  have HB3 := Lib.hid (below_then HB2.out hb)
  clear hb
  go_wp2
  go_ret
  exact ⟨rfl, HB3.out⟩
theorem wlk_ok (r root : Nat) (l : List E) (s : Value) (w : World) (hr : Rd3 w s l) (hf : FitT l) (hroot : root < r) (hro : roE (r : Int) 0 l = 0) (h : lgF (r : Int) 0 l.length = false) :
    Calls Try.prog 7 #[.agg #[.int .i64 (r : Int), .int .i64 0, s], .int .i64 (root : Int)] w fun e w' => e = .returned (.bool true) ∧ Below w.heap.size w w' := by
  have hv := chk_iff.1 (roE_ok hro).1
  have hS := hv.s
  have hI : I64 (r : Int) := by unfold I64; omega
  have hI0 : I64 (0 : Int) := by unfold I64; omega
  have HLA : Hid (∀ W, Below w.heap.size w W → Calls Try.prog 25 #[.agg #[.int .i64 (r : Int), .int .i64 0, s], .int .i64 (root : Int)] W fun e w' => ∃ v t, e = .returned (.tuple #[v, .int .i64 0]) ∧ RdA w' v (allA l (root : Int) r t.hops) ∧ IsTre (r : Int) 0 l (root : Int) t ∧ Below W.heap.size W w') := fun W hW => la_ok r root l s W hv (hr.below hW) hroot hro
  have HCK : Hid (∀ W, Below w.heap.size w W → Calls Try.prog 37 #[.agg #[.int .i64 (r : Int), .int .i64 0, s]] W fun e w' => e = .returned (.int .i64 0) ∧ Below W.heap.size W w') := fun W hW => by
    have := rcheck_any (r : Int) 0 s l W hI hI0 (hr.below hW) hf
    rwa [(roE_ok hro).1] at this
  have HWY : Hid (∀ (x d : Nat) W, Below w.heap.size w W → x < r → d < r → 0 ≤ T l (x : Int) (d : Int) → Calls Try.prog 39 #[.agg #[.int .i64 (r : Int), .int .i64 0, s], .int .i64 (x : Int), .int .i64 (d : Int)] W fun e w' => ∃ v p, e = .returned v ∧ RdI w' v p ∧ ((∀ y ∈ p, On l (x : Int) (d : Int) y) ∧ (d : Int) ∈ p) ∧ Below W.heap.size W w') := fun x d W hW hx hd ho => ways_ok r x d l s W hv (hr.below hW) hf hx hd ho
  have HWK : Hid (∀ (x d : Nat) (a b : Int) W, Below w.heap.size w W → x < r → d < r → Calls Try.prog 35 #[.agg #[.int .i64 (r : Int), .int .i64 0, s], .int .i64 (x : Int), .int .i64 (d : Int), .int .i64 a, .int .i64 b] W fun e w' => ∃ p ok v, e = .returned (.tuple #[v, .bool ok]) ∧ RdI w' v p ∧ Wk (r : Int) l (d : Int) a b (x : Int) p ok ∧ Below W.heap.size W w') := fun x d a b W hW hx hd => wk_ok r x d l s a b W hv (hr.below hW) hx hd hro
  have HV := Lib.hid hv
  have hr8 : r ≤ 128 := by omega
  obtain ⟨ad, cap, hform⟩ := rd3_slice hr
  obtain ⟨L, hL⟩ : ∃ L, l.length = L := ⟨_, rfl⟩
  rw [hL] at hform
  subst hform
  have HB0 := Lib.hid (below_alloc w (.cells #[.int .i64 (r : Int), .int .i64 0, .slice ad L cap] 27))
  have HX0 : Hid ((w.alloc (.cells #[.int .i64 (r : Int), .int .i64 0, .slice ad L cap] 27)).heap[w.heap.size]? = some (.cells #[.int .i64 (r : Int), .int .i64 0, .slice ad L cap] 27 (0, 0))) := heap_alloc_new _ _
  rw [hL] at h
  clear hr hL hv hS hI hI0 hro hf
  go_enter Try.func7, Try.ntmps7
  go_wp2_with fail
  go_at_call 24
  refine (large_any (r : Int) 0 ad L cap _).mono ?_
  rintro e w1 ⟨rfl, hb⟩
  rw [h]
  have HB1 := Lib.hid (below_then HB0.out hb)
  have HX1 := Lib.hid ((hb.block _ (lt_block HX0.out)).trans HX0.out)
  have q0 : w1.cell? ⟨w.heap.size, 0, none⟩ = some (.int .i64 (r : Int)) := cell_of HX1.out rfl
  have q1 : w1.cell? ⟨w.heap.size, 1, none⟩ = some (.int .i64 0) := cell_of HX1.out rfl
  have q2 : w1.cell? ⟨w.heap.size, 2, none⟩ = some (.slice ad L cap) := cell_of HX1.out rfl
  clear hb HX0 HB0 h
  go_wp2_with fail
  go_at_call 25
  refine (HLA.out _ HB1.out).mono ?_
  rintro e w2 ⟨lv, t, rfl, hra, hist, hb⟩
  have HB2 := Lib.hid (below_then HB1.out hb)
  have HX2 := Lib.hid ((hb.block _ (lt_block HX1.out)).trans HX1.out)
  have HA2 := Lib.hid hra
  have HAN : Hid (∀ a ∈ allA l (root : Int) r t.hops, ∃ d v p, AlN l r root t.hops a d v p) := fun a ha => al_num HV.out hroot hist ha
  obtain ⟨x1, x2, hlf⟩ := hra.form
  subst hlf
  generalize allA l (root : Int) r t.hops = al at *
  clear hb hra hist HLA HB1 HX1 q0 q1 q2
  have q0 : w2.cell? ⟨w.heap.size, 0, none⟩ = some (.int .i64 (r : Int)) := cell_of HX2.out rfl
  have q1 : w2.cell? ⟨w.heap.size, 1, none⟩ = some (.int .i64 0) := cell_of HX2.out rfl
  have q2 : w2.cell? ⟨w.heap.size, 2, none⟩ = some (.slice ad L cap) := cell_of HX2.out rfl
  go_wp2_with fail
  go_at_call 37
  refine (HCK.out _ HB2.out).mono ?_
  rintro e X ⟨rfl, hb⟩
  clear q0 q1 q2
  have HBX := Lib.hid (below_then HB2.out hb)
  have HXX := Lib.hid ((hb.block _ (lt_block HX2.out)).trans HX2.out)
  have HAX := Lib.hid (HA2.out.below hb)
  clear hb HCK HB2 HX2 HA2
  obtain ⟨M, hM⟩ : ∃ M, al.length = M := ⟨_, rfl⟩
  obtain ⟨pad, pcap, hpe, hp1, hp2, hpr⟩ := HAX.out
  rw [hM] at hpe hp1 ⊢
  cases hpe
  have HM := Lib.hid hM
  have HPR := Lib.hid hpr
  have HQ : Hid (∀ W, Below X.heap.size X W → W.cell? ⟨w.heap.size, 0, none⟩ = some (.int .i64 (r : Int)) ∧ W.cell? ⟨w.heap.size, 1, none⟩ = some (.int .i64 0) ∧ W.cell? ⟨w.heap.size, 2, none⟩ = some (.slice ad L cap)) := fun W hW => ⟨carry hW (cell_of HXX.out rfl), carry hW (cell_of HXX.out rfl), carry hW (cell_of HXX.out rfl)⟩
  have HS0 : Hid (Below X.heap.size X X) := Below.refl _ _
  clear hpr hM HAX HXX
  go_wp2_with fail
  go_loopg [8, 9, 10, 11, 29] M (fun g s8 s9 s10 s11 s29 wr => ∃ k : Nat, k ≤ M ∧ M - k ≤ g ∧ (∃ q, q = s8) ∧ (∃ q, q = s9) ∧ (∃ q, q = s10) ∧ (∃ q, q = s11) ∧ s29 = .int .i64 (k : Int) ∧ Hid (Below X.heap.size X wr))
  case atStart => exact ⟨0, by omega, by omega, ⟨_, rfl⟩, ⟨_, rfl⟩, ⟨_, rfl⟩, ⟨_, rfl⟩, rfl, HS0⟩
  case round =>
    clear HS0
    obtain ⟨k, hk, hkg, ⟨u8, rfl⟩, ⟨u9, rfl⟩, ⟨u10, rfl⟩, ⟨u11, rfl⟩, rfl, HS⟩ := hrel
    by_cases hkl : k < M
    · have k0 : (0 : Int) ≤ (k : Int) := by omega
      have k1 : (k : Int) < (M : Int) := by omega
      obtain ⟨a, ha⟩ : ∃ a, al[k]? = some a := ⟨_, List.getElem?_eq_getElem (by have := HM.out; omega)⟩
      obtain ⟨d, v, p, han⟩ := HAN.out a (List.mem_of_getElem? ha)
      obtain ⟨pb, po, rfl, hpb, c0, c1, c2, c3, c4⟩ := HPR.out k a ha
      obtain ⟨ad0, ap0, av0, ak0, dn⟩ := a
      have hd := han.hd; have hvv := han.hv; have hp := han.hp; have hfin := han.fin.1; have his := han.is
      dsimp only at hd hvv hp c0 c1 c2 c3 c4
      obtain ⟨rfl, hd⟩ := hd
      obtain ⟨rfl, hvv⟩ := hvv
      obtain ⟨rfl, hp⟩ := hp
      have hfree := his.free
      have hkind := his.kind
      dsimp only at hfree hkind
      have HNR : Hid (¬ On l (v : Int) (d : Int) (root : Int)) := fun ho => by
        obtain ⟨o1, o2, o3⟩ := ho
        obtain ⟨h1, h2 | h2 | h2⟩ := hfree <;> omega
      have HNP : Hid (ak0 = 2 → ¬ On l (v : Int) (d : Int) (p : Int)) := fun e ho => by
        obtain ⟨o1, o2, o3⟩ := ho
        rcases hkind with ⟨_, _, h1, h2 | h2 | h2⟩ | ⟨h1, _⟩ <;> omega
      have HKI : Hid (ak0 = 2 ∨ ak0 = 1) := hkind.imp And.left And.left
      have HOV : Hid (On l (v : Int) (d : Int) (v : Int)) := On.start HV.out hfin
      have HFI := Lib.hid hfin
      have f0 := carry HS.out c0
      have f1 := carry HS.out c1
      have f2 := carry HS.out c2
      have f3 := carry HS.out c3
      have f4 := carry HS.out c4
      have HS1 : Hid (Below X.heap.size X (wr.alloc (.cells #[.int .i64 (d : Int), .int .i64 (p : Int), .int .i64 (v : Int), .int .i64 ak0, .bool dn] 47))) := below_then HS.out (below_alloc _ _)
      have HAB : Hid ((wr.alloc (.cells #[.int .i64 (d : Int), .int .i64 (p : Int), .int .i64 (v : Int), .int .i64 ak0, .bool dn] 47)).heap[wr.heap.size]? = some (.cells #[.int .i64 (d : Int), .int .i64 (p : Int), .int .i64 (v : Int), .int .i64 ak0, .bool dn] 47 (0, 0))) := heap_alloc_new _ _
      have HU0 : Hid (Below (wr.alloc (.cells #[.int .i64 (d : Int), .int .i64 (p : Int), .int .i64 (v : Int), .int .i64 ak0, .bool dn] 47)).heap.size (wr.alloc (.cells #[.int .i64 (d : Int), .int .i64 (p : Int), .int .i64 (v : Int), .int .i64 ak0, .bool dn] 47)) (wr.alloc (.cells #[.int .i64 (d : Int), .int .i64 (p : Int), .int .i64 (v : Int), .int .i64 ak0, .bool dn] 47))) := Below.refl _ _
      have q0 := (HQ.out _ HS1.out).1
      have q1 := (HQ.out _ HS1.out).2.1
      have q2 := (HQ.out _ HS1.out).2.2
      clear c0 c1 c2 c3 c4 ha han hpb hfree hkind his hfin
      go_wp2_with fail
      clear q0 q1 q2 f0 f1 f2 f3 f4
      generalize hV : (wr.alloc (.cells #[.int .i64 (d : Int), .int .i64 (p : Int), .int .i64 (v : Int), .int .i64 ak0, .bool dn] 47)) = V at *
      clear hV
      go_at_call 38
      refine (lnode_any r v _ _ hvv hr8).mono ?_
      rintro e u1 ⟨rfl, hb⟩
      have HU1 := Lib.hid (below_then HU0.out hb)
      clear hb
      have q0 := carry HU1.out (HQ.out _ HS1.out).1
      have q1 := carry HU1.out (HQ.out _ HS1.out).2.1
      have q2 := carry HU1.out (HQ.out _ HS1.out).2.2
      have b0 : u1.cell? ⟨wr.heap.size, 0, none⟩ = some (.int .i64 (d : Int)) := carry HU1.out (cell_of HAB.out rfl)
      have b1 : u1.cell? ⟨wr.heap.size, 1, none⟩ = some (.int .i64 (p : Int)) := carry HU1.out (cell_of HAB.out rfl)
      have b2 : u1.cell? ⟨wr.heap.size, 2, none⟩ = some (.int .i64 (v : Int)) := carry HU1.out (cell_of HAB.out rfl)
      have b3 : u1.cell? ⟨wr.heap.size, 3, none⟩ = some (.int .i64 ak0) := carry HU1.out (cell_of HAB.out rfl)
      go_wp2_with fail
      clear q0 q1 q2 b0 b1 b2 b3
      go_at_call 38
      refine (lnode_any r d _ _ hd hr8).mono ?_
      rintro e u2 ⟨rfl, hb⟩
      have HU2 := Lib.hid (below_then HU1.out hb)
      clear hb
      have q0 := carry HU2.out (HQ.out _ HS1.out).1
      have q1 := carry HU2.out (HQ.out _ HS1.out).2.1
      have q2 := carry HU2.out (HQ.out _ HS1.out).2.2
      have b0 : u2.cell? ⟨wr.heap.size, 0, none⟩ = some (.int .i64 (d : Int)) := carry HU2.out (cell_of HAB.out rfl)
      have b1 : u2.cell? ⟨wr.heap.size, 1, none⟩ = some (.int .i64 (p : Int)) := carry HU2.out (cell_of HAB.out rfl)
      have b2 : u2.cell? ⟨wr.heap.size, 2, none⟩ = some (.int .i64 (v : Int)) := carry HU2.out (cell_of HAB.out rfl)
      have b3 : u2.cell? ⟨wr.heap.size, 3, none⟩ = some (.int .i64 ak0) := carry HU2.out (cell_of HAB.out rfl)
      go_wp2_with fail
      clear q0 q1 q2 b0 b1 b2 b3
      go_at_call 38
      refine (lnode_any r p _ _ hp hr8).mono ?_
      rintro e u3 ⟨rfl, hb⟩
      have HU3 := Lib.hid (below_then HU2.out hb)
      clear hb
      have q0 := carry HU3.out (HQ.out _ HS1.out).1
      have q1 := carry HU3.out (HQ.out _ HS1.out).2.1
      have q2 := carry HU3.out (HQ.out _ HS1.out).2.2
      have b0 : u3.cell? ⟨wr.heap.size, 0, none⟩ = some (.int .i64 (d : Int)) := carry HU3.out (cell_of HAB.out rfl)
      have b1 : u3.cell? ⟨wr.heap.size, 1, none⟩ = some (.int .i64 (p : Int)) := carry HU3.out (cell_of HAB.out rfl)
      have b2 : u3.cell? ⟨wr.heap.size, 2, none⟩ = some (.int .i64 (v : Int)) := carry HU3.out (cell_of HAB.out rfl)
      have b3 : u3.cell? ⟨wr.heap.size, 3, none⟩ = some (.int .i64 ak0) := carry HU3.out (cell_of HAB.out rfl)
      go_wp2_with fail
      clear q0 q1 q2 b0 b1 b2 b3
      go_at_call 38
      refine (lnode_any r root _ _ hroot hr8).mono ?_
      rintro e u4 ⟨rfl, hb⟩
      have HU4 := Lib.hid (below_then HU3.out hb)
      clear hb
      have q0 := carry HU4.out (HQ.out _ HS1.out).1
      have q1 := carry HU4.out (HQ.out _ HS1.out).2.1
      have q2 := carry HU4.out (HQ.out _ HS1.out).2.2
      have b0 : u4.cell? ⟨wr.heap.size, 0, none⟩ = some (.int .i64 (d : Int)) := carry HU4.out (cell_of HAB.out rfl)
      have b1 : u4.cell? ⟨wr.heap.size, 1, none⟩ = some (.int .i64 (p : Int)) := carry HU4.out (cell_of HAB.out rfl)
      have b2 : u4.cell? ⟨wr.heap.size, 2, none⟩ = some (.int .i64 (v : Int)) := carry HU4.out (cell_of HAB.out rfl)
      have b3 : u4.cell? ⟨wr.heap.size, 3, none⟩ = some (.int .i64 ak0) := carry HU4.out (cell_of HAB.out rfl)
      go_wp2_with fail
      clear q0 q1 q2 b0 b1 b2 b3
      go_at_call 39
      refine (HWY.out v d _ (below_then HBX.out (below_then HS1.out HU4.out)) hvv hd HFI.out).mono ?_
      rintro e u5 ⟨vw, ways, rfl, hrw, ⟨hw1, hw2⟩, hb⟩
      have HU5 := Lib.hid (below_then HU4.out hb)
      have HW5 := Lib.hid hrw
      have HWR : Hid ((root : Int) ∉ ways) := fun hm => HNR.out (hw1 _ hm)
      have HWP : Hid (ak0 = 2 → (p : Int) ∉ ways) := fun e hm => HNP.out e (hw1 _ hm)
      have HWD := Lib.hid hw2
      obtain ⟨y1, y2, hyf⟩ := hrw.form
      subst hyf
      clear hb hrw hw1 hw2
      have q0 := carry HU5.out (HQ.out _ HS1.out).1
      have q1 := carry HU5.out (HQ.out _ HS1.out).2.1
      have q2 := carry HU5.out (HQ.out _ HS1.out).2.2
      have b0 : u5.cell? ⟨wr.heap.size, 0, none⟩ = some (.int .i64 (d : Int)) := carry HU5.out (cell_of HAB.out rfl)
      have b1 : u5.cell? ⟨wr.heap.size, 1, none⟩ = some (.int .i64 (p : Int)) := carry HU5.out (cell_of HAB.out rfl)
      have b2 : u5.cell? ⟨wr.heap.size, 2, none⟩ = some (.int .i64 (v : Int)) := carry HU5.out (cell_of HAB.out rfl)
      have b3 : u5.cell? ⟨wr.heap.size, 3, none⟩ = some (.int .i64 ak0) := carry HU5.out (cell_of HAB.out rfl)
      go_wp2_with fail
      clear q0 q1 q2 b0 b1 b2 b3
      go_at_call 35
      refine (HWK.out v d (root : Int) (p : Int) _ (below_then HBX.out (below_then HS1.out HU5.out)) hvv hd).mono ?_
      rintro e u6 ⟨path, ok, vp, rfl, hrp, hwk, hb⟩
      obtain ⟨rfl, _⟩ := Wk.arrives HV.out (s := (v : Int)) ⟨by omega, by omega⟩ hwk HOV.out (fun x y hx hy hl => by
        rcases hl with ⟨rfl, _⟩ | ⟨_, rfl⟩
        · exact HNR.out hx
        · exact HNR.out hy)
      have HPRT : Hid ((root : Int) ∉ path) := fun hm => HNR.out (Wk.on HV.out hwk HOV.out _ hm)
      have HU6 := Lib.hid (below_then HU5.out hb)
      have HW6 := Lib.hid (HW5.out.below hb)
      have HP6 := Lib.hid hrp
      obtain ⟨z1, z2, hzf⟩ := hrp.form
      subst hzf
      clear hb hrp hwk HW5
      have q0 := carry HU6.out (HQ.out _ HS1.out).1
      have q1 := carry HU6.out (HQ.out _ HS1.out).2.1
      have q2 := carry HU6.out (HQ.out _ HS1.out).2.2
      have b0 : u6.cell? ⟨wr.heap.size, 0, none⟩ = some (.int .i64 (d : Int)) := carry HU6.out (cell_of HAB.out rfl)
      have b1 : u6.cell? ⟨wr.heap.size, 1, none⟩ = some (.int .i64 (p : Int)) := carry HU6.out (cell_of HAB.out rfl)
      have b2 : u6.cell? ⟨wr.heap.size, 2, none⟩ = some (.int .i64 (v : Int)) := carry HU6.out (cell_of HAB.out rfl)
      have b3 : u6.cell? ⟨wr.heap.size, 3, none⟩ = some (.int .i64 ak0) := carry HU6.out (cell_of HAB.out rfl)
      go_wp2_with fail
      go_at_call 40
      refine (rhasq_any ways _ (root : Int) _ HW6.out).mono ?_
      rintro e w7 ⟨rfl, hw7⟩
      subst hw7
      rw [decide_eq_false HWR.out]
      go_wp2_with fail
      go_at_call 40
      refine (rhasq_any path _ (root : Int) _ HP6.out).mono ?_
      rintro e w8 ⟨rfl, hw8⟩
      subst hw8
      rw [decide_eq_false HPRT.out]
      go_wp2_with fail
      go_at_call 40
      refine (rhasq_any ways _ (d : Int) _ HW6.out).mono ?_
      rintro e w9 ⟨rfl, hw9⟩
      subst hw9
      rw [decide_eq_true HWD.out]
      have HSF := Lib.hid (below_then HS1.out HU6.out)
      rcases HKI.out with hk2 | hk2
      · subst hk2
        go_wp2_with fail
        go_at_call 40
        refine (rhasq_any ways _ (p : Int) _ HW6.out).mono ?_
        rintro e w10 ⟨rfl, hw10⟩
        subst hw10
        rw [decide_eq_false (HWP.out (by first | exact True.intro | rfl))]
        go_wp2_with fail
        go_roundg (M - (k + 1))
        case measure => omega
        case rel => exact ⟨k + 1, by omega, Nat.le_refl _, ⟨_, rfl⟩, ⟨_, rfl⟩, ⟨_, rfl⟩, ⟨_, rfl⟩, by go_num, HSF⟩
      · subst hk2
        go_wp2_with fail
        go_roundg (M - (k + 1))
        case measure => omega
        case rel => exact ⟨k + 1, by omega, Nat.le_refl _, ⟨_, rfl⟩, ⟨_, rfl⟩, ⟨_, rfl⟩, ⟨_, rfl⟩, by go_num, HSF⟩
    · have k1 : decide ((k : Int) < (M : Int)) = false := decide_eq_false (by omega)
      have HBF := Lib.hid (below_then HBX.out HS.out)
      go_wp2_with fail
      go_at_call 17
      refine (awake_any _).mono ?_
      rintro e w9 ⟨rfl, hb⟩
      have HB9 := Lib.hid (below_then HBF.out hb)
      clear hb
      go_wp2
      go_ret
      exact ⟨rfl, HB9.out⟩
theorem wlk_walk (R N : Int) (l : List E) (s : Value) (root : Int) (w : World) (hR : I64 R) (hN : I64 N) (hr : Rd3 w s l) (hf : FitT l) (hro : I64 root) :
    Calls Try.prog 7 #[.agg #[.int .i64 R, .int .i64 N, s], .int .i64 root] w fun e w' => e = .returned (.bool true) ∧ Below w.heap.size w w' := by
  cases hl : lgF R N l.length
  · by_cases h : roE R N l = 0
    · by_cases h2 : 0 ≤ root ∧ root < R
      · obtain ⟨h3, rfl⟩ := roE_ok h
        obtain ⟨r, rfl⟩ : ∃ r : Nat, R = (r : Int) := ⟨R.toNat, by omega⟩
        obtain ⟨x, rfl⟩ : ∃ x : Nat, root = (x : Int) := ⟨root.toNat, by omega⟩
        exact wlk_ok r x l s w hr hf (by omega) h hl
      · refine wlk_err R N l s root w hR hN hr hl fun al er hla => ?_
        rcases hla with ⟨a, _⟩ | ⟨_, _, rfl, _⟩ | ⟨_, a, _⟩
        · exact absurd h a
        · omega
        · exact absurd a h2
    · refine wlk_err R N l s root w hR hN hr hl fun al er hla => ?_
      rcases hla with ⟨a, rfl, _⟩ | ⟨a, _⟩ | ⟨a, _⟩
      · exact a
      · exact absurd a h
      · exact absurd a h
  · exact wlk_big R N l s root w hr hl
end Go.Proofs.Ytmbogobebllheaa
