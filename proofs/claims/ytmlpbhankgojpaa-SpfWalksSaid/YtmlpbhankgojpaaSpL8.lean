/-
  The walk of the law Walks.
-/
import Derived.Test.YtmlpbhankgojpaaSpL2
import Derived.Test.YtmlpbhankgojpaaSpDr
namespace Go.Proofs.Ytmlpbhankgojpaa
open Go.RowKit HM GM SP
set_option linter.unusedSimpArgs false
set_option linter.unusedVariables false
set_option maxHeartbeats 4000000
set_option maxRecDepth 100000
theorem below_undrew {B : Nat} {a w : World} (h : Below B a.drew w) : Below B a w := ⟨h.os, h.tape, h.output, h.size, h.block⟩
theorem hasL_any (m : List Int) (v : Value) (y : Int) (w : World) (hv : RdI w v m) : Calls Try.prog 26 #[v, .int .i64 y] w fun e w' => e = .returned (.bool (decide (y ∈ m))) ∧ Below w.heap.size w w' := by
  obtain ⟨ad, cap, rfl, h1, h2, hc⟩ := hv
  have HC := Lib.hid hc
  obtain ⟨L, hL⟩ : ∃ L, m.length = L := ⟨_, rfl⟩
  rw [hL] at h1 ⊢
  have HL := Lib.hid hL
  clear hc hL
  go_enter Try.func26, Try.ntmps26
  go_wp2_with fail
  have HS : Hid (Below w.heap.size w w ∧ ∀ k z, k < 0 → m[k]? = some z → z ≠ y) := ⟨Below.refl _ _, fun k z h => by omega⟩
  go_loopg [5, 8] L (fun g s5 s8 wr => ∃ k : Nat, k ≤ L ∧ L - k ≤ g ∧ s8 = .int .i64 (k : Int) ∧ (∃ q, q = s5) ∧ Hid (Below w.heap.size w wr ∧ ∀ j z, j < k → m[j]? = some z → z ≠ y))
  case atStart => exact ⟨0, by omega, by omega, rfl, ⟨_, rfl⟩, HS⟩
  case round =>
    clear HS
    obtain ⟨k, hk, hkg, rfl, ⟨u5, rfl⟩, HS⟩ := hrel
    by_cases hlt : k < L
    · obtain ⟨z, hz⟩ : ∃ z, m[k]? = some z := ⟨_, List.getElem?_eq_getElem (by rw [HL.out]; exact hlt)⟩
      obtain ⟨b, off, rfl, hb, c⟩ := HC.out k z hz
      have c' := carryB HS.out.1 hb c
      have HZ := Lib.hid hz
      have k0 : (0 : Int) ≤ (k : Int) := by omega
      have k1 : (k : Int) < (L : Int) := by omega
      clear c hz
      by_cases he : z = y
      · have HM : Hid (decide (y ∈ m) = true) := decide_eq_true (by rw [← he]; exact List.mem_of_getElem? HZ.out)
        have HB := Lib.hid HS.out.1
        clear HS HZ
        subst he
        go_wp2
        go_ret
        exact ⟨by rw [HM.out]; rfl, HB.out⟩
      · have he1 : (z == y) = false := by simpa using he
        have HN : Hid (Below w.heap.size w wr ∧ ∀ j z, j < k + 1 → m[j]? = some z → z ≠ y) := ⟨HS.out.1, fun j z' hj hz' => by
          by_cases e : j = k
          · subst e; have := HZ.out; rw [hz'] at this; cases this; exact he
          · exact HS.out.2 j z' (by omega) hz'⟩
        clear HS
        go_wp2_with fail
        go_roundg (L - (k + 1))
        case measure => omega
        case rel => exact ⟨k + 1, by omega, Nat.le_refl _, by go_num, ⟨_, rfl⟩, HN⟩
    · have k1 : decide ((k : Int) < (L : Int)) = false := decide_eq_false (by omega)
      have HM : Hid (decide (y ∈ m) = false) := decide_eq_false fun hm => by
        obtain ⟨j, hj⟩ := List.getElem?_of_mem hm
        exact HS.out.2 j y (by have := (List.getElem?_eq_some_iff.1 hj).1; have := HL.out; omega) hj rfl
      have HB := Lib.hid HS.out.1
      clear HS
      go_wp2
      go_ret
      exact ⟨by rw [HM.out]; rfl, HB.out⟩
theorem walks_fail (R N : Int) (l : List E) (s : Value) (root tz : Int) (w : World) (hR : I64 R) (hN : I64 N) (hr : Rd3 w s l) (hn : ¬ (chk R N l = 0 ∧ 0 ≤ root ∧ root < R)) :
    Calls Try.prog 10 #[.agg #[.int .i64 R, .int .i64 N, s], .int .i64 root, .int .i64 tz] w fun e w' => e = .returned (.bool true) ∧ Below w.heap.size w w' := by
  have HRun : Hid (∀ W, Below w.heap.size w W → Calls Try.prog 12 #[.agg #[.int .i64 R, .int .i64 N, s], .int .i64 root] W (RunQ R N l root W)) := fun W hW => run_any R N l s root W hR hN (hr.below hW)
  have HF : Hid (∀ t er, RunR R N l root t er → (er == 0) = false ∧ (er != 0) = true) := fun t er h => h.fail hn
  obtain ⟨ad, cap, hform⟩ := rd3_slice hr
  obtain ⟨L, hL⟩ : ∃ L, l.length = L := ⟨_, rfl⟩
  rw [hL] at hform
  subst hform
  clear hr hL hn
  have HB := Lib.hid (below_alloc w (.cells #[.int .i64 R, .int .i64 N, .slice ad L cap] 24))
  go_enter Try.func10, Try.ntmps10
  go_wp2_with fail
  go_at_call 12
  refine (HRun.out _ HB.out).mono ?_
  rintro e w1 ⟨t, er, tv, rfl, ht, hq, hb⟩
  obtain ⟨he0, he1⟩ := HF.out _ _ hq
  have HB1 := Lib.hid (below_then HB.out hb)
  clear hb HB hq HF HRun
  obtain ⟨td, th, tp, rfl, r1, r2, r3⟩ := ht
  obtain ⟨a1, q1, rfl⟩ := r1.form
  obtain ⟨a2, q2, rfl⟩ := r2.form
  obtain ⟨a3, q3, rfl⟩ := r3.form
  clear r1 r2 r3
  go_wp2_with fail
  go_at_call 15
  refine (lives_any _).mono ?_
  rintro e w2 ⟨rfl, hb⟩
  have HB2 := Lib.hid (below_then (below_then HB1.out (below_alloc _ _)) hb)
  clear hb
  go_wp2
  go_ret
  exact ⟨rfl, HB2.out⟩
theorem walks_good (R N : Int) (l : List E) (s : Value) (root tz : Int) (w : World) (hR : I64 R) (hN : I64 N) (hr : Rd3 w s l) (hf : FitT l) (hc : chk R N l = 0) (hro : 0 ≤ root ∧ root < R) :
    Calls Try.prog 10 #[.agg #[.int .i64 R, .int .i64 N, s], .int .i64 root, .int .i64 tz] w fun e w' => e = .returned (.bool true) ∧ Below w.heap.size w w' := by
  have hv := chk_iff.1 hc
  have hR0 := hv.r; have hN0 := hv.n; have hS := hv.s
  obtain ⟨n, hn⟩ : ∃ n : Nat, (n : Int) = R + N := ⟨(R + N).toNat, by omega⟩
  obtain ⟨x, rfl⟩ : ∃ x : Nat, root = (x : Int) := ⟨root.toNat, by omega⟩
  have HRun : Hid (∀ W, Below w.heap.size w W → Calls Try.prog 12 #[.agg #[.int .i64 R, .int .i64 N, s], .int .i64 (x : Int)] W fun e w' => ∃ t tv, e = .returned (.tuple #[tv, .int .i64 0]) ∧ RdT w' tv t ∧ t.root = (x : Int) ∧ Tree R N l (x : Int) n t.dist t.hops t.pars ∧ Below W.heap.size W w') := fun W hW => by
    refine (run_any R N l s (x : Int) W hR hN (hr.below hW)).mono ?_
    rintro e w' ⟨t, er, tv, rfl, ht, hq, hb⟩
    obtain ⟨rfl, m, hm, h1, h2⟩ := hq.good ⟨hc, hro⟩
    obtain rfl : m = n := by omega
    exact ⟨t, tv, rfl, ht, h1, h2, hb⟩
  have HPa : Hid (∀ (t : Tre) (tv : Value) W, Tree R N l (x : Int) n t.dist t.hops t.pars → t.root = (x : Int) → RdT W tv t → Calls Try.prog 19 #[tv, .int .i64 tz] W fun e w' => ∃ v p, e = .returned v ∧ PaR l (x : Int) tz n p ∧ RdI w' v p ∧ Below W.heap.size W w') := fun t tv W h1 h2 h3 => by
    refine (path_any R N l (x : Int) tz n t tv W hv hn hro h1 h2 h3).mono ?_
    rintro e w' ⟨v, p, rfl, k1, k2, k3⟩
    exact ⟨v, p, rfl, k1, rdi_own k2, k3⟩
  have HCo : Hid (∀ a c W, Below w.heap.size w W → Calls Try.prog 25 #[.agg #[.int .i64 R, .int .i64 N, s], .int .i64 a, .int .i64 c] W fun e w' => e = .returned (.tuple #[.int .i64 (cstF a c l).1, .bool (cstF a c l).2]) ∧ Below W.heap.size W w') := fun a c W hW => rcost_any R N a c l s W (hr.below hW)
  have HSM : Hid (∀ i : Nat, i < n → T l (x : Int) (i : Int) ≤ 65535 * 129) := fun i hi => by
    by_cases h : 0 ≤ T l (x : Int) (i : Int)
    · have := T_small hv hn (i := (x : Int)) (k := (i : Int)) (by omega) h; omega
    · omega
  have HV : Hid (Valid R N l ∧ (n : Int) = R + N ∧ (x : Int) < R) := ⟨hv, hn, hro.2⟩
  obtain ⟨ad, cap, rfl, hcap1, hcap2, hcc⟩ := hr
  have HC := Lib.hid hcc
  obtain ⟨L, hL⟩ : ∃ L, l.length = L := ⟨_, rfl⟩
  rw [hL] at HRun HCo hcap1 ⊢
  have HL := Lib.hid hL
  have hxn : x < n := by omega
  have hn8 : n ≤ 128 := by omega
  have hn1 : R + N = (n : Int) := hn.symm
  have x0 : (0 : Int) ≤ (x : Int) := by omega
  have x1 : (x : Int) < (n : Int) := by omega
  clear hv hc hcc hL hn hro
  have HB := Lib.hid (below_alloc w (.cells #[.int .i64 R, .int .i64 N, .slice ad L cap] 24))
  have bx : (w.alloc (.cells #[.int .i64 R, .int .i64 N, .slice ad L cap] 24)).heap[w.heap.size]? = some (.cells #[.int .i64 R, .int .i64 N, .slice ad L cap] 24 (0, 0)) := heap_alloc_new _ _
  have HBX := Lib.hid bx
  clear bx
  go_enter Try.func10, Try.ntmps10
  go_wp2_with fail
  go_at_call 12
  refine (HRun.out _ HB.out).mono ?_
  rintro e w1 ⟨t, tv, rfl, ht, htr, hT, hb⟩
  have HT := Lib.hid hT
  have HTR := Lib.hid (And.intro ht htr)
  obtain ⟨td, th, tp, rfl, r1, r2, r3⟩ := ht
  obtain ⟨b1, o1, q1, rfl, hq1, hb1, hd⟩ := r1.cells hT.ld (by omega)
  obtain ⟨b2, o2, q2, rfl, hq2, hb2, hh⟩ := r2.cells hT.lh (by omega)
  obtain ⟨b3, o3, q3, rfl, hq3, hb3, hp⟩ := r3.cells hT.lp (by omega)
  rw [htr]
  have HB1 := Lib.hid (below_then HB.out hb)
  have HO1 := Lib.hid ((hb.block _ (lt_block HBX.out)).trans HBX.out)
  clear hb HRun HB HBX htr hT r1 r2 r3
  have cg : ∀ o, (w1.alloc o).heap[w.heap.size]? = some (.cells #[.int .i64 R, .int .i64 N, .slice ad L cap] 24 (0, 0)) := fun o => heap_up HO1.out
  have cg0 : ∀ o, (w1.alloc o).cell? ⟨w.heap.size, 0, none⟩ = some (.int .i64 R) := fun o => cell_of (cg o) rfl
  have cg1 : ∀ o, (w1.alloc o).cell? ⟨w.heap.size, 1, none⟩ = some (.int .i64 N) := fun o => cell_of (cg o) rfl
  have cg2 : ∀ o, (w1.alloc o).cell? ⟨w.heap.size, 2, none⟩ = some (.slice ad L cap) := fun o => cell_of (cg o) rfl
  clear cg
  go_wp2_with fail
  clear cg0 cg1 cg2
  have o4 : (w1.alloc (.cells #[.int .i64 (x : Int), .slice (some ⟨b1, o1, none⟩) n q1, .slice (some ⟨b2, o2, none⟩) n q2, .slice (some ⟨b3, o3, none⟩) n q3] 28)).heap[w1.heap.size]? = some (.cells #[.int .i64 (x : Int), .slice (some ⟨b1, o1, none⟩) n q1, .slice (some ⟨b2, o2, none⟩) n q2, .slice (some ⟨b3, o3, none⟩) n q3] 28 (0, 0)) := heap_new1 _ _ rfl
  have o5 : (w1.alloc (.cells #[.int .i64 (x : Int), .slice (some ⟨b1, o1, none⟩) n q1, .slice (some ⟨b2, o2, none⟩) n q2, .slice (some ⟨b3, o3, none⟩) n q3] 28)).heap[w.heap.size]? = _ := heap_up HO1.out
  have hVb := below_alloc w1 (.cells #[.int .i64 (x : Int), .slice (some ⟨b1, o1, none⟩) n q1, .slice (some ⟨b2, o2, none⟩) n q2, .slice (some ⟨b3, o3, none⟩) n q3] 28)
  have HBV := Lib.hid (below_then HB1.out hVb)
  generalize (w1.alloc (.cells #[.int .i64 (x : Int), .slice (some ⟨b1, o1, none⟩) n q1, .slice (some ⟨b2, o2, none⟩) n q2, .slice (some ⟨b3, o3, none⟩) n q3] 28)) = V at *
  have HCG : Hid (∀ W, Below V.heap.size V W → W.cell? ⟨w.heap.size, 0, none⟩ = some (.int .i64 R) ∧ W.cell? ⟨w.heap.size, 1, none⟩ = some (.int .i64 N) ∧ W.cell? ⟨w.heap.size, 2, none⟩ = some (.slice ad L cap)) := fun W hW => ⟨carry hW (cell_of o5 rfl), carry hW (cell_of o5 rfl), carry hW (cell_of o5 rfl)⟩
  have HCT : Hid (∀ W, Below V.heap.size V W → W.cell? ⟨w1.heap.size, 0, none⟩ = some (.int .i64 (x : Int)) ∧ W.cell? ⟨w1.heap.size, 1, none⟩ = some (.slice (some ⟨b1, o1, none⟩) n q1) ∧ W.cell? ⟨w1.heap.size, 2, none⟩ = some (.slice (some ⟨b2, o2, none⟩) n q2) ∧ W.cell? ⟨w1.heap.size, 3, none⟩ = some (.slice (some ⟨b3, o3, none⟩) n q3)) := fun W hW => ⟨carry hW (cell_of o4 rfl), carry hW (cell_of o4 rfl), carry hW (cell_of o4 rfl), carry hW (cell_of o4 rfl)⟩
  have HRT := Lib.hid (And.intro (HTR.out.1.below hVb) HTR.out.2)
  have HRT2 := Lib.hid HRT.out.1
  rw [HRT.out.2] at HRT2
  have HD : Hid (∀ W, Below V.heap.size V W → ∀ k, k < n → W.cell? ⟨b1, o1 + k, none⟩ = some (.int .i64 (gI t.dist k))) := fun W hW k hk => carry hW (carry hVb (hd k hk))
  have HH : Hid (∀ W, Below V.heap.size V W → ∀ k, k < n → ∃ a c, W.cell? ⟨b2, o2 + k, none⟩ = some (.slice a (gL t.hops k).length c) ∧ RdI W (.slice a (gL t.hops k).length c) (gL t.hops k)) := fun W hW k hk => by
    obtain ⟨u, h1, h2⟩ := hh k hk
    have h3 := (h2.below hVb).below hW
    obtain ⟨a, c, rfl⟩ := h2.form
    exact ⟨a, c, carry hW (carry hVb h1), h3⟩
  have HP : Hid (∀ W, Below V.heap.size V W → ∀ k, k < n → ∃ a c, W.cell? ⟨b3, o3 + k, none⟩ = some (.slice a (gL t.pars k).length c) ∧ RdI W (.slice a (gL t.pars k).length c) (gL t.pars k)) := fun W hW k hk => by
    obtain ⟨u, h1, h2⟩ := hp k hk
    have h3 := (h2.below hVb).below hW
    obtain ⟨a, c, rfl⟩ := h2.form
    exact ⟨a, c, carry hW (carry hVb h1), h3⟩
  clear o4 o5 hVb hd hh hp HB1 HO1 hb1 hb2 hb3
  have HSS : Hid (∀ W, Below V.heap.size V W → (W.cell? ⟨w.heap.size, 0, none⟩ = some (.int .i64 R) ∧ W.cell? ⟨w.heap.size, 1, none⟩ = some (.int .i64 N) ∧ W.cell? ⟨w.heap.size, 2, none⟩ = some (.slice ad L cap)) ∧ (W.cell? ⟨w1.heap.size, 0, none⟩ = some (.int .i64 (x : Int)) ∧ W.cell? ⟨w1.heap.size, 1, none⟩ = some (.slice (some ⟨b1, o1, none⟩) n q1) ∧ W.cell? ⟨w1.heap.size, 2, none⟩ = some (.slice (some ⟨b2, o2, none⟩) n q2) ∧ W.cell? ⟨w1.heap.size, 3, none⟩ = some (.slice (some ⟨b3, o3, none⟩) n q3))) := fun W hW => ⟨HCG.out W hW, HCT.out W hW⟩
  go_at_call 19
  refine (HPa.out t _ _ HT.out HRT.out.2 HRT2.out).mono ?_
  rintro e V2 ⟨v9, p, rfl, hpp, hpr, hb⟩
  have HVV := Lib.hid hb
  have HBV2 := Lib.hid (below_then HBV.out hb)
  have HPP := Lib.hid (And.intro hpp hpr)
  obtain ⟨⟨c0, c1, c2⟩, ⟨d0, d1, d2, d3⟩⟩ := HSS.out _ hb
  obtain ⟨Pl, hPl⟩ : ∃ Pl, p.length = Pl := ⟨_, rfl⟩
  obtain ⟨pa, pc, hpf⟩ := hpr.form
  rw [hPl] at hpf
  subst hpf
  have HPL := Lib.hid hPl
  clear hb hpp hpr hPl HTR HRT HRT2 HPa
  by_cases hz : 0 ≤ tz ∧ tz < (n : Int) ∧ 0 ≤ T l (x : Int) tz
  · obtain ⟨z, rfl⟩ : ∃ z : Nat, tz = (z : Int) := ⟨tz.toNat, by omega⟩
    have hzn : z < n := by omega
    have HWY : Hid (SP.Way l (x : Int) (z : Int) p (z : Int)) := by
      rcases HPP.out.1 with ⟨_, h⟩ | ⟨h, _⟩
      · exact h
      · exact absurd hz h
    have hpos : 0 < Pl := by rw [← HPL.out]; exact HWY.out.pos
    have hPn : Pl ≤ n := by rw [← HPL.out]; exact way_len HV.out.1 HV.out.2.1 ⟨by omega, HV.out.2.2⟩ hz.2.2 HWY.out
    obtain ⟨pb, po, pc', hpe, hpc, hpb, hpcell⟩ := HPP.out.2.cells HPL.out hpos
    injection hpe with e1 e2 e3
    subst e1 e3
    obtain ⟨gw1, gw2, gw3⟩ := HWY.out.get
    have HGW := Lib.hid gw3
    have hf0 : V2.cell? ⟨pb, po, none⟩ = some (.int .i64 (x : Int)) := by
      have := hpcell 0 (by omega)
      rw [show gI p 0 = (x : Int) from by unfold gI; rw [gw1]; rfl, Nat.add_zero] at this; exact this
    have hfe : V2.cell? ⟨pb, po + (Pl - 1), none⟩ = some (.int .i64 (z : Int)) := by
      have := hpcell (Pl - 1) (by omega)
      rw [show gI p (Pl - 1) = (z : Int) from by unfold gI; rw [← HPL.out, gw2]; rfl] at this; exact this
    have HPC : Hid (∀ W, Below V2.heap.size V2 W → ∀ k y, p[k]? = some y → W.cell? ⟨pb, po + k, none⟩ = some (.int .i64 y)) := fun W hW k y hk => by
      have := hpcell k (by have := (List.getElem?_eq_some_iff.1 hk).1; have := HPL.out; omega)
      rw [show gI p k = y from by unfold gI; rw [hk]; rfl] at this
      exact carry hW this
    have hdz := HD.out _ HVV.out z hzn
    have htz := HT.out.d z hzn
    rw [htz] at hdz
    have hT0 := hz.2.2
    have HGX := Lib.hid gw1
    have HGE := Lib.hid gw2
    have hcs1 : ((Pl : Int) - 1) = ((Pl - 1 : Nat) : Int) := by omega
    have z0 : (0 : Int) ≤ (z : Int) := by omega
    have z1 : (z : Int) < (n : Int) := by omega
    have y0 : decide ((z : Int) < 0) = false := decide_eq_false (by omega)
    have y1 : decide ((n : Int) ≤ (z : Int)) = false := decide_eq_false (by omega)
    have y1' : decide (n ≤ z) = false := decide_eq_false (by omega)
    clear gw1 gw2 gw3 hpcell htz hz
    obtain ⟨tzv, htzv⟩ : ∃ tzv, T l (x : Int) (z : Int) = tzv := ⟨_, rfl⟩
    rw [htzv] at hdz hT0
    have HTZ := Lib.hid htzv
    clear htzv
    have y2 : decide (tzv < 0) = false := decide_eq_false (by omega)
    have y3 : ((Pl : Int) == 0) = false := by simp; omega
    have y4 : (Pl == 0) = false := by simp; omega
    have y5 : Pl - 1 < Pl := by omega
    go_wp2_with fail
    clear c0 c1 c2 d0 d1 d2 d3 hf0 hfe hdz
    have HLP0 : Hid (Below V2.heap.size V2 V2 ∧ p[0]? = some (x : Int) ∧ FstJ R l (x : Int) (x : Int) (-1)) := ⟨Below.refl _ _, HGX.out, .inl ⟨rfl, .inl rfl⟩⟩
    have hTxx : T l (x : Int) (x : Int) = 0 := T_self HV.out.1 _
    have HTXX := Lib.hid hTxx
    clear hTxx
    go_loopg [10, 11, 12, 13, 14] Pl (fun g s10 s11 s12 s13 s14 wr => ∃ (j a : Nat) (f : Int), j + 1 ≤ Pl ∧ Pl - (j + 1) ≤ g ∧ a < n ∧ s12 = .int .i64 ((j : Int) + 1) ∧ s10 = .int .i64 (T l (x : Int) (a : Int)) ∧ s11 = .int .i64 f ∧ (∃ q, q = s13) ∧ (∃ q, q = s14) ∧ Hid (Below V2.heap.size V2 wr ∧ p[j]? = some (a : Int) ∧ FstJ R l (x : Int) (a : Int) f))
    case atStart => exact ⟨0, x, -1, by omega, by omega, hxn, by rfl, by rw [HTXX.out], rfl, ⟨_, rfl⟩, ⟨_, rfl⟩, HLP0⟩
    case round =>
      clear HLP0
      obtain ⟨j, a, f, hjP, hjg, han, rfl, rfl, rfl, ⟨u13, rfl⟩, ⟨u14, rfl⟩, HLP⟩ := hrel
      have HW := Lib.hid HLP.out.1
      by_cases hlt : j + 1 < Pl
      · obtain ⟨yb, hyb⟩ : ∃ y, p[j + 1]? = some y := ⟨_, List.getElem?_eq_getElem (by rw [HPL.out]; exact hlt)⟩
        have hnx := HGW.out j _ _ HLP.out.2.1 hyb
        have hpar := hnx.1.2
        have hbnode := hnx.1.1.node HV.out.1 (by have := HV.out.2; have := HV.out.1.n; omega)
        have hnn := HV.out.2.1
        obtain ⟨b, rfl⟩ : ∃ b : Nat, yb = (b : Int) := ⟨yb.toNat, by omega⟩
        have hbn : b < n := by omega
        have HNXJ := Lib.hid (FstJ.step HV.out.1 ⟨x0, HV.out.2.2⟩ HLP.out.2.2 hpar)
        obtain ⟨c, hce, hta, htab⟩ := id hpar
        have HCST : Hid ((cstF (a : Int) (b : Int) l).1 = c ∧ (cstF (a : Int) (b : Int) l).2 = true) := ⟨((cstF_iff HV.out.1).1 hce).2, ((cstF_iff HV.out.1).1 hce).1⟩
        have HMEM : Hid ((a : Int) ∈ gL t.pars b) := ((HT.out.p b hbn).2 _).2 hpar
        have hcr := edge HV.out.1 hce
        have hc0 : 0 ≤ c := by omega
        have hc1 : c ≤ 65535 := by omega
        have hsb := HSM.out b hbn
        have HYB := Lib.hid hyb
        have HS1 : Hid (∀ W, Below V2.heap.size V2 W → (W.cell? ⟨w.heap.size, 0, none⟩ = some (.int .i64 R) ∧ W.cell? ⟨w.heap.size, 1, none⟩ = some (.int .i64 N) ∧ W.cell? ⟨w.heap.size, 2, none⟩ = some (.slice ad L cap)) ∧ (W.cell? ⟨pb, po + j, none⟩ = some (.int .i64 (a : Int)) ∧ W.cell? ⟨pb, po + (j + 1), none⟩ = some (.int .i64 (b : Int))) ∧ Below V2.heap.size V2 W) := fun W hW => ⟨(HSS.out W (below_then HVV.out hW)).1, ⟨HPC.out W hW j _ HLP.out.2.1, HPC.out W hW (j + 1) _ HYB.out⟩, hW⟩
        have j0 : (0 : Int) ≤ (j : Int) := by omega
        have j1 : (j : Int) + 1 < (Pl : Int) := by omega
        have j2 : (j : Int) < (Pl : Int) := by omega
        have j3 : IntKind.i64.wrap (j : Int) = (j : Int) := IntWalk.i64_in _ (by constructor <;> omega)
        have j4 : j < Pl := by omega
        have j6 : ¬ ((j : Int) + 1 < 0) := by omega
        have j7 : (0 : Int) ≤ (j : Int) + 1 := by omega
        have j8 : ((j : Int) + 1).toNat = j + 1 := by omega
        have j9 : ¬ ((Pl : Int) ≤ (j : Int) + 1) := by omega
        have j5 : j + 1 < Pl := by omega
        have a0 : (0 : Int) ≤ (a : Int) := by omega
        have b0 : (0 : Int) ≤ (b : Int) := by omega
        have b1' : (b : Int) < (n : Int) := by omega
        have HTAB := Lib.hid htab
        clear hnx hpar hyb hce hcr hbnode hnn htab
        go_upto_region 16 with (fail)
        refine wp_region_held_drew (S := fun W => (W.cell? ⟨w.heap.size, 0, none⟩ = some (.int .i64 R) ∧ W.cell? ⟨w.heap.size, 1, none⟩ = some (.int .i64 N) ∧ W.cell? ⟨w.heap.size, 2, none⟩ = some (.slice ad L cap)) ∧ (W.cell? ⟨pb, po + j, none⟩ = some (.int .i64 (a : Int)) ∧ W.cell? ⟨pb, po + (j + 1), none⟩ = some (.int .i64 (b : Int))) ∧ Below V2.heap.size V2 W) (by kernel_rfl) (HS1.out _ HW.out.drew) (fun hS0 => ?_)
        refine wpAnyH_take (i := 0) (oi := ⟨some 104, _, _, _, _, _⟩) (v := .agg #[.int .i64 R, .int .i64 N, .slice ad L cap]) rfl (by kernel_rfl) (by kernel_rfl) (by kernel_rfl) (fun _ _ _ h => h) (Or.inl ⟨by rfl, by intro w' hw'; obtain ⟨⟨c0, c1, c2⟩, ⟨e0, e1⟩, _⟩ := hw'; go_simp⟩) hS0 ?_
        simp only [Act.put, List.setIfInBounds_toArray, List.set_cons_zero, List.set_cons_succ]
        refine wpAnyH_take (i := 1) (oi := ⟨some 105, _, _, _, _, _⟩) (v := .slice (some ⟨pb, po, none⟩) Pl pc) rfl (by kernel_rfl) (by kernel_rfl) (by kernel_rfl) (fun _ _ _ h => h) (Or.inl ⟨by rfl, by intro w' hw'; obtain ⟨⟨c0, c1, c2⟩, ⟨e0, e1⟩, _⟩ := hw'; go_simp⟩) hS0 ?_
        simp only [Act.put, List.setIfInBounds_toArray, List.set_cons_zero, List.set_cons_succ]
        refine wpAnyH_take (i := 2) (oi := ⟨some 106, _, _, _, _, _⟩) (v := .int .i64 ((j : Int) + 1)) rfl (by kernel_rfl) (by kernel_rfl) (by kernel_rfl) (fun _ _ _ h => h) (Or.inl ⟨by rfl, by intro w' hw'; obtain ⟨⟨c0, c1, c2⟩, ⟨e0, e1⟩, _⟩ := hw'; go_simp⟩) hS0 ?_
        simp only [Act.put, List.setIfInBounds_toArray, List.set_cons_zero, List.set_cons_succ]
        refine wpAnyH_take (i := 3) (oi := ⟨some 107, _, _, _, _, _⟩) (v := .int .i64 (j : Int)) rfl (by kernel_rfl) (by kernel_rfl) (by kernel_rfl) (fun _ _ _ h => h) (Or.inl ⟨by rfl, by intro w' hw'; obtain ⟨⟨c0, c1, c2⟩, ⟨e0, e1⟩, _⟩ := hw'; go_simp⟩) hS0 ?_
        simp only [Act.put, List.setIfInBounds_toArray, List.set_cons_zero, List.set_cons_succ]
        refine wpAnyH_take (i := 4) (oi := ⟨some 108, _, _, _, _, _⟩) (v := .pointer (some ⟨pb, po + j, none⟩)) rfl (by kernel_rfl) (by kernel_rfl) (by kernel_rfl) (fun _ _ _ h => h) (Or.inl ⟨by rfl, by intro w' hw'; obtain ⟨⟨c0, c1, c2⟩, ⟨e0, e1⟩, _⟩ := hw'; go_simp⟩) hS0 ?_
        simp only [Act.put, List.setIfInBounds_toArray, List.set_cons_zero, List.set_cons_succ]
        refine wpAnyH_take (i := 5) (oi := ⟨some 109, _, _, _, _, _⟩) (v := .int .i64 (a : Int)) rfl (by kernel_rfl) (by kernel_rfl) (by kernel_rfl) (fun _ _ _ h => h) (Or.inl ⟨by rfl, by intro w' hw'; obtain ⟨⟨c0, c1, c2⟩, ⟨e0, e1⟩, _⟩ := hw'; go_simp⟩) hS0 ?_
        simp only [Act.put, List.setIfInBounds_toArray, List.set_cons_zero, List.set_cons_succ]
        refine wpAnyH_take (i := 6) (oi := ⟨some 110, _, _, _, _, _⟩) (v := .slice (some ⟨pb, po, none⟩) Pl pc) rfl (by kernel_rfl) (by kernel_rfl) (by kernel_rfl) (fun _ _ _ h => h) (Or.inl ⟨by rfl, by intro w' hw'; obtain ⟨⟨c0, c1, c2⟩, ⟨e0, e1⟩, _⟩ := hw'; go_simp⟩) hS0 ?_
        simp only [Act.put, List.setIfInBounds_toArray, List.set_cons_zero, List.set_cons_succ]
        refine wpAnyH_take (i := 7) (oi := ⟨some 111, _, _, _, _, _⟩) (v := .int .i64 ((j : Int) + 1)) rfl (by kernel_rfl) (by kernel_rfl) (by kernel_rfl) (fun _ _ _ h => h) (Or.inl ⟨by rfl, by intro w' hw'; obtain ⟨⟨c0, c1, c2⟩, ⟨e0, e1⟩, _⟩ := hw'; go_simp⟩) hS0 ?_
        simp only [Act.put, List.setIfInBounds_toArray, List.set_cons_zero, List.set_cons_succ]
        refine wpAnyH_take (i := 8) (oi := ⟨some 112, _, _, _, _, _⟩) (v := .pointer (some ⟨pb, po + (j + 1), none⟩)) rfl (by kernel_rfl) (by kernel_rfl) (by kernel_rfl) (fun _ _ _ h => h) (Or.inl ⟨by rfl, by intro w' hw'; obtain ⟨⟨c0, c1, c2⟩, ⟨e0, e1⟩, _⟩ := hw'; go_simp⟩) hS0 ?_
        simp only [Act.put, List.setIfInBounds_toArray, List.set_cons_zero, List.set_cons_succ]
        refine wpAnyH_take (i := 9) (oi := ⟨some 113, _, _, _, _, _⟩) (v := .int .i64 (b : Int)) rfl (by kernel_rfl) (by kernel_rfl) (by kernel_rfl) (fun _ _ _ h => h) (Or.inl ⟨by rfl, by intro w' hw'; obtain ⟨⟨c0, c1, c2⟩, ⟨e0, e1⟩, _⟩ := hw'; go_simp⟩) hS0 ?_
        simp only [Act.put, List.setIfInBounds_toArray, List.set_cons_zero, List.set_cons_succ]
        refine wpAnyH_ready (rs := [10]) (by kernel_rfl) (by simp) ?_
        refine AllReadyH.cons rfl (fun K hK => ?_) AllReadyH.nil
        go_simp
        go_at_call 25
        refine (HCo.out (a : Int) (b : Int) _ (below_then HBV2.out hS0.2.2)).mono ?_
        rintro e w3 ⟨rfl, hb⟩
        have hS1 := HS1.out _ (below_then hS0.2.2 hb)
        rw [HCST.out.1, HCST.out.2]
        go_wp2_with fail
        refine hK.out _ _ hS1 (fun _ => ?_)
        clear hK K hb
        (try simp only [Act.put, List.setIfInBounds_toArray, List.set_cons_zero, List.set_cons_succ])
        refine wpAnyH_take (i := 11) (oi := ⟨some 103, _, _, _, _, _⟩) (v := .tuple #[.int .i64 c, .bool true]) rfl (by kernel_rfl) (by kernel_rfl) (by kernel_rfl) (fun _ _ _ h => h) (Or.inl ⟨by rfl, by intro w' hw'; obtain ⟨⟨c0, c1, c2⟩, ⟨e0, e1⟩, _⟩ := hw'; go_simp⟩) hS1 ?_
        simp only [Act.put, List.setIfInBounds_toArray, List.set_cons_zero, List.set_cons_succ]
        refine wpAnyH_take (i := 12) (oi := ⟨some 115, _, _, _, _, _⟩) (v := .int .i64 c) rfl (by kernel_rfl) (by kernel_rfl) (by kernel_rfl) (fun _ _ _ h => h) (Or.inl ⟨by rfl, by intro w' hw'; obtain ⟨⟨c0, c1, c2⟩, ⟨e0, e1⟩, _⟩ := hw'; go_simp⟩) hS1 ?_
        simp only [Act.put, List.setIfInBounds_toArray, List.set_cons_zero, List.set_cons_succ]
        refine wpAnyH_take (i := 13) (oi := ⟨some 116, _, _, _, _, _⟩) (v := .bool true) rfl (by kernel_rfl) (by kernel_rfl) (by kernel_rfl) (fun _ _ _ h => h) (Or.inl ⟨by rfl, by intro w' hw'; obtain ⟨⟨c0, c1, c2⟩, ⟨e0, e1⟩, _⟩ := hw'; go_simp⟩) hS1 ?_
        simp only [Act.put, List.setIfInBounds_toArray, List.set_cons_zero, List.set_cons_succ]
        refine wpAnyH_take (i := 14) (oi := ⟨some 13, _, _, _, _, _⟩) (v := .int .i64 c) rfl (by kernel_rfl) (by kernel_rfl) (by kernel_rfl) (fun _ _ _ h => h) (Or.inl ⟨by rfl, by intro w' hw'; obtain ⟨⟨c0, c1, c2⟩, ⟨e0, e1⟩, _⟩ := hw'; go_simp⟩) hS1 ?_
        simp only [Act.put, List.setIfInBounds_toArray, List.set_cons_zero, List.set_cons_succ]
        refine wpAnyH_take (i := 15) (oi := ⟨some 14, _, _, _, _, _⟩) (v := .bool true) rfl (by kernel_rfl) (by kernel_rfl) (by kernel_rfl) (fun _ _ _ h => h) (Or.inl ⟨by rfl, by intro w' hw'; obtain ⟨⟨c0, c1, c2⟩, ⟨e0, e1⟩, _⟩ := hw'; go_simp⟩) hS1 ?_
        simp only [Act.put, List.setIfInBounds_toArray, List.set_cons_zero, List.set_cons_succ]
        refine wpAnyH_done (by kernel_rfl) ?_ _
        obtain ⟨ra, rc, hrc, hrd⟩ := HP.out _ (below_then HVV.out hS1.2.2) b hbn
        have HRD := Lib.hid hrd
        have HS2 : Hid (∀ W, Below w3.heap.size w3 W → (W.cell? ⟨w1.heap.size, 0, none⟩ = some (.int .i64 (x : Int)) ∧ W.cell? ⟨w1.heap.size, 1, none⟩ = some (.slice (some ⟨b1, o1, none⟩) n q1) ∧ W.cell? ⟨w1.heap.size, 2, none⟩ = some (.slice (some ⟨b2, o2, none⟩) n q2) ∧ W.cell? ⟨w1.heap.size, 3, none⟩ = some (.slice (some ⟨b3, o3, none⟩) n q3)) ∧ (W.cell? ⟨pb, po + j, none⟩ = some (.int .i64 (a : Int)) ∧ W.cell? ⟨pb, po + (j + 1), none⟩ = some (.int .i64 (b : Int))) ∧ W.cell? ⟨b3, o3 + b, none⟩ = some (.slice ra (gL t.pars b).length rc) ∧ Below V2.heap.size V2 W) := fun W hW => ⟨HCT.out _ (below_then HVV.out (below_then hS1.2.2 hW)), ⟨carry hW hS1.2.1.1, carry hW hS1.2.1.2⟩, carry hW hrc, below_then hS1.2.2 hW⟩
        clear hrc hrd
        go_upto_region 17 with (fail)
        refine wp_region_held_drew (S := fun W => (W.cell? ⟨w1.heap.size, 0, none⟩ = some (.int .i64 (x : Int)) ∧ W.cell? ⟨w1.heap.size, 1, none⟩ = some (.slice (some ⟨b1, o1, none⟩) n q1) ∧ W.cell? ⟨w1.heap.size, 2, none⟩ = some (.slice (some ⟨b2, o2, none⟩) n q2) ∧ W.cell? ⟨w1.heap.size, 3, none⟩ = some (.slice (some ⟨b3, o3, none⟩) n q3)) ∧ (W.cell? ⟨pb, po + j, none⟩ = some (.int .i64 (a : Int)) ∧ W.cell? ⟨pb, po + (j + 1), none⟩ = some (.int .i64 (b : Int))) ∧ W.cell? ⟨b3, o3 + b, none⟩ = some (.slice ra (gL t.pars b).length rc) ∧ Below V2.heap.size V2 W) (by kernel_rfl) (HS2.out _ (Below.refl _ _).drew) (fun hS2 => ?_)
        refine wpAnyH_take (i := 0) (oi := ⟨some 117, _, _, _, _, _⟩) (v := .bool true) rfl (by kernel_rfl) (by kernel_rfl) (by kernel_rfl) (fun _ _ _ h => h) (Or.inl ⟨by rfl, by intro w' hw'; obtain ⟨⟨d0, d1, d2, d3⟩, ⟨e0, e1⟩, e2, _⟩ := hw'; go_simp⟩) hS2 ?_
        simp only [Act.put, List.setIfInBounds_toArray, List.set_cons_zero, List.set_cons_succ]
        refine wpAnyH_take (i := 1) (oi := ⟨some 118, _, _, _, _, _⟩) (v := .bool false) rfl (by kernel_rfl) (by kernel_rfl) (by kernel_rfl) (fun _ _ _ h => h) (Or.inl ⟨by rfl, by intro w' hw'; obtain ⟨⟨d0, d1, d2, d3⟩, ⟨e0, e1⟩, e2, _⟩ := hw'; go_simp⟩) hS2 ?_
        simp only [Act.put, List.setIfInBounds_toArray, List.set_cons_zero, List.set_cons_succ]
        refine wpAnyH_take (i := 2) (oi := ⟨some 119, _, _, _, _, _⟩) (v := .bool false) rfl (by kernel_rfl) (by kernel_rfl) (by kernel_rfl) (fun _ _ _ h => h) (Or.inl ⟨by rfl, by intro w' hw'; obtain ⟨⟨d0, d1, d2, d3⟩, ⟨e0, e1⟩, e2, _⟩ := hw'; go_simp⟩) hS2 ?_
        simp only [Act.put, List.setIfInBounds_toArray, List.set_cons_zero, List.set_cons_succ]
        refine wpAnyH_take (i := 3) (oi := ⟨some 120, _, _, _, _, _⟩) (v := .pointer (some ⟨w1.heap.size, 3, none⟩)) rfl (by kernel_rfl) (by kernel_rfl) (by kernel_rfl) (fun _ _ _ h => h) (Or.inl ⟨by rfl, by intro w' hw'; obtain ⟨⟨d0, d1, d2, d3⟩, ⟨e0, e1⟩, e2, _⟩ := hw'; go_simp⟩) hS2 ?_
        simp only [Act.put, List.setIfInBounds_toArray, List.set_cons_zero, List.set_cons_succ]
        refine wpAnyH_take (i := 4) (oi := ⟨some 121, _, _, _, _, _⟩) (v := .slice (some ⟨b3, o3, none⟩) n q3) rfl (by kernel_rfl) (by kernel_rfl) (by kernel_rfl) (fun _ _ _ h => h) (Or.inl ⟨by rfl, by intro w' hw'; obtain ⟨⟨d0, d1, d2, d3⟩, ⟨e0, e1⟩, e2, _⟩ := hw'; go_simp⟩) hS2 ?_
        simp only [Act.put, List.setIfInBounds_toArray, List.set_cons_zero, List.set_cons_succ]
        refine wpAnyH_take (i := 5) (oi := ⟨some 122, _, _, _, _, _⟩) (v := .slice (some ⟨pb, po, none⟩) Pl pc) rfl (by kernel_rfl) (by kernel_rfl) (by kernel_rfl) (fun _ _ _ h => h) (Or.inl ⟨by rfl, by intro w' hw'; obtain ⟨⟨d0, d1, d2, d3⟩, ⟨e0, e1⟩, e2, _⟩ := hw'; go_simp⟩) hS2 ?_
        simp only [Act.put, List.setIfInBounds_toArray, List.set_cons_zero, List.set_cons_succ]
        refine wpAnyH_take (i := 6) (oi := ⟨some 123, _, _, _, _, _⟩) (v := .int .i64 ((j : Int) + 1)) rfl (by kernel_rfl) (by kernel_rfl) (by kernel_rfl) (fun _ _ _ h => h) (Or.inl ⟨by rfl, by intro w' hw'; obtain ⟨⟨d0, d1, d2, d3⟩, ⟨e0, e1⟩, e2, _⟩ := hw'; go_simp⟩) hS2 ?_
        simp only [Act.put, List.setIfInBounds_toArray, List.set_cons_zero, List.set_cons_succ]
        refine wpAnyH_take (i := 7) (oi := ⟨some 124, _, _, _, _, _⟩) (v := .pointer (some ⟨pb, po + (j + 1), none⟩)) rfl (by kernel_rfl) (by kernel_rfl) (by kernel_rfl) (fun _ _ _ h => h) (Or.inl ⟨by rfl, by intro w' hw'; obtain ⟨⟨d0, d1, d2, d3⟩, ⟨e0, e1⟩, e2, _⟩ := hw'; go_simp⟩) hS2 ?_
        simp only [Act.put, List.setIfInBounds_toArray, List.set_cons_zero, List.set_cons_succ]
        refine wpAnyH_take (i := 8) (oi := ⟨some 125, _, _, _, _, _⟩) (v := .int .i64 (b : Int)) rfl (by kernel_rfl) (by kernel_rfl) (by kernel_rfl) (fun _ _ _ h => h) (Or.inl ⟨by rfl, by intro w' hw'; obtain ⟨⟨d0, d1, d2, d3⟩, ⟨e0, e1⟩, e2, _⟩ := hw'; go_simp⟩) hS2 ?_
        simp only [Act.put, List.setIfInBounds_toArray, List.set_cons_zero, List.set_cons_succ]
        refine wpAnyH_take (i := 9) (oi := ⟨some 126, _, _, _, _, _⟩) (v := .pointer (some ⟨b3, o3 + b, none⟩)) rfl (by kernel_rfl) (by kernel_rfl) (by kernel_rfl) (fun _ _ _ h => h) (Or.inl ⟨by rfl, by intro w' hw'; obtain ⟨⟨d0, d1, d2, d3⟩, ⟨e0, e1⟩, e2, _⟩ := hw'; go_simp⟩) hS2 ?_
        simp only [Act.put, List.setIfInBounds_toArray, List.set_cons_zero, List.set_cons_succ]
        refine wpAnyH_take (i := 10) (oi := ⟨some 127, _, _, _, _, _⟩) (v := .slice ra (gL t.pars b).length rc) rfl (by kernel_rfl) (by kernel_rfl) (by kernel_rfl) (fun _ _ _ h => h) (Or.inl ⟨by rfl, by intro w' hw'; obtain ⟨⟨d0, d1, d2, d3⟩, ⟨e0, e1⟩, e2, _⟩ := hw'; go_simp⟩) hS2 ?_
        simp only [Act.put, List.setIfInBounds_toArray, List.set_cons_zero, List.set_cons_succ]
        refine wpAnyH_take (i := 11) (oi := ⟨some 128, _, _, _, _, _⟩) (v := .slice (some ⟨pb, po, none⟩) Pl pc) rfl (by kernel_rfl) (by kernel_rfl) (by kernel_rfl) (fun _ _ _ h => h) (Or.inl ⟨by rfl, by intro w' hw'; obtain ⟨⟨d0, d1, d2, d3⟩, ⟨e0, e1⟩, e2, _⟩ := hw'; go_simp⟩) hS2 ?_
        simp only [Act.put, List.setIfInBounds_toArray, List.set_cons_zero, List.set_cons_succ]
        refine wpAnyH_take (i := 12) (oi := ⟨some 129, _, _, _, _, _⟩) (v := .int .i64 ((j : Int) + 1)) rfl (by kernel_rfl) (by kernel_rfl) (by kernel_rfl) (fun _ _ _ h => h) (Or.inl ⟨by rfl, by intro w' hw'; obtain ⟨⟨d0, d1, d2, d3⟩, ⟨e0, e1⟩, e2, _⟩ := hw'; go_simp⟩) hS2 ?_
        simp only [Act.put, List.setIfInBounds_toArray, List.set_cons_zero, List.set_cons_succ]
        refine wpAnyH_take (i := 13) (oi := ⟨some 130, _, _, _, _, _⟩) (v := .int .i64 (j : Int)) rfl (by kernel_rfl) (by kernel_rfl) (by kernel_rfl) (fun _ _ _ h => h) (Or.inl ⟨by rfl, by intro w' hw'; obtain ⟨⟨d0, d1, d2, d3⟩, ⟨e0, e1⟩, e2, _⟩ := hw'; go_simp⟩) hS2 ?_
        simp only [Act.put, List.setIfInBounds_toArray, List.set_cons_zero, List.set_cons_succ]
        refine wpAnyH_take (i := 14) (oi := ⟨some 131, _, _, _, _, _⟩) (v := .pointer (some ⟨pb, po + j, none⟩)) rfl (by kernel_rfl) (by kernel_rfl) (by kernel_rfl) (fun _ _ _ h => h) (Or.inl ⟨by rfl, by intro w' hw'; obtain ⟨⟨d0, d1, d2, d3⟩, ⟨e0, e1⟩, e2, _⟩ := hw'; go_simp⟩) hS2 ?_
        simp only [Act.put, List.setIfInBounds_toArray, List.set_cons_zero, List.set_cons_succ]
        refine wpAnyH_take (i := 15) (oi := ⟨some 132, _, _, _, _, _⟩) (v := .int .i64 (a : Int)) rfl (by kernel_rfl) (by kernel_rfl) (by kernel_rfl) (fun _ _ _ h => h) (Or.inl ⟨by rfl, by intro w' hw'; obtain ⟨⟨d0, d1, d2, d3⟩, ⟨e0, e1⟩, e2, _⟩ := hw'; go_simp⟩) hS2 ?_
        simp only [Act.put, List.setIfInBounds_toArray, List.set_cons_zero, List.set_cons_succ]
        refine wpAnyH_ready (rs := [16]) (by kernel_rfl) (by simp) ?_
        refine AllReadyH.cons rfl (fun K hK => ?_) AllReadyH.nil
        go_simp
        go_at_call 26
        refine (hasL_any (gL t.pars b) _ (a : Int) w3.drew (HRD.out.below (Below.refl _ _).drew)).mono ?_
        rintro e w4 ⟨he, hb⟩
        have hS3 := HS2.out _ (below_undrew hb)
        rw [decide_eq_true HMEM.out] at he
        subst he
        go_wp2_with fail
        refine hK.out _ _ hS3 (fun _ => ?_)
        clear hK K hb
        (try simp only [Act.put, List.setIfInBounds_toArray, List.set_cons_zero, List.set_cons_succ])
        refine wpAnyH_take (i := 17) (oi := ⟨some 134, _, _, _, _, _⟩) (v := .bool false) rfl (by kernel_rfl) (by kernel_rfl) (by kernel_rfl) (fun _ _ _ h => h) (Or.inl ⟨by rfl, by intro w' hw'; obtain ⟨⟨d0, d1, d2, d3⟩, ⟨e0, e1⟩, e2, _⟩ := hw'; go_simp⟩) hS3 ?_
        simp only [Act.put, List.setIfInBounds_toArray, List.set_cons_zero, List.set_cons_succ]
        refine wpAnyH_take (i := 18) (oi := ⟨some 135, _, _, _, _, _⟩) (v := .bool false) rfl (by kernel_rfl) (by kernel_rfl) (by kernel_rfl) (fun _ _ _ h => h) (Or.inl ⟨by rfl, by intro w' hw'; obtain ⟨⟨d0, d1, d2, d3⟩, ⟨e0, e1⟩, e2, _⟩ := hw'; go_simp⟩) hS3 ?_
        simp only [Act.put, List.setIfInBounds_toArray, List.set_cons_zero, List.set_cons_succ]
        refine wpAnyH_done (by kernel_rfl) ?_ _
        have hS4 := hS3.2.2.2
        have HW4 := Lib.hid hS4
        have g0 : w4.cell? ⟨w.heap.size, 0, none⟩ = some (.int .i64 R) := (HSS.out _ (below_then HVV.out hS4)).1.1
        have e1 := hS3.2.1.2
        clear hS0 hS1 hS2 hS3 hS4 HS1 HS2
        have hTb : T l (x : Int) (a : Int) + c ≤ 65535 * 129 := by rw [HTAB.out]; exact hsb
        obtain ⟨ta, hta'⟩ : ∃ ta, T l (x : Int) (a : Int) = ta := ⟨_, rfl⟩
        rw [hta'] at hta hTb HTAB ⊢
        clear hta'
        by_cases hfc : f < 0 ∧ (b : Int) < R
        · have w1' : decide (f < 0) = true := decide_eq_true hfc.1
          have w2' : decide ((b : Int) < R) = true := decide_eq_true hfc.2
          rw [if_pos hfc] at HNXJ
          clear hfc
          go_upto_region 20 with (fail)
          go_quiet (fail)
          go_wp2_with fail
          go_roundg (Pl - (j + 1 + 1))
          case measure => omega
          case rel => exact ⟨j + 1, b, (b : Int), by omega, Nat.le_refl _, hbn, by go_num, by rw [← HTAB.out], rfl, ⟨_, rfl⟩, ⟨_, rfl⟩, below_drewN HW4.out _, HYB.out, HNXJ.out⟩
        · rw [if_neg hfc] at HNXJ
          by_cases hf0 : f < 0
          · have w1' : decide (f < 0) = true := decide_eq_true hf0
            have w2' : decide ((b : Int) < R) = false := decide_eq_false (fun h => hfc ⟨hf0, h⟩)
            clear hfc
            go_upto_region 20 with (fail)
            go_quiet (fail)
            go_wp2_with fail
            go_roundg (Pl - (j + 1 + 1))
            case measure => omega
            case rel => exact ⟨j + 1, b, f, by omega, Nat.le_refl _, hbn, by go_num, by rw [← HTAB.out], rfl, ⟨_, rfl⟩, ⟨_, rfl⟩, below_drewN HW4.out _, HYB.out, HNXJ.out⟩
          · have w1' : decide (f < 0) = false := decide_eq_false hf0
            clear hfc
            go_upto_region 20 with (fail)
            go_quiet (fail)
            go_wp2_with fail
            go_roundg (Pl - (j + 1 + 1))
            case measure => omega
            case rel => exact ⟨j + 1, b, f, by omega, Nat.le_refl _, hbn, by go_num, by rw [← HTAB.out], rfl, ⟨_, rfl⟩, ⟨_, rfl⟩, below_drewN HW4.out _, HYB.out, HNXJ.out⟩
      · have k1 : decide ((j : Int) + 1 < (Pl : Int)) = false := decide_eq_false (by omega)
        have HAZ : Hid ((a : Int) = (z : Int)) := by
          have h1 := HLP.out.2.1
          rw [show j = p.length - 1 by have := HPL.out; omega, HGE.out] at h1
          exact (Option.some.inj h1).symm
        obtain ⟨c0, c1, c2⟩ := (HSS.out _ (below_then HVV.out HW.out)).1
        obtain ⟨d0, d1, d2, d3⟩ := (HSS.out _ (below_then HVV.out HW.out)).2
        have hdz := HD.out _ (below_then HVV.out HW.out) z hzn
        rw [HT.out.d z hzn, HTZ.out] at hdz
        have HFJ := Lib.hid HLP.out.2.2
        rw [HAZ.out] at HFJ ⊢
        rw [HTZ.out]
        clear HLP HAZ
        by_cases hf0 : f < 0
        · have w1' : decide (f < 0) = true := decide_eq_true hf0
          go_wp2_with fail
          go_at_call 15
          refine (lives_any _).mono ?_
          rintro e w9 ⟨rfl, hb⟩
          have HB9 := Lib.hid (below_then (below_then HBV2.out HW.out) hb)
          clear hb
          go_wp2
          go_ret
          exact ⟨rfl, HB9.out⟩
        · have w1' : decide (f < 0) = false := decide_eq_false hf0
          have HMH : Hid (f ∈ gL t.hops z) := by
            rcases HFJ.out with ⟨h, _⟩ | ⟨_, _, h⟩
            · omega
            · exact ((HT.out.h z hzn).2 _).2 h
          obtain ⟨ha, hc, hhc, hhr⟩ := HH.out _ (below_then HVV.out HW.out) z hzn
          have HHR := Lib.hid hhr
          clear hhr
          go_wp2_with fail
          go_at_call 26
          refine (hasL_any (gL t.hops z) _ f _ HHR.out).mono ?_
          rintro e w8 ⟨he, hb8⟩
          rw [decide_eq_true HMH.out] at he
          subst he
          have HB8 := Lib.hid (below_then (below_then HBV2.out HW.out) hb8)
          clear hb8
          go_wp2_with fail
          go_at_call 15
          refine (lives_any _).mono ?_
          rintro e w9 ⟨rfl, hb⟩
          have HB9 := Lib.hid (below_then HB8.out hb)
          clear hb
          go_wp2
          go_ret
          exact ⟨rfl, HB9.out⟩
  · have HPN : Hid (Pl = 0) := by
      rcases HPP.out.1 with ⟨h, _⟩ | ⟨_, h⟩
      · exact absurd h hz
      · rw [Hid, ← HPL.out, h]; rfl
    obtain rfl : Pl = 0 := HPN.out
    have HLIV : ∀ W, Below V2.heap.size V2 W → True := fun _ _ => trivial
    clear HLIV HPN
    by_cases h0 : tz < 0
    · have y0 : decide (tz < 0) = true := decide_eq_true h0
      clear hz
      go_wp2_with fail
      go_at_call 15
      refine (lives_any _).mono ?_
      rintro e w9 ⟨rfl, hb⟩
      have HB9 := Lib.hid (below_then HBV2.out hb)
      clear hb
      go_wp2
      go_ret
      exact ⟨rfl, HB9.out⟩
    · have y0 : decide (tz < 0) = false := decide_eq_false h0
      by_cases h1 : (n : Int) ≤ tz
      · have y1 : decide ((n : Int) ≤ tz) = true := decide_eq_true h1
        clear hz
        go_wp2_with fail
        go_at_call 15
        refine (lives_any _).mono ?_
        rintro e w9 ⟨rfl, hb⟩
        have HB9 := Lib.hid (below_then HBV2.out hb)
        clear hb
        go_wp2
        go_ret
        exact ⟨rfl, HB9.out⟩
      · have y1 : decide ((n : Int) ≤ tz) = false := decide_eq_false h1
        obtain ⟨z, rfl⟩ : ∃ z : Nat, tz = (z : Int) := ⟨tz.toNat, by omega⟩
        have hzn : z < n := by omega
        have y1' : decide (n ≤ z) = false := decide_eq_false (by omega)
        have ht : T l (x : Int) (z : Int) < 0 := by omega
        have hdz := HD.out _ HVV.out z hzn
        rw [HT.out.d z hzn] at hdz
        have z0 : (0 : Int) ≤ (z : Int) := by omega
        have z1 : (z : Int) < (n : Int) := by omega
        clear hz
        generalize T l (x : Int) (z : Int) = tzv at *
        have y2 : decide (tzv < 0) = true := decide_eq_true ht
        go_wp2_with fail
        go_at_call 15
        refine (lives_any _).mono ?_
        rintro e w9 ⟨rfl, hb⟩
        have HB9 := Lib.hid (below_then HBV2.out hb)
        clear hb
        go_wp2
        go_ret
        exact ⟨rfl, HB9.out⟩
theorem walks_walk (R N : Int) (l : List E) (s : Value) (root : Int) (tz : Int) (w : World) (hR : I64 R) (hN : I64 N) (hr : Rd3 w s l) (hf : FitT l) (hx : I64 root) (hz : I64 tz) :
    Calls Try.prog 10 #[.agg #[.int .i64 R, .int .i64 N, s], .int .i64 root, .int .i64 tz] w fun e w' => e = .returned (.bool true) ∧ Below w.heap.size w w' := by
  by_cases h : chk R N l = 0 ∧ 0 ≤ root ∧ root < R
  · exact walks_good R N l s root tz w hR hN hr hf h.1 h.2
  · exact walks_fail R N l s root tz w hR hN hr h
end Go.Proofs.Ytmlpbhankgojpaa
