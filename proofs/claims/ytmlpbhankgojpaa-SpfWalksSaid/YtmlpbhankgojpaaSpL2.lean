/-
  The walk of the law Edges.
-/
import Derived.Test.YtmlpbhankgojpaaSpLv
import Derived.Test.YtmlpbhankgojpaaSpLx
import Derived.Test.YtmlpbhankgojpaaSpFd
namespace Go.Proofs.Ytmlpbhankgojpaa
open Go.RowKit HM GM SP
set_option linter.unusedSimpArgs false
set_option linter.unusedVariables false
set_option maxHeartbeats 4000000
set_option maxRecDepth 100000
theorem RunR.fail {R N : Int} {l : List E} {root er : Int} {t : Tre} (h : RunR R N l root t er) (hn : ¬ (chk R N l = 0 ∧ 0 ≤ root ∧ root < R)) : (er == 0) = false ∧ (er != 0) = true := by
  have : er ≠ 0 := by
    rcases h with ⟨h1, h2, _⟩ | ⟨h1, h2, h3, _⟩ | ⟨h1, h2, h3, _⟩
    · omega
    · omega
    · exact absurd ⟨h1, h2.1, h2.2⟩ hn
  simp [this]
theorem RunR.good {R N : Int} {l : List E} {root er : Int} {t : Tre} (h : RunR R N l root t er) (hn : chk R N l = 0 ∧ 0 ≤ root ∧ root < R) : er = 0 ∧ IsTre R N l root t := by
  rcases h with ⟨h1, h2, _⟩ | ⟨h1, h2, h3, _⟩ | ⟨h1, h2, h3, h4⟩
  · exact absurd hn.1 h1
  · exact absurd hn.2 h2
  · exact ⟨h3, h4⟩
theorem edges_fail (R N : Int) (l : List E) (s : Value) (root : Int) (w : World) (hR : I64 R) (hN : I64 N) (hr : Rd3 w s l) (hn : ¬ (chk R N l = 0 ∧ 0 ≤ root ∧ root < R)) :
    Calls Try.prog 8 #[.agg #[.int .i64 R, .int .i64 N, s], .int .i64 root] w fun e w' => e = .returned (.bool true) ∧ Below w.heap.size w w' := by
  have HRun : Hid (∀ W, Below w.heap.size w W → Calls Try.prog 12 #[.agg #[.int .i64 R, .int .i64 N, s], .int .i64 root] W (RunQ R N l root W)) := fun W hW => run_any R N l s root W hR hN (hr.below hW)
  have HF : Hid (∀ t er, RunR R N l root t er → (er == 0) = false ∧ (er != 0) = true) := fun t er h => h.fail hn
  obtain ⟨ad, cap, hform⟩ := rd3_slice hr
  obtain ⟨L, hL⟩ : ∃ L, l.length = L := ⟨_, rfl⟩
  rw [hL] at hform
  subst hform
  clear hr hL hn
  have HB := Lib.hid (below_alloc w (.cells #[.int .i64 R, .int .i64 N, .slice ad L cap] 24))
  go_enter Try.func8, Try.ntmps8
  go_wp2_with fail
  go_at_call 12
  refine (HRun.out _ HB.out).mono ?_
  rintro e w1 ⟨t, er, tv, rfl, ht, hq, hb⟩
  obtain ⟨he0, he1⟩ := HF.out _ _ hq
  have HB1 := Lib.hid (below_then HB.out hb)
  clear hb HB hq HF HRun
  obtain ⟨td, th, tp, rfl, r1, r2, r3⟩ := ht
  obtain ⟨a1, q1, rfl⟩ := r1.form
  obtain ⟨a2, q2, rfl⟩ := r2.form
  obtain ⟨a3, q3, rfl⟩ := r3.form
  clear r1 r2 r3
  go_wp2_with fail
  go_at_call 15
  refine (lives_any _).mono ?_
  rintro e w2 ⟨rfl, hb⟩
  have HB2 := Lib.hid (below_then (below_then HB1.out (below_alloc _ _)) hb)
  clear hb
  go_wp2
  go_ret
  exact ⟨rfl, HB2.out⟩
/-- a row of integers that is not empty, cell by cell -/
theorem RdI.cells {w : World} {v : Value} {l : List Int} {n : Nat} (h : RdI w v l) (hl : l.length = n) (h0 : 0 < n) : ∃ b o cap, v = .slice (some ⟨b, o, none⟩) n cap ∧ n ≤ cap ∧ b < w.heap.size ∧ ∀ k, k < n → w.cell? ⟨b, o + k, none⟩ = some (.int .i64 (gI l k)) := by
  obtain ⟨ad, cap, rfl, h1, h2, hc⟩ := h
  obtain ⟨b, o, rfl, hb, _⟩ := hc 0 _ (gI_get (by omega))
  refine ⟨b, o, cap, by rw [hl], by omega, hb, fun k hk => ?_⟩
  obtain ⟨b', o', e, _, c⟩ := hc k _ (gI_get (by omega))
  cases e; exact c
theorem RdR.cells {w : World} {v : Value} {l : List (List Int)} {n : Nat} (h : RdR w v l) (hl : l.length = n) (h0 : 0 < n) : ∃ b o cap, v = .slice (some ⟨b, o, none⟩) n cap ∧ n ≤ cap ∧ b < w.heap.size ∧ ∀ k, k < n → ∃ u, w.cell? ⟨b, o + k, none⟩ = some u ∧ RdI w u (gL l k) := by
  obtain ⟨ad, cap, rfl, h1, h2, hc⟩ := h
  obtain ⟨b, o, _, rfl, hb, _⟩ := hc 0 _ (gL_get (by omega))
  refine ⟨b, o, cap, by rw [hl], by omega, hb, fun k hk => ?_⟩
  obtain ⟨b', o', u, e, _, c, hr⟩ := hc k _ (gL_get (by omega))
  cases e; exact ⟨u, c, hr⟩
theorem edges_good (R N : Int) (l : List E) (s : Value) (root : Int) (w : World) (hR : I64 R) (hN : I64 N) (hr : Rd3 w s l) (hf : FitT l) (hc : chk R N l = 0) (hro : 0 ≤ root ∧ root < R) :
    Calls Try.prog 8 #[.agg #[.int .i64 R, .int .i64 N, s], .int .i64 root] w fun e w' => e = .returned (.bool true) ∧ Below w.heap.size w w' := by
  have hv := chk_iff.1 hc
  have hR0 := hv.r; have hN0 := hv.n; have hS := hv.s
  obtain ⟨n, hn⟩ : ∃ n : Nat, (n : Int) = R + N := ⟨(R + N).toNat, by omega⟩
  obtain ⟨x, rfl⟩ : ∃ x : Nat, root = (x : Int) := ⟨root.toNat, by omega⟩
  have HRun : Hid (∀ W, Below w.heap.size w W → Calls Try.prog 12 #[.agg #[.int .i64 R, .int .i64 N, s], .int .i64 (x : Int)] W fun e w' => ∃ t tv, e = .returned (.tuple #[tv, .int .i64 0]) ∧ RdT w' tv t ∧ t.root = (x : Int) ∧ Tree R N l (x : Int) n t.dist t.hops t.pars ∧ Below W.heap.size W w') := fun W hW => by
    refine (run_any R N l s (x : Int) W hR hN (hr.below hW)).mono ?_
    rintro e w' ⟨t, er, tv, rfl, ht, hq, hb⟩
    obtain ⟨rfl, m, hm, h1, h2⟩ := hq.good ⟨hc, hro⟩
    obtain rfl : m = n := by omega
    exact ⟨t, tv, rfl, ht, h1, h2, hb⟩
  have HCK : Hid (∀ W, Below w.heap.size w W → Calls Try.prog 17 #[.agg #[.int .i64 R, .int .i64 N, s]] W fun e w' => e = .returned (.int .i64 0) ∧ Below W.heap.size W w') := fun W hW => by
    have := rcheck_any R N s l W hR hN (hr.below hW) hf
    rwa [hc] at this
  have HV : Hid (Valid R N l ∧ (n : Int) = R + N ∧ (x : Int) < R) := ⟨hv, hn, hro.2⟩
  obtain ⟨ad, cap, rfl, hcap1, hcap2, hcc⟩ := hr
  have HC := Lib.hid hcc
  obtain ⟨L, hL⟩ : ∃ L, l.length = L := ⟨_, rfl⟩
  rw [hL] at HRun HCK hcap1 ⊢
  have HL := Lib.hid hL
  have hxn : x < n := by omega
  have hn8 : n ≤ 128 := by omega
  have hn1 : R + N = (n : Int) := hn.symm
  have x0 : (0 : Int) ≤ (x : Int) := by omega
  have x1 : (x : Int) < (n : Int) := by omega
  clear hv hc hcc hL hn hro
  have HB := Lib.hid (below_alloc w (.cells #[.int .i64 R, .int .i64 N, .slice ad L cap] 24))
  have bx : (w.alloc (.cells #[.int .i64 R, .int .i64 N, .slice ad L cap] 24)).heap[w.heap.size]? = some (.cells #[.int .i64 R, .int .i64 N, .slice ad L cap] 24 (0, 0)) := heap_alloc_new _ _
  have HBX := Lib.hid bx
  clear bx
  go_enter Try.func8, Try.ntmps8
  go_wp2_with fail
  go_at_call 12
  refine (HRun.out _ HB.out).mono ?_
  rintro e w1 ⟨t, tv, rfl, ht, htr, hT, hb⟩
  have HT := Lib.hid hT
  obtain ⟨td, th, tp, rfl, r1, r2, r3⟩ := ht
  obtain ⟨b1, o1, q1, rfl, hq1, hb1, hd⟩ := r1.cells hT.ld (by omega)
  obtain ⟨b2, o2, q2, rfl, hq2, hb2, hh⟩ := r2.cells hT.lh (by omega)
  obtain ⟨b3, o3, q3, rfl, hq3, hb3, hp⟩ := r3.cells hT.lp (by omega)
  rw [htr]
  have HB1 := Lib.hid (below_then HB.out hb)
  have HO1 := Lib.hid ((hb.block _ (lt_block HBX.out)).trans HBX.out)
  clear hb HRun HB HBX htr hT r1 r2 r3
  have cg : ∀ o, (w1.alloc o).heap[w.heap.size]? = some (.cells #[.int .i64 R, .int .i64 N, .slice ad L cap] 24 (0, 0)) := fun o => heap_up HO1.out
  have cg0 : ∀ o, (w1.alloc o).cell? ⟨w.heap.size, 0, none⟩ = some (.int .i64 R) := fun o => cell_of (cg o) rfl
  have cg1 : ∀ o, (w1.alloc o).cell? ⟨w.heap.size, 1, none⟩ = some (.int .i64 N) := fun o => cell_of (cg o) rfl
  have cg2 : ∀ o, (w1.alloc o).cell? ⟨w.heap.size, 2, none⟩ = some (.slice ad L cap) := fun o => cell_of (cg o) rfl
  clear cg
  go_wp2_with fail
  clear cg0 cg1 cg2
  have o4 : (w1.alloc (.cells #[.int .i64 (x : Int), .slice (some ⟨b1, o1, none⟩) n q1, .slice (some ⟨b2, o2, none⟩) n q2, .slice (some ⟨b3, o3, none⟩) n q3] 28)).heap[w1.heap.size]? = some (.cells #[.int .i64 (x : Int), .slice (some ⟨b1, o1, none⟩) n q1, .slice (some ⟨b2, o2, none⟩) n q2, .slice (some ⟨b3, o3, none⟩) n q3] 28 (0, 0)) := heap_new1 _ _ rfl
  have o5 : (w1.alloc (.cells #[.int .i64 (x : Int), .slice (some ⟨b1, o1, none⟩) n q1, .slice (some ⟨b2, o2, none⟩) n q2, .slice (some ⟨b3, o3, none⟩) n q3] 28)).heap[w.heap.size]? = _ := heap_up HO1.out
  have hVb := below_alloc w1 (.cells #[.int .i64 (x : Int), .slice (some ⟨b1, o1, none⟩) n q1, .slice (some ⟨b2, o2, none⟩) n q2, .slice (some ⟨b3, o3, none⟩) n q3] 28)
  have HBV := Lib.hid (below_then HB1.out hVb)
  generalize (w1.alloc (.cells #[.int .i64 (x : Int), .slice (some ⟨b1, o1, none⟩) n q1, .slice (some ⟨b2, o2, none⟩) n q2, .slice (some ⟨b3, o3, none⟩) n q3] 28)) = V at *
  have HCG : Hid (∀ W, Below V.heap.size V W → W.cell? ⟨w.heap.size, 0, none⟩ = some (.int .i64 R) ∧ W.cell? ⟨w.heap.size, 1, none⟩ = some (.int .i64 N) ∧ W.cell? ⟨w.heap.size, 2, none⟩ = some (.slice ad L cap)) := fun W hW => ⟨carry hW (cell_of o5 rfl), carry hW (cell_of o5 rfl), carry hW (cell_of o5 rfl)⟩
  have HCT : Hid (∀ W, Below V.heap.size V W → W.cell? ⟨w1.heap.size, 0, none⟩ = some (.int .i64 (x : Int)) ∧ W.cell? ⟨w1.heap.size, 1, none⟩ = some (.slice (some ⟨b1, o1, none⟩) n q1) ∧ W.cell? ⟨w1.heap.size, 2, none⟩ = some (.slice (some ⟨b2, o2, none⟩) n q2) ∧ W.cell? ⟨w1.heap.size, 3, none⟩ = some (.slice (some ⟨b3, o3, none⟩) n q3)) := fun W hW => ⟨carry hW (cell_of o4 rfl), carry hW (cell_of o4 rfl), carry hW (cell_of o4 rfl), carry hW (cell_of o4 rfl)⟩
  have HD : Hid (∀ W, Below V.heap.size V W → ∀ k, k < n → W.cell? ⟨b1, o1 + k, none⟩ = some (.int .i64 (gI t.dist k))) := fun W hW k hk => carry hW (carry hVb (hd k hk))
  have HH : Hid (∀ W, Below V.heap.size V W → ∀ k, k < n → ∃ a c, W.cell? ⟨b2, o2 + k, none⟩ = some (.slice a (gL t.hops k).length c)) := fun W hW k hk => by
    obtain ⟨u, h1, h2⟩ := hh k hk
    obtain ⟨a, c, rfl⟩ := h2.form
    exact ⟨a, c, carry hW (carry hVb h1)⟩
  have HP : Hid (∀ W, Below V.heap.size V W → ∀ k, k < n → ∃ a c, W.cell? ⟨b3, o3 + k, none⟩ = some (.slice a (gL t.pars k).length c)) := fun W hW k hk => by
    obtain ⟨u, h1, h2⟩ := hp k hk
    obtain ⟨a, c, rfl⟩ := h2.form
    exact ⟨a, c, carry hW (carry hVb h1)⟩
  clear o4 o5 hVb hd hh hp HB1 HO1 hb1 hb2 hb3
  go_at_call 17
  refine (HCK.out _ HBV.out).mono ?_
  rintro e w2 ⟨rfl, hb⟩
  have HV2 := Lib.hid hb
  obtain ⟨c0, c1, c2⟩ := HCG.out _ hb
  obtain ⟨d0, d1, d2, d3⟩ := HCT.out _ hb
  have f0 := HD.out _ hb x hxn
  have e0 : gI t.dist x = 0 := by
    rw [HT.out.d x hxn]; exact T_self HV.out.1 _
  rw [e0] at f0
  clear hb e0
  have y0 : decide ((x : Int) < 0) = false := decide_eq_false (by omega)
  have y1 : decide ((n : Int) ≤ (x : Int)) = false := decide_eq_false (by omega)
  have y2 : decide (n ≤ x) = false := decide_eq_false (by omega)
  go_wp2_with fail
  clear c0 c1 c2 d0 d1 d2 d3 f0
  go_loopg [8, 9] L (fun g s8 s9 wr => ∃ i : Nat, i ≤ L ∧ L - i ≤ g ∧ s8 = .int .i64 (i : Int) ∧ (∃ v, v = s9) ∧ Hid (Below V.heap.size V wr))
  case atStart => exact ⟨0, by omega, by omega, rfl, ⟨_, rfl⟩, HV2⟩
  case round =>
    clear HV2
    obtain ⟨i, hi, hig, rfl, ⟨v9, rfl⟩, HW⟩ := hrel
    by_cases hlt : i < L
    · obtain ⟨e, he⟩ : ∃ y, l[i]? = some y := ⟨_, List.getElem?_eq_getElem (by have := HL.out; omega)⟩
      have hm := List.mem_of_getElem? he
      have hed := edge HV.out.1 hm
      obtain ⟨b, off, rfl, hblt, k0, k1, k2⟩ := HC.out i e he
      have kd0 := carryB (below_then HBV.out HW.out) hblt k0
      have kd1 := carryB (below_then HBV.out HW.out) hblt k1
      have kd2 := carryB (below_then HBV.out HW.out) hblt k2
      clear k0 k1 k2
      obtain ⟨u, v, c⟩ := e
      dsimp only at hed kd0 kd1 kd2 hm
      obtain ⟨u, rfl⟩ : ∃ u' : Nat, u = u' := ⟨u.toNat, by omega⟩
      obtain ⟨v, rfl⟩ : ∃ v' : Nat, v = v' := ⟨v.toNat, by omega⟩
      have hnn := HV.out.2.1
      have hun : u < n := by omega
      have hvn : v < n := by omega
      have u0 : (0 : Int) ≤ (u : Int) := by omega
      have u1 : (u : Int) < (n : Int) := by omega
      have v0 : (0 : Int) ≤ (v : Int) := by omega
      have v1 : (v : Int) < (n : Int) := by omega
      have i0 : (0 : Int) ≤ (i : Int) := by omega
      have i1 : (i : Int) < (L : Int) := by omega
      have hcc0 : 0 ≤ c := by omega
      have hcc1 : c ≤ 65535 := by omega
      have hmon : 0 ≤ gI t.dist u → 0 ≤ gI t.dist v ∧ gI t.dist v ≤ gI t.dist u + c := by
        rw [HT.out.d u hun, HT.out.d v hvn]
        exact fun h => T_edge HV.out.1 h hm
      have hsm : gI t.dist u ≤ 65535 * 129 := by
        by_cases h : 0 ≤ T l (x : Int) (u : Int)
        · have := T_small HV.out.1 hnn (i := (x : Int)) (k := (u : Int)) (by have := HV.out.2.2; have := HV.out.1.n; omega) h
          rw [HT.out.d u hun]; omega
        · rw [HT.out.d u hun]; omega
      obtain ⟨c0, c1, c2⟩ := HCG.out _ HW.out
      clear c0 c1 hed he hm hnn
      go_upto_region 11 with (fail)
      have HWA := Lib.hid (below_then HW.out (below_alloc wr (.cells #[.int .i64 (u : Int), .int .i64 (v : Int), .int .i64 c] 46)))
      have oe := heap_new1 wr (.cells #[.int .i64 (u : Int), .int .i64 (v : Int), .int .i64 c] 46) (b := wr.heap.size) rfl
      clear c2
      generalize wr.alloc (.cells #[.int .i64 (u : Int), .int .i64 (v : Int), .int .i64 c] 46) = Wa at *
      generalize wr.heap.size = eb at *
      have e0 : Wa.cell? ⟨eb, 0, none⟩ = some (.int .i64 (u : Int)) := cell_of oe rfl
      have e1 : Wa.cell? ⟨eb, 1, none⟩ = some (.int .i64 (v : Int)) := cell_of oe rfl
      have e2 : Wa.cell? ⟨eb, 2, none⟩ = some (.int .i64 c) := cell_of oe rfl
      obtain ⟨d0, d1, d2, d3⟩ := HCT.out _ HWA.out
      have fu := HD.out _ HWA.out u hun
      have fv := HD.out _ HWA.out v hvn
      clear d0 d2 d3 oe kd0 kd1 kd2 HW
      generalize gI t.dist u = du at *
      generalize gI t.dist v = dv at *
      by_cases hdu : du < 0
      · have z1 : decide (0 ≤ du) = false := decide_eq_false (by omega)
        go_wp2_with fail
        go_quiet (fail)
        go_wp2_with fail
        go_roundg (L - (i + 1))
        case measure => omega
        case rel => exact ⟨i + 1, by omega, Nat.le_refl _, by go_num, ⟨_, rfl⟩, below_drewN HWA.out _⟩
      · obtain ⟨hm1, hm2⟩ := hmon (by omega)
        have z0 : 0 ≤ du := by omega
        have z1 : decide (0 ≤ du) = true := decide_eq_true z0
        have z2 : decide (dv < 0) = false := decide_eq_false (by omega)
        have z3 : decide (du + c < dv) = false := decide_eq_false (by omega)
        clear hmon
        go_wp2_with fail
        go_quiet (fail)
        go_wp2_with fail
        go_roundg (L - (i + 1))
        case measure => omega
        case rel => exact ⟨i + 1, by omega, Nat.le_refl _, by go_num, ⟨_, rfl⟩, below_drewN HWA.out _⟩
    · have k1 : decide ((i : Int) < (L : Int)) = false := decide_eq_false (by omega)
      obtain ⟨c0, c1, c2⟩ := HCG.out _ HW.out
      clear c0 c1
      go_wp2_with fail
      clear c2
      go_loopg [10, 11] n (fun g s10 s11 wr => ∃ j : Nat, j ≤ n ∧ n - j ≤ g ∧ s10 = .int .i64 (j : Int) ∧ (∃ v, v = s11) ∧ Hid (Below V.heap.size V wr))
      case atStart => exact ⟨0, by omega, by omega, rfl, ⟨_, rfl⟩, HW⟩
      case round =>
        clear HW
        obtain ⟨j, hj, hjg, rfl, ⟨v11, rfl⟩, HW⟩ := hrel
        by_cases hjn : j < n
        · have j0 : (0 : Int) ≤ (j : Int) := by omega
          have j1 : (j : Int) < (n : Int) := by omega
          obtain ⟨d0, d1, d2, d3⟩ := HCT.out _ HW.out
          have fj := HD.out _ HW.out j hjn
          obtain ⟨ha, hca, fh⟩ := HH.out _ HW.out j hjn
          obtain ⟨pa, pca, fp⟩ := HP.out _ HW.out j hjn
          have hhn := HT.out.hop_ne HV.out.1 HV.out.2.2 hjn
          have hpn := HT.out.par_ne HV.out.1 HV.out.2.2 hjn
          have hl1 : (gL t.hops j).length = 0 ↔ ¬ ((j : Int) ≠ (x : Int) ∧ 0 ≤ gI t.dist j) := by
            rw [← hhn]; simp
          have hl2 : (gL t.pars j).length = 0 ↔ ¬ ((j : Int) ≠ (x : Int) ∧ 0 ≤ gI t.dist j) := by
            rw [← hpn]; simp
          clear hhn hpn d0
          generalize (gL t.hops j).length = h1 at *
          generalize (gL t.pars j).length = h2 at *
          generalize gI t.dist j = dj at *
          by_cases hjx : j = x
          · obtain rfl : h1 = 0 := hl1.2 (fun h => h.1 (by omega))
            obtain rfl : h2 = 0 := hl2.2 (fun h => h.1 (by omega))
            clear hl1 hl2
            subst hjx
            go_wp2_with fail
            go_roundg (n - (j + 1))
            case measure => omega
            case rel => exact ⟨j + 1, by omega, Nat.le_refl _, by go_num, ⟨_, rfl⟩, HW⟩
          · have z1 : ((j : Int) != (x : Int)) = true := by simp; omega
            by_cases hdj : 0 ≤ dj
            · have z2 : decide (0 ≤ dj) = true := decide_eq_true hdj
              have g1 : 0 < h1 := Nat.pos_of_ne_zero fun e => hl1.1 e ⟨by omega, hdj⟩
              have g2 : 0 < h2 := Nat.pos_of_ne_zero fun e => hl2.1 e ⟨by omega, hdj⟩
              have g3 : decide ((0 : Int) < (h1 : Int)) = true := decide_eq_true (by omega)
              have g4 : decide ((0 : Int) < (h2 : Int)) = true := decide_eq_true (by omega)
              clear hl1 hl2
              go_wp2_with fail
              go_roundg (n - (j + 1))
              case measure => omega
              case rel => exact ⟨j + 1, by omega, Nat.le_refl _, by go_num, ⟨_, rfl⟩, HW⟩
            · have z2 : decide (0 ≤ dj) = false := decide_eq_false hdj
              obtain rfl : h1 = 0 := hl1.2 (fun h => hdj h.2)
              obtain rfl : h2 = 0 := hl2.2 (fun h => hdj h.2)
              clear hl1 hl2
              go_wp2_with fail
              go_roundg (n - (j + 1))
              case measure => omega
              case rel => exact ⟨j + 1, by omega, Nat.le_refl _, by go_num, ⟨_, rfl⟩, HW⟩
        · have k1 : decide ((j : Int) < (n : Int)) = false := decide_eq_false (by omega)
          go_wp2_with fail
          go_at_call 15
          refine (lives_any _).mono ?_
          rintro e w9 ⟨rfl, hb⟩
          have HB9 := Lib.hid (below_then (below_then HBV.out HW.out) hb)
          clear hb
          go_wp2
          go_ret
          exact ⟨rfl, HB9.out⟩
theorem edges_walk (R N : Int) (l : List E) (s : Value) (root : Int) (w : World) (hR : I64 R) (hN : I64 N) (hr : Rd3 w s l) (hf : FitT l) (hx : I64 root) :
    Calls Try.prog 8 #[.agg #[.int .i64 R, .int .i64 N, s], .int .i64 root] w fun e w' => e = .returned (.bool true) ∧ Below w.heap.size w w' := by
  by_cases h : chk R N l = 0 ∧ 0 ≤ root ∧ root < R
  · exact edges_good R N l s root w hR hN hr hf h.1 h.2
  · exact edges_fail R N l s root w hR hN hr h
end Go.Proofs.Ytmlpbhankgojpaa
