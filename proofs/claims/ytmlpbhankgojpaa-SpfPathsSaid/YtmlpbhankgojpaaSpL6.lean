/-
  The walk of the law Paths.
-/
import Derived.Test.YtmlpbhankgojpaaSpL2
import Derived.Test.YtmlpbhankgojpaaSpR3
namespace Go.Proofs.Ytmlpbhankgojpaa
open Go.RowKit HM GM SP
set_option linter.unusedSimpArgs false
set_option linter.unusedVariables false
set_option maxHeartbeats 4000000
set_option maxRecDepth 100000
theorem rpath_any (R N : Int) (l : List E) (s : Value) (x n : Nat) (tz : Int) (w : World) (hv : Valid R N l) (hr : Rd3 w s l) (hn : (n : Int) = R + N) (hxR : (x : Int) < R) :
    Calls Try.prog 20 #[.agg #[.int .i64 R, .int .i64 N, s], .int .i64 (x : Int), .int .i64 tz] w (RPaQ l (x : Int) tz n w) := by
  by_cases h : 0 ≤ tz ∧ tz < (n : Int) ∧ 0 ≤ T l (x : Int) tz
  · obtain ⟨z, rfl⟩ : ∃ z : Nat, tz = (z : Int) := ⟨tz.toNat, by omega⟩
    exact rpath_some R N l s x n z w hv hr hn hxR (by omega) h.2.2
  · exact rpath_none R N l s x n tz w hv hr hn hxR h
theorem paths_fail (R N : Int) (l : List E) (s : Value) (root : Int) (tz : Int) (w : World) (hR : I64 R) (hN : I64 N) (hr : Rd3 w s l) (hn : ¬ (chk R N l = 0 ∧ 0 ≤ root ∧ root < R)) :
    Calls Try.prog 5 #[.agg #[.int .i64 R, .int .i64 N, s], .int .i64 root, .int .i64 tz] w fun e w' => e = .returned (.bool true) ∧ Below w.heap.size w w' := by
  have HRun : Hid (∀ W, Below w.heap.size w W → Calls Try.prog 12 #[.agg #[.int .i64 R, .int .i64 N, s], .int .i64 root] W (RunQ R N l root W)) := fun W hW => run_any R N l s root W hR hN (hr.below hW)
  have HF : Hid (∀ t er, RunR R N l root t er → (er == 0) = false ∧ (er != 0) = true) := fun t er h => h.fail hn
  obtain ⟨ad, cap, hform⟩ := rd3_slice hr
  obtain ⟨L, hL⟩ : ∃ L, l.length = L := ⟨_, rfl⟩
  rw [hL] at hform
  subst hform
  clear hr hL hn
  have HB := Lib.hid (below_alloc w (.cells #[.int .i64 R, .int .i64 N, .slice ad L cap] 24))
  go_enter Try.func5, Try.ntmps5
  go_wp2_with fail
  go_at_call 12
  refine (HRun.out _ HB.out).mono ?_
  rintro e w1 ⟨t, er, tv, rfl, ht, hq, hb⟩
  obtain ⟨he0, he1⟩ := HF.out _ _ hq
  have HB1 := Lib.hid (below_then HB.out hb)
  clear hb HB hq HF HRun
  obtain ⟨td, th, tp, rfl, r1, r2, r3⟩ := ht
  obtain ⟨a1, q1, rfl⟩ := r1.form
  obtain ⟨a2, q2, rfl⟩ := r2.form
  obtain ⟨a3, q3, rfl⟩ := r3.form
  clear r1 r2 r3
  go_wp2_with fail
  go_at_call 15
  refine (lives_any _).mono ?_
  rintro e w2 ⟨rfl, hb⟩
  have HB2 := Lib.hid (below_then (below_then HB1.out (below_alloc _ _)) hb)
  clear hb
  go_wp2
  go_ret
  exact ⟨rfl, HB2.out⟩
theorem paths_good (R N : Int) (l : List E) (s : Value) (root tz : Int) (w : World) (hR : I64 R) (hN : I64 N) (hr : Rd3 w s l) (hf : FitT l) (hc : chk R N l = 0) (hro : 0 ≤ root ∧ root < R) :
    Calls Try.prog 5 #[.agg #[.int .i64 R, .int .i64 N, s], .int .i64 root, .int .i64 tz] w fun e w' => e = .returned (.bool true) ∧ Below w.heap.size w w' := by
  have hv := chk_iff.1 hc
  have hR0 := hv.r; have hN0 := hv.n; have hS := hv.s
  obtain ⟨n, hn⟩ : ∃ n : Nat, (n : Int) = R + N := ⟨(R + N).toNat, by omega⟩
  obtain ⟨x, rfl⟩ : ∃ x : Nat, root = (x : Int) := ⟨root.toNat, by omega⟩
  have HRun : Hid (∀ W, Below w.heap.size w W → Calls Try.prog 12 #[.agg #[.int .i64 R, .int .i64 N, s], .int .i64 (x : Int)] W fun e w' => ∃ t tv, e = .returned (.tuple #[tv, .int .i64 0]) ∧ RdT w' tv t ∧ t.root = (x : Int) ∧ Tree R N l (x : Int) n t.dist t.hops t.pars ∧ Below W.heap.size W w') := fun W hW => by
    refine (run_any R N l s (x : Int) W hR hN (hr.below hW)).mono ?_
    rintro e w' ⟨t, er, tv, rfl, ht, hq, hb⟩
    obtain ⟨rfl, m, hm, h1, h2⟩ := hq.good ⟨hc, hro⟩
    obtain rfl : m = n := by omega
    exact ⟨t, tv, rfl, ht, h1, h2, hb⟩
  have HCK : Hid (∀ W, Below w.heap.size w W → Calls Try.prog 17 #[.agg #[.int .i64 R, .int .i64 N, s]] W fun e w' => e = .returned (.int .i64 0) ∧ Below W.heap.size W w') := fun W hW => by
    have := rcheck_any R N s l W hR hN (hr.below hW) hf
    rwa [hc] at this
  have HPa : Hid (∀ (t : Tre) (tv : Value) W, Tree R N l (x : Int) n t.dist t.hops t.pars → t.root = (x : Int) → RdT W tv t → Calls Try.prog 19 #[tv, .int .i64 tz] W fun e w' => ∃ v p, e = .returned v ∧ PaR l (x : Int) tz n p ∧ RdI w' v p ∧ Below W.heap.size W w') := fun t tv W h1 h2 h3 => by
    refine (path_any R N l (x : Int) tz n t tv W hv hn hro h1 h2 h3).mono ?_
    rintro e w' ⟨v, p, rfl, k1, k2, k3⟩
    exact ⟨v, p, rfl, k1, rdi_own k2, k3⟩
  have HRP : Hid (∀ W, Below w.heap.size w W → Calls Try.prog 20 #[.agg #[.int .i64 R, .int .i64 N, s], .int .i64 (x : Int), .int .i64 tz] W (RPaQ l (x : Int) tz n W)) := fun W hW => rpath_any R N l s x n tz W hv (hr.below hW) hn hro.2
  have HV : Hid (Valid R N l ∧ (n : Int) = R + N ∧ (x : Int) < R) := ⟨hv, hn, hro.2⟩
  obtain ⟨ad, cap, rfl, hcap1, hcap2, hcc⟩ := hr
  have HC := Lib.hid hcc
  obtain ⟨L, hL⟩ : ∃ L, l.length = L := ⟨_, rfl⟩
  rw [hL] at HRun HCK HRP hcap1 ⊢
  have HL := Lib.hid hL
  have hxn : x < n := by omega
  have hn8 : n ≤ 128 := by omega
  have hn1 : R + N = (n : Int) := hn.symm
  have x0 : (0 : Int) ≤ (x : Int) := by omega
  have x1 : (x : Int) < (n : Int) := by omega
  clear hv hc hcc hL hn hro
  have HB := Lib.hid (below_alloc w (.cells #[.int .i64 R, .int .i64 N, .slice ad L cap] 24))
  have bx : (w.alloc (.cells #[.int .i64 R, .int .i64 N, .slice ad L cap] 24)).heap[w.heap.size]? = some (.cells #[.int .i64 R, .int .i64 N, .slice ad L cap] 24 (0, 0)) := heap_alloc_new _ _
  have HBX := Lib.hid bx
  clear bx
  go_enter Try.func5, Try.ntmps5
  go_wp2_with fail
  go_at_call 12
  refine (HRun.out _ HB.out).mono ?_
  rintro e w1 ⟨t, tv, rfl, ht, htr, hT, hb⟩
  have HT := Lib.hid hT
  have HTR := Lib.hid (And.intro ht htr)
  obtain ⟨td, th, tp, rfl, r1, r2, r3⟩ := ht
  obtain ⟨b1, o1, q1, rfl, hq1, hb1, hd⟩ := r1.cells hT.ld (by omega)
  obtain ⟨b2, o2, q2, rfl, hq2, hb2, hh⟩ := r2.cells hT.lh (by omega)
  obtain ⟨b3, o3, q3, rfl, hq3, hb3, hp⟩ := r3.cells hT.lp (by omega)
  rw [htr]
  have HB1 := Lib.hid (below_then HB.out hb)
  have HO1 := Lib.hid ((hb.block _ (lt_block HBX.out)).trans HBX.out)
  clear hb HRun HB HBX htr hT r1 r2 r3
  have cg : ∀ o, (w1.alloc o).heap[w.heap.size]? = some (.cells #[.int .i64 R, .int .i64 N, .slice ad L cap] 24 (0, 0)) := fun o => heap_up HO1.out
  have cg0 : ∀ o, (w1.alloc o).cell? ⟨w.heap.size, 0, none⟩ = some (.int .i64 R) := fun o => cell_of (cg o) rfl
  have cg1 : ∀ o, (w1.alloc o).cell? ⟨w.heap.size, 1, none⟩ = some (.int .i64 N) := fun o => cell_of (cg o) rfl
  have cg2 : ∀ o, (w1.alloc o).cell? ⟨w.heap.size, 2, none⟩ = some (.slice ad L cap) := fun o => cell_of (cg o) rfl
  clear cg
  go_wp2_with fail
  clear cg0 cg1 cg2
  have o4 : (w1.alloc (.cells #[.int .i64 (x : Int), .slice (some ⟨b1, o1, none⟩) n q1, .slice (some ⟨b2, o2, none⟩) n q2, .slice (some ⟨b3, o3, none⟩) n q3] 28)).heap[w1.heap.size]? = some (.cells #[.int .i64 (x : Int), .slice (some ⟨b1, o1, none⟩) n q1, .slice (some ⟨b2, o2, none⟩) n q2, .slice (some ⟨b3, o3, none⟩) n q3] 28 (0, 0)) := heap_new1 _ _ rfl
  have o5 : (w1.alloc (.cells #[.int .i64 (x : Int), .slice (some ⟨b1, o1, none⟩) n q1, .slice (some ⟨b2, o2, none⟩) n q2, .slice (some ⟨b3, o3, none⟩) n q3] 28)).heap[w.heap.size]? = _ := heap_up HO1.out
  have hVb := below_alloc w1 (.cells #[.int .i64 (x : Int), .slice (some ⟨b1, o1, none⟩) n q1, .slice (some ⟨b2, o2, none⟩) n q2, .slice (some ⟨b3, o3, none⟩) n q3] 28)
  have HBV := Lib.hid (below_then HB1.out hVb)
  generalize (w1.alloc (.cells #[.int .i64 (x : Int), .slice (some ⟨b1, o1, none⟩) n q1, .slice (some ⟨b2, o2, none⟩) n q2, .slice (some ⟨b3, o3, none⟩) n q3] 28)) = V at *
  have HCG : Hid (∀ W, Below V.heap.size V W → W.cell? ⟨w.heap.size, 0, none⟩ = some (.int .i64 R) ∧ W.cell? ⟨w.heap.size, 1, none⟩ = some (.int .i64 N) ∧ W.cell? ⟨w.heap.size, 2, none⟩ = some (.slice ad L cap)) := fun W hW => ⟨carry hW (cell_of o5 rfl), carry hW (cell_of o5 rfl), carry hW (cell_of o5 rfl)⟩
  have HCT : Hid (∀ W, Below V.heap.size V W → W.cell? ⟨w1.heap.size, 0, none⟩ = some (.int .i64 (x : Int)) ∧ W.cell? ⟨w1.heap.size, 1, none⟩ = some (.slice (some ⟨b1, o1, none⟩) n q1) ∧ W.cell? ⟨w1.heap.size, 2, none⟩ = some (.slice (some ⟨b2, o2, none⟩) n q2) ∧ W.cell? ⟨w1.heap.size, 3, none⟩ = some (.slice (some ⟨b3, o3, none⟩) n q3)) := fun W hW => ⟨carry hW (cell_of o4 rfl), carry hW (cell_of o4 rfl), carry hW (cell_of o4 rfl), carry hW (cell_of o4 rfl)⟩
  have HRT := Lib.hid (And.intro (HTR.out.1.below hVb) HTR.out.2)
  clear o4 o5 hVb hd hh hp HB1 HO1 hb1 hb2 hb3
  go_at_call 17
  have HRT2 := Lib.hid HRT.out.1
  rw [HRT.out.2] at HRT2
  refine (HCK.out _ HBV.out).mono ?_
  rintro e w2 ⟨rfl, hb⟩
  have HV2 := Lib.hid hb
  obtain ⟨c0, c1, c2⟩ := HCG.out _ hb
  have y0 : decide ((x : Int) < 0) = false := decide_eq_false (by omega)
  have y1 : decide (R ≤ (x : Int)) = false := decide_eq_false (by have := HV.out.2.2; omega)
  clear hb
  go_upto_region 6 with (fail)
  clear c0 c1 c2
  have HSS : Hid (∀ W, Below V.heap.size V W → (W.cell? ⟨w.heap.size, 0, none⟩ = some (.int .i64 R) ∧ W.cell? ⟨w.heap.size, 1, none⟩ = some (.int .i64 N) ∧ W.cell? ⟨w.heap.size, 2, none⟩ = some (.slice ad L cap)) ∧ (W.cell? ⟨w1.heap.size, 0, none⟩ = some (.int .i64 (x : Int)) ∧ W.cell? ⟨w1.heap.size, 1, none⟩ = some (.slice (some ⟨b1, o1, none⟩) n q1) ∧ W.cell? ⟨w1.heap.size, 2, none⟩ = some (.slice (some ⟨b2, o2, none⟩) n q2) ∧ W.cell? ⟨w1.heap.size, 3, none⟩ = some (.slice (some ⟨b3, o3, none⟩) n q3)) ∧ Below V.heap.size V W) := fun W hW => ⟨HCG.out W hW, HCT.out W hW, hW⟩
  refine wp_region_held_drew (S := fun W => (W.cell? ⟨w.heap.size, 0, none⟩ = some (.int .i64 R) ∧ W.cell? ⟨w.heap.size, 1, none⟩ = some (.int .i64 N) ∧ W.cell? ⟨w.heap.size, 2, none⟩ = some (.slice ad L cap)) ∧ (W.cell? ⟨w1.heap.size, 0, none⟩ = some (.int .i64 (x : Int)) ∧ W.cell? ⟨w1.heap.size, 1, none⟩ = some (.slice (some ⟨b1, o1, none⟩) n q1) ∧ W.cell? ⟨w1.heap.size, 2, none⟩ = some (.slice (some ⟨b2, o2, none⟩) n q2) ∧ W.cell? ⟨w1.heap.size, 3, none⟩ = some (.slice (some ⟨b3, o3, none⟩) n q3)) ∧ Below V.heap.size V W) (by kernel_rfl) (HSS.out _ HV2.out.drew) (fun hS0 => ?_)
  refine wpAnyH_take (i := 0) (oi := ⟨some 31, _, _, _, _, _⟩) (v := .agg #[.int .i64 (x : Int), .slice (some ⟨b1, o1, none⟩) n q1, .slice (some ⟨b2, o2, none⟩) n q2, .slice (some ⟨b3, o3, none⟩) n q3]) rfl (by kernel_rfl) (by kernel_rfl) (by kernel_rfl) (fun _ _ _ h => h) (Or.inl ⟨by rfl, by intro w' hw'; obtain ⟨⟨c0, c1, c2⟩, ⟨d0, d1, d2, d3⟩, _⟩ := hw'; go_simp⟩) hS0 ?_
  simp only [Act.put, List.setIfInBounds_toArray, List.set_cons_zero, List.set_cons_succ]
  refine wpAnyH_take (i := 1) (oi := ⟨some 32, _, _, _, _, _⟩) (v := .int .i64 tz) rfl (by kernel_rfl) (by kernel_rfl) (by kernel_rfl) (fun _ _ _ h => h) (Or.inl ⟨by rfl, by intro w' hw'; obtain ⟨⟨c0, c1, c2⟩, ⟨d0, d1, d2, d3⟩, _⟩ := hw'; go_simp⟩) hS0 ?_
  simp only [Act.put, List.setIfInBounds_toArray, List.set_cons_zero, List.set_cons_succ]
  refine wpAnyH_take (i := 3) (oi := ⟨some 34, _, _, _, _, _⟩) (v := .agg #[.int .i64 R, .int .i64 N, .slice ad L cap]) rfl (by kernel_rfl) (by kernel_rfl) (by kernel_rfl) (fun _ _ _ h => h) (Or.inl ⟨by rfl, by intro w' hw'; obtain ⟨⟨c0, c1, c2⟩, ⟨d0, d1, d2, d3⟩, _⟩ := hw'; go_simp⟩) hS0 ?_
  simp only [Act.put, List.setIfInBounds_toArray, List.set_cons_zero, List.set_cons_succ]
  refine wpAnyH_take (i := 4) (oi := ⟨some 35, _, _, _, _, _⟩) (v := .int .i64 (x : Int)) rfl (by kernel_rfl) (by kernel_rfl) (by kernel_rfl) (fun _ _ _ h => h) (Or.inl ⟨by rfl, by intro w' hw'; obtain ⟨⟨c0, c1, c2⟩, ⟨d0, d1, d2, d3⟩, _⟩ := hw'; go_simp⟩) hS0 ?_
  simp only [Act.put, List.setIfInBounds_toArray, List.set_cons_zero, List.set_cons_succ]
  refine wpAnyH_take (i := 5) (oi := ⟨some 36, _, _, _, _, _⟩) (v := .int .i64 tz) rfl (by kernel_rfl) (by kernel_rfl) (by kernel_rfl) (fun _ _ _ h => h) (Or.inl ⟨by rfl, by intro w' hw'; obtain ⟨⟨c0, c1, c2⟩, ⟨d0, d1, d2, d3⟩, _⟩ := hw'; go_simp⟩) hS0 ?_
  simp only [Act.put, List.setIfInBounds_toArray, List.set_cons_zero, List.set_cons_succ]
  refine wpAnyH_ready (rs := [2]) (by kernel_rfl) (by simp) ?_
  refine AllReadyH.cons rfl (fun K hK => ?_) AllReadyH.nil
  go_simp
  go_at_call 19
  refine (HPa.out t _ _ HT.out HRT.out.2 (HRT2.out.below hS0.2.2)).mono ?_
  rintro e w3 ⟨v3, p3, rfl, hp3, hr3, hb⟩
  have hS1 := HSS.out _ (below_then hS0.2.2 hb)
  have HP3 := Lib.hid (And.intro hp3 hr3)
  obtain ⟨a3, c3, rfl⟩ := hr3.form
  clear hp3 hr3
  go_wp2_with fail
  refine hK.out _ _ hS1 (fun _ => ?_)
  clear hK K hb
  (try simp only [Act.put, List.setIfInBounds_toArray, List.set_cons_zero, List.set_cons_succ])
  refine wpAnyH_ready (rs := [6]) (by kernel_rfl) (by simp) ?_
  refine AllReadyH.cons rfl (fun K hK => ?_) AllReadyH.nil
  go_simp
  go_at_call 20
  refine (HRP.out _ (below_then HBV.out hS1.2.2)).mono ?_
  rintro e w4 ⟨v4, p4, rfl, hp4, hr4, hb⟩
  have hS2 := HSS.out _ (below_then hS1.2.2 hb)
  have HP4 := Lib.hid (And.intro hp4 hr4)
  have HP5 := Lib.hid (HP3.out.2.below hb)
  obtain ⟨a4, c4, rfl⟩ := hr4.form
  clear hp4 hr4
  go_wp2_with fail
  refine hK.out _ _ hS2 (fun _ => ?_)
  clear hK K hb
  (try simp only [Act.put, List.setIfInBounds_toArray, List.set_cons_zero, List.set_cons_succ])
  refine wpAnyH_ready (rs := [7]) (by kernel_rfl) (by simp) ?_
  refine AllReadyH.cons rfl (fun K hK => ?_) AllReadyH.nil
  go_simp
  go_at_call 18
  refine (same_ints p3 p4 _ _ _ HP5.out HP4.out.2).mono ?_
  rintro e w5 ⟨he, hb⟩
  have hS3 := HSS.out _ (below_then hS2.2.2 hb)
  have hpe : p3 = p4 := HP3.out.1.unique HV.out.1 HP4.out.1
  rw [decide_eq_true hpe] at he
  subst he
  go_wp2_with fail
  refine hK.out _ _ hS3 (fun _ => ?_)
  clear hK K hb
  (try simp only [Act.put, List.setIfInBounds_toArray, List.set_cons_zero, List.set_cons_succ])
  refine wpAnyH_take (i := 8) (oi := ⟨some 39, _, _, _, _, _⟩) (v := .bool true) rfl (by kernel_rfl) (by kernel_rfl) (by kernel_rfl) (fun _ _ _ h => h) (Or.inl ⟨by rfl, by intro w' hw'; obtain ⟨⟨c0, c1, c2⟩, ⟨d0, d1, d2, d3⟩, _⟩ := hw'; go_simp⟩) hS3 ?_
  simp only [Act.put, List.setIfInBounds_toArray, List.set_cons_zero, List.set_cons_succ]
  refine wpAnyH_ready (rs := [9]) (by kernel_rfl) (by simp) ?_
  refine AllReadyH.cons rfl (fun K hK => ?_) AllReadyH.nil
  go_simp
  go_at_call 15
  refine (lives_any _).mono ?_
  rintro e w6 ⟨rfl, hb⟩
  have hS4 := HSS.out _ (below_then hS3.2.2 hb)
  go_wp2_with fail
  refine hK.out _ _ hS4 (fun _ => ?_)
  clear hK K hb
  (try simp only [Act.put, List.setIfInBounds_toArray, List.set_cons_zero, List.set_cons_succ])
  refine wpAnyH_take (i := 10) (oi := ⟨some 41, _, _, _, _, _⟩) (v := .bool true) rfl (by kernel_rfl) (by kernel_rfl) (by kernel_rfl) (fun _ _ _ h => h) (Or.inl ⟨by rfl, by intro w' hw'; obtain ⟨⟨c0, c1, c2⟩, ⟨d0, d1, d2, d3⟩, _⟩ := hw'; go_simp⟩) hS4 ?_
  simp only [Act.put, List.setIfInBounds_toArray, List.set_cons_zero, List.set_cons_succ]
  refine wpAnyH_take (i := 11) (oi := ⟨some 6, _, _, _, _, _⟩) (v := .bool true) rfl (by kernel_rfl) (by kernel_rfl) (by kernel_rfl) (fun _ _ _ h => h) (Or.inl ⟨by rfl, by intro w' hw'; obtain ⟨⟨c0, c1, c2⟩, ⟨d0, d1, d2, d3⟩, _⟩ := hw'; go_simp⟩) hS4 ?_
  simp only [Act.put, List.setIfInBounds_toArray, List.set_cons_zero, List.set_cons_succ]
  refine wpAnyH_done (by kernel_rfl) ?_ _
  go_wp2
  go_ret
  exact ⟨rfl, below_then HBV.out hS4.2.2⟩
theorem paths_walk (R N : Int) (l : List E) (s : Value) (root : Int) (tz : Int) (w : World) (hR : I64 R) (hN : I64 N) (hr : Rd3 w s l) (hf : FitT l) (hx : I64 root) (hz : I64 tz) :
    Calls Try.prog 5 #[.agg #[.int .i64 R, .int .i64 N, s], .int .i64 root, .int .i64 tz] w fun e w' => e = .returned (.bool true) ∧ Below w.heap.size w w' := by
  by_cases h : chk R N l = 0 ∧ 0 ≤ root ∧ root < R
  · exact paths_good R N l s root tz w hR hN hr hf h.1 h.2
  · exact paths_fail R N l s root tz w hR hN hr h
end Go.Proofs.Ytmlpbhankgojpaa
