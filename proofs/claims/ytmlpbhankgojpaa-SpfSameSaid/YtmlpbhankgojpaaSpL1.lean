/-
  The walk of the law Same.
-/
import Derived.Test.YtmlpbhankgojpaaSpLv
namespace Go.Proofs.Ytmlpbhankgojpaa
open Go.RowKit HM GM SP
set_option linter.unusedSimpArgs false
set_option linter.unusedVariables false
set_option maxHeartbeats 4000000
set_option maxRecDepth 100000
theorem same_walk (a : Tre) (v : Value) (b : Tre) (u : Value) (w : World) (hv : RdT w v a) (hia : I64 a.root) (hu : RdT w u b) (hib : I64 b.root) :
    Calls Try.prog 7 #[v, u] w fun e w' => e = .returned (.bool true) ∧ Below w.heap.size w w' := by
  have HA : Hid (∀ W, Below w.heap.size w W → Calls Try.prog 24 #[v, u] W fun e w' => e = .returned (.bool (decide (a = b))) ∧ Below W.heap.size W w') := fun W hW => csame_any a b v u W (hv.below hW) (hu.below hW)
  have HR : Hid (∀ W, Below w.heap.size w W → Calls Try.prog 14 #[v, u] W fun e w' => e = .returned (.bool (decide (a = b))) ∧ Below W.heap.size W w') := fun W hW => rsame_any a b v u W (hv.below hW) (hu.below hW)
  have HS : Hid (∀ W, Below w.heap.size w W → Calls Try.prog 24 #[v, v] W fun e w' => e = .returned (.bool true) ∧ Below W.heap.size W w') := fun W hW => by
    have := csame_any a a v v W (hv.below hW) (hv.below hW)
    rwa [decide_eq_true rfl] at this
  have HL : Hid (∀ W, Below w.heap.size w W → Calls Try.prog 15 #[] W fun e w' => e = .returned (.bool true) ∧ Below W.heap.size W w') := fun W hW => lives_any W
  obtain ⟨d, h, p, rfl, v1, v2, v3⟩ := hv
  obtain ⟨d', h', p', rfl, u1, u2, u3⟩ := hu
  obtain ⟨x1, q1, rfl⟩ := v1.form
  obtain ⟨x2, q2, rfl⟩ := v2.form
  obtain ⟨x3, q3, rfl⟩ := v3.form
  obtain ⟨y1, r1, rfl⟩ := u1.form
  obtain ⟨y2, r2, rfl⟩ := u2.form
  obtain ⟨y3, r3, rfl⟩ := u3.form
  generalize decide (a = b) = D at *
  generalize a.root = ra at *
  generalize b.root = rb at *
  generalize a.dist.length = n1 at *
  generalize a.hops.length = n2 at *
  generalize a.pars.length = n3 at *
  generalize b.dist.length = m1 at *
  generalize b.hops.length = m2 at *
  generalize b.pars.length = m3 at *
  clear v1 v2 v3 u1 u2 u3 hia hib
  have HDD : (D == D) = true := by cases D <;> rfl
  go_enter Try.func7, Try.ntmps7
  go_upto_region 1 with (fail)
  have o1 := heap_up (o := .cells #[.int .i64 rb, .slice y1 m1 r1, .slice y2 m2 r2, .slice y3 m3 r3] 28) (heap_new1 w (.cells #[.int .i64 ra, .slice x1 n1 q1, .slice x2 n2 q2, .slice x3 n3 q3] 28) (b := w.heap.size) rfl)
  have o2 := heap_new1 (w.alloc (.cells #[.int .i64 ra, .slice x1 n1 q1, .slice x2 n2 q2, .slice x3 n3 q3] 28)) (.cells #[.int .i64 rb, .slice y1 m1 r1, .slice y2 m2 r2, .slice y3 m3 r3] 28) (b := w.heap.size + 1) (by simp)
  have HB := Lib.hid (below_then (below_alloc w (.cells #[.int .i64 ra, .slice x1 n1 q1, .slice x2 n2 q2, .slice x3 n3 q3] 28)) (below_alloc _ (.cells #[.int .i64 rb, .slice y1 m1 r1, .slice y2 m2 r2, .slice y3 m3 r3] 28)))
  generalize hV : ((w.alloc (.cells #[.int .i64 ra, .slice x1 n1 q1, .slice x2 n2 q2, .slice x3 n3 q3] 28)).alloc (.cells #[.int .i64 rb, .slice y1 m1 r1, .slice y2 m2 r2, .slice y3 m3 r3] 28)) = V at *
  have HSS : Hid (∀ W, Below V.heap.size V W → (W.cell? ⟨w.heap.size, 0, none⟩ = some (.int .i64 ra) ∧ W.cell? ⟨w.heap.size, 1, none⟩ = some (.slice x1 n1 q1) ∧ W.cell? ⟨w.heap.size, 2, none⟩ = some (.slice x2 n2 q2) ∧ W.cell? ⟨w.heap.size, 3, none⟩ = some (.slice x3 n3 q3)) ∧ (W.cell? ⟨w.heap.size + 1, 0, none⟩ = some (.int .i64 rb) ∧ W.cell? ⟨w.heap.size + 1, 1, none⟩ = some (.slice y1 m1 r1) ∧ W.cell? ⟨w.heap.size + 1, 2, none⟩ = some (.slice y2 m2 r2) ∧ W.cell? ⟨w.heap.size + 1, 3, none⟩ = some (.slice y3 m3 r3)) ∧ Below V.heap.size V W) := fun W hW =>
    ⟨⟨carry hW (cell_of o1 rfl), carry hW (cell_of o1 rfl), carry hW (cell_of o1 rfl), carry hW (cell_of o1 rfl)⟩, ⟨carry hW (cell_of o2 rfl), carry hW (cell_of o2 rfl), carry hW (cell_of o2 rfl), carry hW (cell_of o2 rfl)⟩, hW⟩
  have HA : Hid (∀ W, Below V.heap.size V W → Calls Try.prog 24 #[.agg #[.int .i64 ra, .slice x1 n1 q1, .slice x2 n2 q2, .slice x3 n3 q3], .agg #[.int .i64 rb, .slice y1 m1 r1, .slice y2 m2 r2, .slice y3 m3 r3]] W fun e w' => e = .returned (.bool D) ∧ Below W.heap.size W w') := fun W hW => HA.out W (below_then HB.out hW)
  have HR : Hid (∀ W, Below V.heap.size V W → Calls Try.prog 14 #[.agg #[.int .i64 ra, .slice x1 n1 q1, .slice x2 n2 q2, .slice x3 n3 q3], .agg #[.int .i64 rb, .slice y1 m1 r1, .slice y2 m2 r2, .slice y3 m3 r3]] W fun e w' => e = .returned (.bool D) ∧ Below W.heap.size W w') := fun W hW => HR.out W (below_then HB.out hW)
  have HS : Hid (∀ W, Below V.heap.size V W → Calls Try.prog 24 #[.agg #[.int .i64 ra, .slice x1 n1 q1, .slice x2 n2 q2, .slice x3 n3 q3], .agg #[.int .i64 ra, .slice x1 n1 q1, .slice x2 n2 q2, .slice x3 n3 q3]] W fun e w' => e = .returned (.bool true) ∧ Below W.heap.size W w') := fun W hW => HS.out W (below_then HB.out hW)
  have HL : Hid (∀ W, Below V.heap.size V W → Calls Try.prog 15 #[] W fun e w' => e = .returned (.bool true) ∧ Below W.heap.size W w') := fun W hW => HL.out W (below_then HB.out hW)
  clear o1 o2 hV
  have hV0 := HSS.out V (Below.refl _ _)
  refine wp_region_held_drew (S := fun W => (W.cell? ⟨w.heap.size, 0, none⟩ = some (.int .i64 ra) ∧ W.cell? ⟨w.heap.size, 1, none⟩ = some (.slice x1 n1 q1) ∧ W.cell? ⟨w.heap.size, 2, none⟩ = some (.slice x2 n2 q2) ∧ W.cell? ⟨w.heap.size, 3, none⟩ = some (.slice x3 n3 q3)) ∧ (W.cell? ⟨w.heap.size + 1, 0, none⟩ = some (.int .i64 rb) ∧ W.cell? ⟨w.heap.size + 1, 1, none⟩ = some (.slice y1 m1 r1) ∧ W.cell? ⟨w.heap.size + 1, 2, none⟩ = some (.slice y2 m2 r2) ∧ W.cell? ⟨w.heap.size + 1, 3, none⟩ = some (.slice y3 m3 r3)) ∧ Below V.heap.size V W) (by kernel_rfl) (HSS.out _ (Below.refl _ _).drew) (fun hS0 => ?_)
  refine wpAnyH_take (i := 0) (oi := ⟨some 5, _, _, _, _, _⟩) (v := .agg #[.int .i64 ra, .slice x1 n1 q1, .slice x2 n2 q2, .slice x3 n3 q3]) rfl (by kernel_rfl) (by kernel_rfl) (by kernel_rfl) (fun _ _ _ h => h) (Or.inl ⟨by rfl, by intro w' hw'; obtain ⟨⟨c0, c1, c2, c3⟩, ⟨d0, d1, d2, d3⟩, _⟩ := hw'; go_simp⟩) hS0 ?_
  simp only [Act.put, List.setIfInBounds_toArray, List.set_cons_zero, List.set_cons_succ]
  refine wpAnyH_take (i := 1) (oi := ⟨some 6, _, _, _, _, _⟩) (v := .agg #[.int .i64 rb, .slice y1 m1 r1, .slice y2 m2 r2, .slice y3 m3 r3]) rfl (by kernel_rfl) (by kernel_rfl) (by kernel_rfl) (fun _ _ _ h => h) (Or.inl ⟨by rfl, by intro w' hw'; obtain ⟨⟨c0, c1, c2, c3⟩, ⟨d0, d1, d2, d3⟩, _⟩ := hw'; go_simp⟩) hS0 ?_
  simp only [Act.put, List.setIfInBounds_toArray, List.set_cons_zero, List.set_cons_succ]
  refine wpAnyH_take (i := 3) (oi := ⟨some 8, _, _, _, _, _⟩) (v := .agg #[.int .i64 ra, .slice x1 n1 q1, .slice x2 n2 q2, .slice x3 n3 q3]) rfl (by kernel_rfl) (by kernel_rfl) (by kernel_rfl) (fun _ _ _ h => h) (Or.inl ⟨by rfl, by intro w' hw'; obtain ⟨⟨c0, c1, c2, c3⟩, ⟨d0, d1, d2, d3⟩, _⟩ := hw'; go_simp⟩) hS0 ?_
  simp only [Act.put, List.setIfInBounds_toArray, List.set_cons_zero, List.set_cons_succ]
  refine wpAnyH_take (i := 4) (oi := ⟨some 9, _, _, _, _, _⟩) (v := .agg #[.int .i64 rb, .slice y1 m1 r1, .slice y2 m2 r2, .slice y3 m3 r3]) rfl (by kernel_rfl) (by kernel_rfl) (by kernel_rfl) (fun _ _ _ h => h) (Or.inl ⟨by rfl, by intro w' hw'; obtain ⟨⟨c0, c1, c2, c3⟩, ⟨d0, d1, d2, d3⟩, _⟩ := hw'; go_simp⟩) hS0 ?_
  simp only [Act.put, List.setIfInBounds_toArray, List.set_cons_zero, List.set_cons_succ]
  refine wpAnyH_ready (rs := [2]) (by kernel_rfl) (by simp) ?_
  refine AllReadyH.cons rfl (fun K hK => ?_) AllReadyH.nil
  go_simp
  go_at_call 24
  refine (HA.out _ hS0.2.2).mono ?_
  rintro e w1 ⟨rfl, hb⟩
  have hS1 := HSS.out _ (below_then hS0.2.2 hb)
  go_wp2_with fail
  refine hK.out _ _ hS1 (fun _ => ?_)
  clear hK K hb
  (try simp only [Act.put, List.setIfInBounds_toArray, List.set_cons_zero, List.set_cons_succ])
  refine wpAnyH_ready (rs := [5]) (by kernel_rfl) (by simp) ?_
  refine AllReadyH.cons rfl (fun K hK => ?_) AllReadyH.nil
  go_simp
  go_at_call 14
  refine (HR.out _ hS1.2.2).mono ?_
  rintro e w2 ⟨rfl, hb⟩
  have hS2 := HSS.out _ (below_then hS1.2.2 hb)
  go_wp2_with fail
  refine hK.out _ _ hS2 (fun _ => ?_)
  clear hK K hb
  (try simp only [Act.put, List.setIfInBounds_toArray, List.set_cons_zero, List.set_cons_succ])
  refine wpAnyH_take (i := 6) (oi := ⟨some 11, _, _, _, _, _⟩) (v := .bool true) rfl (by kernel_rfl) (by kernel_rfl) (by kernel_rfl) (fun _ _ _ h => h) (Or.inl ⟨by rfl, by intro w' hw'; obtain ⟨⟨c0, c1, c2, c3⟩, ⟨d0, d1, d2, d3⟩, _⟩ := hw'; go_simp⟩) hS2 ?_
  simp only [Act.put, List.setIfInBounds_toArray, List.set_cons_zero, List.set_cons_succ]
  refine wpAnyH_take (i := 7) (oi := ⟨some 12, _, _, _, _, _⟩) (v := .bool true) rfl (by kernel_rfl) (by kernel_rfl) (by kernel_rfl) (fun _ _ _ h => h) (Or.inl ⟨by rfl, by intro w' hw'; obtain ⟨⟨c0, c1, c2, c3⟩, ⟨d0, d1, d2, d3⟩, _⟩ := hw'; go_simp⟩) hS2 ?_
  simp only [Act.put, List.setIfInBounds_toArray, List.set_cons_zero, List.set_cons_succ]
  refine wpAnyH_take (i := 8) (oi := ⟨some 13, _, _, _, _, _⟩) (v := .agg #[.int .i64 ra, .slice x1 n1 q1, .slice x2 n2 q2, .slice x3 n3 q3]) rfl (by kernel_rfl) (by kernel_rfl) (by kernel_rfl) (fun _ _ _ h => h) (Or.inl ⟨by rfl, by intro w' hw'; obtain ⟨⟨c0, c1, c2, c3⟩, ⟨d0, d1, d2, d3⟩, _⟩ := hw'; go_simp⟩) hS2 ?_
  simp only [Act.put, List.setIfInBounds_toArray, List.set_cons_zero, List.set_cons_succ]
  refine wpAnyH_take (i := 9) (oi := ⟨some 14, _, _, _, _, _⟩) (v := .agg #[.int .i64 ra, .slice x1 n1 q1, .slice x2 n2 q2, .slice x3 n3 q3]) rfl (by kernel_rfl) (by kernel_rfl) (by kernel_rfl) (fun _ _ _ h => h) (Or.inl ⟨by rfl, by intro w' hw'; obtain ⟨⟨c0, c1, c2, c3⟩, ⟨d0, d1, d2, d3⟩, _⟩ := hw'; go_simp⟩) hS2 ?_
  simp only [Act.put, List.setIfInBounds_toArray, List.set_cons_zero, List.set_cons_succ]
  refine wpAnyH_ready (rs := [10]) (by kernel_rfl) (by simp) ?_
  refine AllReadyH.cons rfl (fun K hK => ?_) AllReadyH.nil
  go_simp
  go_at_call 24
  refine (HS.out _ hS2.2.2).mono ?_
  rintro e w3 ⟨rfl, hb⟩
  have hS3 := HSS.out _ (below_then hS2.2.2 hb)
  go_wp2_with fail
  refine hK.out _ _ hS3 (fun _ => ?_)
  clear hK K hb
  (try simp only [Act.put, List.setIfInBounds_toArray, List.set_cons_zero, List.set_cons_succ])
  refine wpAnyH_take (i := 11) (oi := ⟨some 16, _, _, _, _, _⟩) (v := .bool true) rfl (by kernel_rfl) (by kernel_rfl) (by kernel_rfl) (fun _ _ _ h => h) (Or.inl ⟨by rfl, by intro w' hw'; obtain ⟨⟨c0, c1, c2, c3⟩, ⟨d0, d1, d2, d3⟩, _⟩ := hw'; go_simp⟩) hS3 ?_
  simp only [Act.put, List.setIfInBounds_toArray, List.set_cons_zero, List.set_cons_succ]
  refine wpAnyH_take (i := 12) (oi := ⟨some 17, _, _, _, _, _⟩) (v := .bool true) rfl (by kernel_rfl) (by kernel_rfl) (by kernel_rfl) (fun _ _ _ h => h) (Or.inl ⟨by rfl, by intro w' hw'; obtain ⟨⟨c0, c1, c2, c3⟩, ⟨d0, d1, d2, d3⟩, _⟩ := hw'; go_simp⟩) hS3 ?_
  simp only [Act.put, List.setIfInBounds_toArray, List.set_cons_zero, List.set_cons_succ]
  refine wpAnyH_ready (rs := [13]) (by kernel_rfl) (by simp) ?_
  refine AllReadyH.cons rfl (fun K hK => ?_) AllReadyH.nil
  go_simp
  go_at_call 15
  refine (HL.out _ hS3.2.2).mono ?_
  rintro e w4 ⟨rfl, hb⟩
  have hS4 := HSS.out _ (below_then hS3.2.2 hb)
  go_wp2_with fail
  refine hK.out _ _ hS4 (fun _ => ?_)
  clear hK K hb
  (try simp only [Act.put, List.setIfInBounds_toArray, List.set_cons_zero, List.set_cons_succ])
  refine wpAnyH_take (i := 14) (oi := ⟨some 19, _, _, _, _, _⟩) (v := .bool true) rfl (by kernel_rfl) (by kernel_rfl) (by kernel_rfl) (fun _ _ _ h => h) (Or.inl ⟨by rfl, by intro w' hw'; obtain ⟨⟨c0, c1, c2, c3⟩, ⟨d0, d1, d2, d3⟩, _⟩ := hw'; go_simp⟩) hS4 ?_
  simp only [Act.put, List.setIfInBounds_toArray, List.set_cons_zero, List.set_cons_succ]
  refine wpAnyH_take (i := 15) (oi := ⟨some 4, _, _, _, _, _⟩) (v := .bool true) rfl (by kernel_rfl) (by kernel_rfl) (by kernel_rfl) (fun _ _ _ h => h) (Or.inl ⟨by rfl, by intro w' hw'; obtain ⟨⟨c0, c1, c2, c3⟩, ⟨d0, d1, d2, d3⟩, _⟩ := hw'; go_simp⟩) hS4 ?_
  simp only [Act.put, List.setIfInBounds_toArray, List.set_cons_zero, List.set_cons_succ]
  refine wpAnyH_done (by kernel_rfl) ?_ _
  go_wp2
  go_ret
  exact ⟨rfl, below_then HB.out hS4.2.2⟩
end Go.Proofs.Ytmlpbhankgojpaa
