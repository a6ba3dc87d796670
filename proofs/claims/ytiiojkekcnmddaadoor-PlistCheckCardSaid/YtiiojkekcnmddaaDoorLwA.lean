/-
  The walks of the laws Check and Back.
-/
import Derived.Test.YtiiojkekcnmddaaDoorPlO
import Derived.Test.YtiiojkekcnmddaaDoorPlP
import Derived.BigQuiet
namespace Go.Proofs.YtiiojkekcnmddaaDoor
open Go.RowKit
set_option linter.unusedSimpArgs false
set_option linter.unusedVariables false
set_option maxHeartbeats 2000000
set_option maxRecDepth 100000

theorem lawCheck (r : Ru) (hr : RuOk r) (w : World) (hT : Lt w) : Calls Tryd.prog 3 #[ruV r] w fun e w' => e = .returned (.bool true) ∧ Below w.heap.size w w' := by
  have H1 := Lib.hid (check_any r hr)
  have H2 := Lib.hid (rcheck_any r hr)
  have HT : Hid (∀ W, Below w.heap.size w W → Lt W) := fun W hW => hT.below hW
  obtain ⟨pm, ⟨a, n⟩, mn, mx⟩ := r
  obtain ⟨c, hc⟩ : ∃ c, chkR (pm, (a, n), mn, mx) = c := ⟨_, rfl⟩
  rw [hc] at H1 H2
  have t1 : (c == c) = true := by simp
  have HB1 : Boxed w (w.alloc (ruC (pm, (a, n), mn, mx))).drew := boxed_box _ _
  have hx := heap_alloc_new w (ruC (pm, (a, n), mn, mx))
  have k0 : (w.alloc (ruC (pm, (a, n), mn, mx))).cell? ⟨w.heap.size, 0, none⟩ = some (.bool pm) := cell_of hx rfl
  have k1 : (w.alloc (ruC (pm, (a, n), mn, mx))).cell? ⟨w.heap.size, 1, none⟩ = some (.int .u32 a) := cell_of hx rfl
  have k2 : (w.alloc (ruC (pm, (a, n), mn, mx))).cell? ⟨w.heap.size, 2, none⟩ = some (.int .i64 n) := cell_of hx rfl
  have k3 : (w.alloc (ruC (pm, (a, n), mn, mx))).cell? ⟨w.heap.size, 3, none⟩ = some (.int .i64 mn) := cell_of hx rfl
  have k4 : (w.alloc (ruC (pm, (a, n), mn, mx))).cell? ⟨w.heap.size, 4, none⟩ = some (.int .i64 mx) := cell_of hx rfl
  clear hT hc hx
  go_enter Tryd.func3, Tryd.ntmps3
  go_wp2_with fail
  go_region_held3 (fun w' => w'.cell? ⟨w.heap.size, 0, none⟩ = some (.bool pm) ∧ w'.cell? ⟨w.heap.size, 1, none⟩ = some (.int .u32 a) ∧ w'.cell? ⟨w.heap.size, 2, none⟩ = some (.int .i64 n) ∧ w'.cell? ⟨w.heap.size, 3, none⟩ = some (.int .i64 mn) ∧ w'.cell? ⟨w.heap.size, 4, none⟩ = some (.int .i64 mx) ∧ Boxed w w')
    (first | exact ⟨by simp [*], by simp [*], by simp [*], by simp [*], by simp [*], HB1⟩ | go_keep)
    (first
      | (go_at_call 10; refine (H1.out _).mono ?_; rintro e w3 ⟨rfl, hb⟩; have hk := five_keep ‹_› hb; clear hb)
      | (go_at_call 11; refine (H2.out _).mono ?_; rintro e w3 ⟨rfl, hb⟩; have hk := five_keep ‹_› hb; clear hb)
      | (go_at_call 12; refine (awake_any _ (HT.out _ (And.left (And.right (And.right (And.right (And.right (And.right ‹_ ∧ _ ∧ _ ∧ _ ∧ _ ∧ Boxed w _›)))))))).mono ?_; rintro e w3 ⟨rfl, hb⟩; have hk := five_keep ‹_› hb; clear hb))
  all_goals go_wp2
  all_goals go_ret
  all_goals (
    obtain ⟨_, _, _, _, _, hBx⟩ := hk
    exact ⟨rfl, hBx.1⟩)
theorem lawBack (r : Ru) (hr : RuOk r) (w : World) (hT : Lt w) : Calls Tryd.prog 5 #[ruV r] w fun e w' => e = .returned (.bool true) ∧ Below w.heap.size w w' := by
  have HT : Hid (∀ W, Below w.heap.size w W → Lt W) := fun W hW => hT.below hW
  have H1 : Hid (∀ W, Below w.heap.size w W → Calls Tryd.prog 17 #[ruV r] W fun e w' => e = .returned (txV r) ∧ Below W.heap.size W w') := fun W hW => text19_any r hr W (hT.below hW).tab
  have H2 := Lib.hid (rtext19_any r hr)
  have B0 := below_alloc w (ruC r)
  have hx := heap_alloc_new w (ruC r)
  by_cases h0 : chkR r = 0
  · have e1 : txV r = .tuple #[.string (bs (rtxtL r)), .int .i64 0] := by unfold txV; rw [if_pos h0, h0]
    have H3 : Hid (∀ W, Below w.heap.size w W → Calls Tryd.prog 19 #[.string (bs (rtxtL r))] W fun e w' => e = .returned (.tuple #[ruV r, .int .i64 0]) ∧ Below W.heap.size W w') := fun W hW => by
      have h := parse19_any (rtxtL r) (by have := txt_len r hr h0; omega) W (hT.below hW)
      rw [par_text r hr h0] at h
      exact h
    rw [e1] at H1 H2
    generalize bs (rtxtL r) = T1 at *
    obtain ⟨pm, ⟨a, n⟩, mn, mx⟩ := r
    have t1 : (T1.toList == T1.toList) = true := by simp
    clear hT h0 e1
    go_enter Tryd.func5, Tryd.ntmps5
    go_wp2_with fail
    go_at_call 17
    refine (H1.out _ B0).mono ?_
    rintro e w1 ⟨rfl, h1⟩
    have HB1 := Lib.hid (below_then B0 h1)
    have hx1 := (h1.block _ (by simp)).trans hx
    have k0 := cell_of hx1 (rfl : (#[Value.bool pm, .int .u32 (a : Int), .int .i64 n, .int .i64 mn, .int .i64 mx] : Array Value)[0]? = some (.bool pm))
    have k1 := cell_of hx1 (rfl : (#[Value.bool pm, .int .u32 (a : Int), .int .i64 n, .int .i64 mn, .int .i64 mx] : Array Value)[1]? = some (.int .u32 (a : Int)))
    have k2 := cell_of hx1 (rfl : (#[Value.bool pm, .int .u32 (a : Int), .int .i64 n, .int .i64 mn, .int .i64 mx] : Array Value)[2]? = some (.int .i64 n))
    have k3 := cell_of hx1 (rfl : (#[Value.bool pm, .int .u32 (a : Int), .int .i64 n, .int .i64 mn, .int .i64 mx] : Array Value)[3]? = some (.int .i64 mn))
    have k4 := cell_of hx1 (rfl : (#[Value.bool pm, .int .u32 (a : Int), .int .i64 n, .int .i64 mn, .int .i64 mx] : Array Value)[4]? = some (.int .i64 mx))
    clear h1 hx
    go_wp2_with fail
    go_at_call 18
    refine (H2.out _).mono ?_
    rintro e w2 ⟨rfl, h2⟩
    have HB2 := Lib.hid (below_then HB1.out h2)
    have d0 := carry h2 k0
    have d1 := carry h2 k1
    have d2 := carry h2 k2
    have d3 := carry h2 k3
    have d4 := carry h2 k4
    have hs2 : w.heap.size < w2.heap.size := World.block_lt_of_cell? _ _ d0
    clear h2 k0 k1 k2 k3 k4 hx1
    go_wp2_with fail
    go_at_call 19
    refine (H3.out _ HB2.out).mono ?_
    rintro e w3 ⟨rfl, h3⟩
    have HB3 := Lib.hid (below_then HB2.out h3)
    have k0 := carry h3 d0
    have k1 := carry h3 d1
    have k2 := carry h3 d2
    have k3 := carry h3 d3
    have k4 := carry h3 d4
    have hs3 : w.heap.size < w3.heap.size := World.block_lt_of_cell? _ _ k0
    have HB4 : Hid (Below w.heap.size w (w3.alloc (ruC (pm, (a, n), mn, mx)))) := below_then HB3.out (below_alloc _ _)
    clear h3 d0 d1 d2 d3 d4
    go_wp2_with fail
    go_at_call 12
    refine (awake_any _ (HT.out _ HB4.out)).mono ?_
    rintro e w4 ⟨rfl, h4⟩
    have HB5 := Lib.hid (below_then HB4.out h4)
    clear h4
    go_wp2_with fail
    go_ret
    exact ⟨rfl, HB5.out⟩
  · have e1 : txV r = .tuple #[.string ⟨#[]⟩, .int .i64 (chkR r)] := by unfold txV; rw [if_neg h0]; rfl
    rw [e1] at H1 H2
    have hz : (chkR r == 0) = false := by simpa using h0
    have hzn : ¬ chkR r = 0 := h0
    have t2 : (chkR r == chkR r) = true := by simp
    generalize chkR r = c at *
    obtain ⟨pm, ⟨a, n⟩, mn, mx⟩ := r
    clear hT h0 e1
    go_enter Tryd.func5, Tryd.ntmps5
    go_wp2_with fail
    go_at_call 17
    refine (H1.out _ B0).mono ?_
    rintro e w1 ⟨rfl, h1⟩
    have HB1 := Lib.hid (below_then B0 h1)
    have hx1 := (h1.block _ (by simp)).trans hx
    have k0 := cell_of hx1 (rfl : (#[Value.bool pm, .int .u32 (a : Int), .int .i64 n, .int .i64 mn, .int .i64 mx] : Array Value)[0]? = some (.bool pm))
    have k1 := cell_of hx1 (rfl : (#[Value.bool pm, .int .u32 (a : Int), .int .i64 n, .int .i64 mn, .int .i64 mx] : Array Value)[1]? = some (.int .u32 (a : Int)))
    have k2 := cell_of hx1 (rfl : (#[Value.bool pm, .int .u32 (a : Int), .int .i64 n, .int .i64 mn, .int .i64 mx] : Array Value)[2]? = some (.int .i64 n))
    have k3 := cell_of hx1 (rfl : (#[Value.bool pm, .int .u32 (a : Int), .int .i64 n, .int .i64 mn, .int .i64 mx] : Array Value)[3]? = some (.int .i64 mn))
    have k4 := cell_of hx1 (rfl : (#[Value.bool pm, .int .u32 (a : Int), .int .i64 n, .int .i64 mn, .int .i64 mx] : Array Value)[4]? = some (.int .i64 mx))
    clear h1 hx
    go_wp2_with fail
    go_at_call 18
    refine (H2.out _).mono ?_
    rintro e w2 ⟨rfl, h2⟩
    have HB2 := Lib.hid (below_then HB1.out h2)
    clear h2 k0 k1 k2 k3 k4 hx1
    go_wp2_with fail
    go_at_call 12
    refine (awake_any _ (HT.out _ HB2.out)).mono ?_
    rintro e w4 ⟨rfl, h4⟩
    have HB5 := Lib.hid (below_then HB2.out h4)
    clear h4
    go_wp2_with fail
    go_ret
    exact ⟨rfl, HB5.out⟩
end Go.Proofs.YtiiojkekcnmddaaDoor
