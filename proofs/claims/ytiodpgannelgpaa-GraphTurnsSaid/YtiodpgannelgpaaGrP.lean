/-
  The walk of the law on Check.
-/
import Derived.Test.YtiodpgannelgpaaGrL
namespace Go.Proofs.Ytiodpgannelgpaa
open Go.RowKit GM Go.Sort
set_option linter.unusedSimpArgs false
set_option linter.unusedVariables false
set_option maxHeartbeats 4000000
set_option maxRecDepth 100000

/-- the graph's box, and nothing older is changed -/
def HoldG (w : World) (R N : Int) (s : Value) (W : World) : Prop := W.cell? ⟨w.heap.size, 0, none⟩ = some (.int .i64 R) ∧ W.cell? ⟨w.heap.size, 1, none⟩ = some (.int .i64 N) ∧ W.cell? ⟨w.heap.size, 2, none⟩ = some s ∧ Below w.heap.size w W
theorem holdG_below {w W W1 : World} {R N : Int} {s : Value} (h : W.cell? ⟨w.heap.size, 0, none⟩ = some (.int .i64 R) ∧ W.cell? ⟨w.heap.size, 1, none⟩ = some (.int .i64 N) ∧ W.cell? ⟨w.heap.size, 2, none⟩ = some s ∧ Below w.heap.size w W) (hb : Below W.heap.size W W1) :
    W1.cell? ⟨w.heap.size, 0, none⟩ = some (.int .i64 R) ∧ W1.cell? ⟨w.heap.size, 1, none⟩ = some (.int .i64 N) ∧ W1.cell? ⟨w.heap.size, 2, none⟩ = some s ∧ Below w.heap.size w W1 := ⟨carry hb h.1, carry hb h.2.1, carry hb h.2.2.1, below_then h.2.2.2 hb⟩
theorem checks_walk (R N : Int) (l : List E) (s : Value) (w : World) (hR : I64 R) (hN : I64 N) (hr : Rd3 w s l) (hf : FitT l) :
    Calls Try.prog 3 #[.agg #[.int .i64 R, .int .i64 N, s]] w fun e w' => e = .returned (.bool true) ∧ Below w.heap.size w w' := by
  have H17 : Hid (∀ W, Below w.heap.size w W → Calls Try.prog 17 #[.agg #[.int .i64 R, .int .i64 N, s]] W fun e w' => e = .returned (.int .i64 (chk R N l)) ∧ Below W.heap.size W w') := fun W hW => check_any R N s l W hR hN (hr.below hW)
  have H18 : Hid (∀ W, Below w.heap.size w W → Calls Try.prog 18 #[.agg #[.int .i64 R, .int .i64 N, s]] W fun e w' => e = .returned (.int .i64 (chk R N l)) ∧ Below W.heap.size W w') := fun W hW => rcheck_any R N s l W hR hN (hr.below hW) hf
  obtain ⟨ad, cap, rfl⟩ := rd3_slice hr
  clear hr hf hR hN
  generalize chk R N l = q at *
  go_enter Try.func3, Try.ntmps3
  go_wp2_with fail
  go_region_held3 (fun W => W.cell? ⟨w.heap.size, 0, none⟩ = some (.int .i64 R) ∧ W.cell? ⟨w.heap.size, 1, none⟩ = some (.int .i64 N) ∧ W.cell? ⟨w.heap.size, 2, none⟩ = some (.slice ad l.length cap) ∧ Below w.heap.size w W)
    (first | exact ⟨by simp, by simp, by simp, (below_alloc _ _).drew⟩ | assumption)
    (first
      | (go_at_call 17; refine (H17.out _ (by first | exact hk.2.2.2 | exact (below_alloc _ _).drew | exact below_alloc _ _ | exact (‹_ ∧ _› : _).2.2.2)).mono ?_; rintro e w6 ⟨rfl, hb⟩; have hk6 := holdG_below ‹_› hb; clear hb)
      | (go_at_call 18; refine (H18.out _ hk6.2.2.2).mono ?_; rintro e w7 ⟨rfl, hb⟩; have hk7 := holdG_below hk6 hb; clear hb)
      | (go_at_call 19; refine (lives_any _).mono ?_; rintro e w8 ⟨rfl, hb⟩; have hk8 := holdG_below hk7 hb; clear hb))
  all_goals go_wp2
  all_goals go_ret
  all_goals exact ⟨by simp, hk8.2.2.2⟩
end Go.Proofs.Ytiodpgannelgpaa
