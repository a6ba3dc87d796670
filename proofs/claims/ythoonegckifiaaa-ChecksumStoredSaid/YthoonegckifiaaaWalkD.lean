/-
  The walks of Valid.
-/
import Derived.Test.YthoonegckifiaaaWalkC
import Derived.Laws.StructEq
namespace Go.Proofs.Ythoonegckifiaaa
open Go.RowKit
set_option linter.unusedSimpArgs false
set_option linter.unusedVariables false
set_option maxHeartbeats 4000000
set_option maxRecDepth 100000

theorem cast_beq (a : Nat) : ((a : Int) == 0) = (a == 0) := by rw [Bool.eq_iff_iff]; simp
theorem eq_arr2 (a b c d : Int) (w : World) : (Op.equalIn 10000 35 (.agg #[.int .i64 a, .int .i64 b]) (.agg #[.int .i64 c, .int .i64 d])).run Try.prog w = .ok (a == c && b == d) w := by
  have e3 : ∀ (x y : Int) w, (Op.equalIn 9999 3 (.int .i64 x) (.int .i64 y)).run Try.prog w = .ok (x == y) w := fun x y w => run_equalIn_int w 9998 3 .i64 .i64 x y Try.underlying3
  have s3 := Try.sizeOf3
  have a3 := Try.isAgg3
  unfold Op.equalIn
  simp only [Sem.run_bind, run_underlying Try.underlying35, Result.andThen_ok]
  simp [Std.Legacy.Range.forIn_eq_forIn_range', Std.Legacy.Range.size, List.range', part, go_sem, s3, a3, e3]
  by_cases h : a = c
  · by_cases h2 : b = d
    · simp [h, h2]
    · simp [h, h2]
  · simp [h]
theorem valid_any (l : List Nat) (v : Value) (w : World) (hl : l.length ≤ 140737488355328) (hr : Rd w v l) :
    Calls Try.prog 15 #[v] w fun e w' => e = .returned (.bool (val l)) ∧ Below w.heap.size w w' := by
  have hs := sums_any l v w hl hr
  obtain ⟨ad, cap, rfl, hcap, hby, hat⟩ := hr
  unfold sumsV at hs
  have HV : Hid (val l = (fl1 l == 0 && fl2 l == 0)) := rfl
  have heq := fun w => eq_arr2 (fl1 l : Nat) (fl2 l : Nat) 0 0 w
  clear hat hby
  go_enter Try.func15, Try.ntmps15
  go_wp2_with (go_at_call 22; refine hs.mono ?_; rintro e w' ⟨rfl, hb⟩)
  go_ret
  exact ⟨ret_b (by rw [HV.out, cast_beq, cast_beq]), hb⟩
theorem rvalid_any (l : List Nat) (v : Value) (w : World) (hl : l.length ≤ 140737488355328) (hr : Rd w v l) :
    Calls Try.prog 16 #[v] w fun e w' => e = .returned (.bool (val l)) ∧ w = w' := by
  have hs := rsums_any l v w hl hr
  obtain ⟨ad, cap, rfl, hcap, hby, hat⟩ := hr
  have HV : Hid (val l = (fl1 l == 0 && fl2 l == 0)) := rfl
  clear hat hby
  by_cases h1 : fl1 l = 0
  · by_cases h2 : fl2 l = 0
    · have HV2 : Hid (val l = true) := by rw [HV.out, h1, h2]; rfl
      rw [h1, h2] at hs
      clear h1 h2
      go_enter Try.func16, Try.ntmps16
      go_wp2_with (go_at_call 23; refine hs.mono ?_; rintro e w' ⟨rfl, rfl⟩)
      go_ret
      exact ⟨ret_b HV2.out.symm, rfl⟩
    · have HV2 : Hid (val l = false) := by unfold Hid; rw [HV.out, h1]; simpa using h2
      rw [h1] at hs
      clear h1
      go_enter Try.func16, Try.ntmps16
      go_wp2_with (go_at_call 23; refine hs.mono ?_; rintro e w' ⟨rfl, rfl⟩)
      go_ret
      exact ⟨ret_b (by rw [HV2.out]; simpa using h2), rfl⟩
  · have HV2 : Hid (val l = false) := by unfold Hid; rw [HV.out]; simp [h1]
    go_enter Try.func16, Try.ntmps16
    go_wp2_with (go_at_call 23; refine hs.mono ?_; rintro e w' ⟨rfl, rfl⟩)
    go_ret
    exact ⟨ret_b HV2.out.symm, rfl⟩
end Go.Proofs.Ythoonegckifiaaa
