/-
  The walks of Internet and of the sums.
-/
import Derived.Test.YtenfcnappjekgaaBase
import Derived.RegionTactic
import Derived.BigRegion
namespace Go.Proofs.Ytenfcnappjekgaa
open Go.RowKit
set_option linter.unusedSimpArgs false
set_option linter.unusedVariables false
set_option maxHeartbeats 4000000
set_option maxRecDepth 100000

theorem residue_any (n m : Int) (hn : -4611686018427387904 ≤ n ∧ n ≤ 9223372036854775807) (hm : 0 < m ∧ m ≤ 65535) (w : World) :
    Calls Try.prog 103 #[.int .i64 n, .int .i64 m] w fun e w' => e = .returned (.int .i64 (res n m)) ∧ w = w' := by
  have hlt := Int.tmod_lt_of_pos n hm.1
  have hge : -m < n.tmod m := by
    have := Int.tmod_lt_of_pos (-n) hm.1
    rw [Int.neg_tmod] at this; omega
  have hm0 : m ≠ 0 := by omega
  by_cases h : n.tmod m ≤ 0
  · have H : Hid (res n m = n.tmod m + m) := by unfold Hid res; rw [if_pos h]
    go_enter Try.func103, Try.ntmps103
    go_wp2
    go_ret
    exact ⟨ret_i H.out.symm, rfl⟩
  · have H : Hid (res n m = n.tmod m) := by unfold Hid res; rw [if_neg h]
    go_enter Try.func103, Try.ntmps103
    go_wp2
    go_ret
    exact ⟨ret_i H.out.symm, rfl⟩

end Go.Proofs.Ytenfcnappjekgaa
