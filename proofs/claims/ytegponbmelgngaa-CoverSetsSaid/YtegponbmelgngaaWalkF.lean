/-
  The walks of Compare and of its reference.
-/
import Derived.Test.YtegponbmelgngaaWalkC
namespace Go.Proofs.Ytegponbmelgngaa
open Go.RowKit
set_option linter.unusedSimpArgs false
set_option maxHeartbeats 1000000

def cmpI (x y : Int) : Int := if x < y then -1 else if y < x then 1 else 0
theorem cmpI_lt {x y : Int} (h : x < y) : cmpI x y = -1 := by unfold cmpI; rw [if_pos h]
theorem cmpI_gt {x y : Int} (h : y < x) : cmpI x y = 1 := by unfold cmpI; rw [if_neg (by omega), if_pos h]
theorem cmpI_eq (x : Int) : cmpI x x = 0 := by unfold cmpI; rw [if_neg (by omega), if_neg (by omega)]
theorem cmpA_any (x y : Int) (w : World) : Calls Try.prog 117 #[.int .u32 x, .int .u32 y] w fun e w' => e = .returned (.int .i64 (cmpI x y)) ∧ w = w' := by
  rcases (by omega : x < y ∨ y < x ∨ x = y) with h | h | h
  · have H := Lib.hid (cmpI_lt h)
    go_enter Try.func117, Try.ntmps117
    go_wp2
    all_goals (go_ret; exact ⟨ret_i H.out.symm, rfl⟩)
  · have H := Lib.hid (cmpI_gt h)
    have hx : ¬ x < y := by omega
    go_enter Try.func117, Try.ntmps117
    go_wp2
    all_goals (go_ret; exact ⟨ret_i H.out.symm, rfl⟩)
  · subst h
    have H := Lib.hid (cmpI_eq x)
    go_enter Try.func117, Try.ntmps117
    go_wp2
    all_goals (go_ret; exact ⟨ret_i H.out.symm, rfl⟩)
theorem cmpL_any (x y : Int) (w : World) : Calls Try.prog 118 #[.int .i64 x, .int .i64 y] w fun e w' => e = .returned (.int .i64 (cmpI x y)) ∧ w = w' := by
  rcases (by omega : x < y ∨ y < x ∨ x = y) with h | h | h
  · have H := Lib.hid (cmpI_lt h)
    go_enter Try.func118, Try.ntmps118
    go_wp2
    all_goals (go_ret; exact ⟨ret_i H.out.symm, rfl⟩)
  · have H := Lib.hid (cmpI_gt h)
    have hx : ¬ x < y := by omega
    go_enter Try.func118, Try.ntmps118
    go_wp2
    all_goals (go_ret; exact ⟨ret_i H.out.symm, rfl⟩)
  · subst h
    have H := Lib.hid (cmpI_eq x)
    go_enter Try.func118, Try.ntmps118
    go_wp2
    all_goals (go_ret; exact ⟨ret_i H.out.symm, rfl⟩)

/-- the order of prefixes: by address, then by length -/
def cmpP (a : Nat) (n : Int) (b : Nat) (m : Int) : Int := if a < b then -1 else if b < a then 1 else cmpI n m
theorem cmpP_lt {a b : Nat} {n m : Int} (h : a < b) : cmpP a n b m = -1 := by unfold cmpP; rw [if_pos h]
theorem cmpP_gt {a b : Nat} {n m : Int} (h : b < a) : cmpP a n b m = 1 := by unfold cmpP; rw [if_neg (by omega), if_pos h]
theorem cmpP_eq (a : Nat) (n m : Int) : cmpP a n a m = cmpI n m := by unfold cmpP; rw [if_neg (by omega), if_neg (by omega)]
theorem compare_any (a : Nat) (n : Int) (b : Nat) (m : Int) (w : World) :
    Calls Try.prog 84 #[.agg #[.int .u32 a, .int .i64 n], .agg #[.int .u32 b, .int .i64 m]] w fun e w' => e = .returned (.int .i64 (cmpP a n b m)) ∧ Below w.heap.size w w' := by
  rcases (by omega : a < b ∨ b < a ∨ a = b) with h | h | h
  · have H := Lib.hid (cmpP_lt (n := n) (m := m) h)
    have e1 : cmpI (a : Int) (b : Int) = -1 := cmpI_lt (by omega)
    go_enter Try.func84, Try.ntmps84
    go_wp2_with (go_at_call 117; refine (cmpA_any _ _ _).mono ?_; rintro e w' ⟨rfl, rfl⟩)
    go_ret
    exact ⟨ret_i H.out.symm, below2 _ _ _⟩
  · have H := Lib.hid (cmpP_gt (n := n) (m := m) h)
    have e1 : cmpI (a : Int) (b : Int) = 1 := cmpI_gt (by omega)
    go_enter Try.func84, Try.ntmps84
    go_wp2_with (go_at_call 117; refine (cmpA_any _ _ _).mono ?_; rintro e w' ⟨rfl, rfl⟩)
    go_ret
    exact ⟨ret_i H.out.symm, below2 _ _ _⟩
  · subst h
    have H := Lib.hid (cmpP_eq a n m)
    have e1 : cmpI (a : Int) (a : Int) = 0 := cmpI_eq _
    go_enter Try.func84, Try.ntmps84
    go_wp2_with (first | (go_at_call 117; refine (cmpA_any _ _ _).mono ?_; rintro e w' ⟨rfl, rfl⟩) | (go_at_call 118; refine (cmpL_any _ _ _).mono ?_; rintro e w' ⟨rfl, rfl⟩))
    go_ret
    exact ⟨ret_i H.out.symm, below2 _ _ _⟩
theorem rcompare_any (a : Nat) (n : Int) (b : Nat) (m : Int) (w : World) :
    Calls Try.prog 85 #[.agg #[.int .u32 a, .int .i64 n], .agg #[.int .u32 b, .int .i64 m]] w fun e w' => e = .returned (.int .i64 (cmpP a n b m)) ∧ Below w.heap.size w w' := by
  rcases (by omega : a < b ∨ b < a ∨ a = b) with h | h | h
  · have H := Lib.hid (cmpP_lt (n := n) (m := m) h)
    have e1 : ((a : Int) == (b : Int)) = false := by simp; omega
    go_enter Try.func85, Try.ntmps85
    go_wp2
    all_goals (go_ret; exact ⟨ret_i H.out.symm, below2 _ _ _⟩)
  · have H := Lib.hid (cmpP_gt (n := n) (m := m) h)
    have e1 : ((a : Int) == (b : Int)) = false := by simp; omega
    have e2 : ¬ a < b := by omega
    go_enter Try.func85, Try.ntmps85
    go_wp2
    all_goals (go_ret; exact ⟨ret_i H.out.symm, below2 _ _ _⟩)
  · subst h
    rcases (by omega : n < m ∨ m < n ∨ n = m) with h | h | h
    · have H := Lib.hid ((cmpP_eq a n m).trans (cmpI_lt h))
      go_enter Try.func85, Try.ntmps85
      go_wp2
      all_goals (go_ret; exact ⟨ret_i H.out.symm, below2 _ _ _⟩)
    · have H := Lib.hid ((cmpP_eq a n m).trans (cmpI_gt h))
      have e2 : ¬ n < m := by omega
      go_enter Try.func85, Try.ntmps85
      go_wp2
      all_goals (go_ret; exact ⟨ret_i H.out.symm, below2 _ _ _⟩)
    · subst h
      have H := Lib.hid ((cmpP_eq a n n).trans (cmpI_eq n))
      go_enter Try.func85, Try.ntmps85
      go_wp2
      all_goals (go_ret; exact ⟨ret_i H.out.symm, below2 _ _ _⟩)
end Go.Proofs.Ytegponbmelgngaa
