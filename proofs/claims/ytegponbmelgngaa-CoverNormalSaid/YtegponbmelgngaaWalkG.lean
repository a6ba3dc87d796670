/-
  The walks of bits.At, bits.Lead and bits.Common.
-/
import Derived.Test.YtegponbmelgngaaWalkA
namespace Go.Proofs.Ytegponbmelgngaa
open Go.RowKit
set_option linter.unusedSimpArgs false
set_option linter.unusedVariables false
set_option maxHeartbeats 1000000

theorem at_in (x : Nat) (hx : x < 4294967296) (n : Int) (h0 : 0 ≤ n) (h1 : n ≤ 31) (w : World) :
    Calls Try.prog 136 #[.int .u32 x, .int .i64 n] w fun e w' => e = .returned (.int .i64 (M.atN x n.toNat : Nat)) ∧ w = w' := by
  go_enter Try.func136, Try.ntmps136
  go_wp2
  go_ret
  exact ⟨ret_i (at_bits x hx n h0 h1), rfl⟩
theorem at_any (x : Nat) (hx : x < 4294967296) (n : Int) (hn : I64 n) (w : World) :
    Calls Try.prog 136 #[.int .u32 x, .int .i64 n] w fun e w' => e = .returned (.int .i64 (atZ x n : Nat)) ∧ w = w' := by
  unfold atZ
  by_cases h : 0 ≤ n ∧ n ≤ 31
  · rw [if_pos h]; exact at_in x hx n h.1 h.2 w
  · rw [if_neg h]
    rcases (by omega : n < 0 ∨ 31 < n) with h' | h' <;> clear h
    · go_enter Try.func136, Try.ntmps136
      go_wp2
      go_ret
      exact ⟨rfl, rfl⟩
    · have h2 : ¬ n < 0 := by omega
      go_enter Try.func136, Try.ntmps136
      go_wp2
      go_ret
      exact ⟨rfl, rfl⟩
def LeadAt (x : Nat) (k : Nat) : Prop := M.NoneTo (fun i => decide (M.atN x i = 1)) k
theorem lead_any (x : Nat) (hx : x < 4294967296) (w : World) :
    Calls Try.prog 103 #[.int .u32 x] w fun e w' => e = .returned (.int .i64 (M.leadN x : Nat)) ∧ w = w' := by
  go_enter Try.func103, Try.ntmps103
  go_wp2
  go_loop [4] (fun i => ∃ k : Nat, k ≤ 32 ∧ i = .int .i64 k ∧ LeadAt x k) (fun i => 32 - (intOf i).toNat)
  case atStart => exact ⟨0, by omega, rfl, M.noneTo_zero _⟩
  case round =>
    obtain ⟨k, hk, rfl, hp⟩ := hrel
    have hb := M.atN_le x k
    by_cases hlt : k < 32
    · by_cases h1 : M.atN x k = 1
      · have H := Lib.hid (M.firstN_hit hp hlt (by simp [h1]))
        have h1' : ((M.atN x k : Int) == 1) = true := by simp [h1]
        have hh := Lib.hid h1; clear h1
        go_wp2_with (go_at_call 136; refine (at_in x hx _ (by omega) (by omega) _).mono ?_; rintro e w' ⟨rfl, rfl⟩)
        go_ret
        exact ⟨ret_i (by rw [M.leadN, H.out]), rfl⟩
      · have H := Lib.hid (M.noneTo_succ hp (by simp [h1]))
        have h1' : ((M.atN x k : Int) == 1) = false := by simp; omega
        have hh := Lib.hid h1; clear h1
        go_wp2_with (go_at_call 136; refine (at_in x hx _ (by omega) (by omega) _).mono ?_; rintro e w' ⟨rfl, rfl⟩)
        go_round
        case rel => exact ⟨k + 1, by omega, by go_num, H.out⟩
        case measure => simp [intOf]; omega
    · obtain rfl : k = 32 := by omega
      have H := Lib.hid (M.firstN_miss hp)
      go_wp2
      go_ret
      exact ⟨ret_i (by rw [M.leadN, H.out]; rfl), rfl⟩
theorem com_any (a b : Nat) (ha : a < 4294967296) (hb : b < 4294967296) (w : World) :
    Calls Try.prog 62 #[.int .u32 a, .int .u32 b] w fun e w' => e = .returned (.int .i64 (M.comN a b : Nat)) ∧ w = w' := by
  have hx : a ^^^ b < 4294967296 := Nat.xor_lt_two_pow (n := 32) ha hb
  have H := Lib.hid (M.leadN_xor a b)
  have hbx : bits BinOp.xor IntKind.u32 ↑a ↑b = ((a ^^^ b : Nat) : Int) := u32_xor_nat a b ha hb
  go_enter Try.func62, Try.ntmps62
  go_wp2_with (go_at_call 103; refine (lead_any _ hx _).mono ?_; rintro e w' ⟨rfl, rfl⟩)
  go_ret
  exact ⟨ret_i (by rw [H.out]), rfl⟩
end Go.Proofs.Ytegponbmelgngaa
