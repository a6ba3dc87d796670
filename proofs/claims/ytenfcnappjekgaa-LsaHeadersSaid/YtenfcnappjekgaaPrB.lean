/-
  The reference's test of a prefix.
-/
import Derived.Test.YtenfcnappjekgaaPrA
namespace Go.Proofs.Ytenfcnappjekgaa
open Go.RowKit
set_option linter.unusedSimpArgs false
set_option linter.unusedVariables false
set_option maxHeartbeats 2000000
set_option maxRecDepth 100000

theorem bit_at (x : Nat) (hx : x < 4294967296) (k : Nat) (h : k < 32) : bits BinOp.and IntKind.u32 ((x : Int) / 2 ^ (31 - k)) 1 = (M.atN x k : Nat) := by
  have h0 := at_bits x hx k (by omega) (by omega)
  rw [show ((31 : Int) - (k : Int)).toNat = 31 - k by omega, show ((k : Int)).toNat = k by omega] at h0
  rw [← h0]
  refine (IntWalk.wrap64_in _ ?_).symm
  have hb := u32_and_nat (x / 2 ^ (31 - k)) 1 (by have := Nat.div_le_self x (2 ^ (31 - k)); omega) (by omega)
  have e : (((x / 2 ^ (31 - k) : Nat)) : Int) = (x : Int) / 2 ^ (31 - k) := by push_cast; rfl
  rw [← e]
  rw [show ((1 : Nat) : Int) = 1 from rfl] at hb
  rw [hb]
  have := Nat.and_le_right (n := x / 2 ^ (31 - k)) (m := 1)
  omega
theorem fits_any (a : Nat) (ha : a < 4294967296) (n : Int) (hn : I64 n) (w : World) :
    Calls Try.prog 73 #[.int .u32 (a : Int), .int .i64 n] w fun e w' => e = .returned (.bool (vld a n)) ∧ w = w' := by
  unfold I64 at hn
  by_cases h0 : n < 0
  · have HV := Lib.hid (vld_out (a := a) (Or.inl h0))
    go_enter Try.func73, Try.ntmps73
    go_wp2
    go_ret
    exact ⟨ret_b HV.out.symm, rfl⟩
  by_cases h1 : 32 < n
  · have HV := Lib.hid (vld_out (a := a) (Or.inr h1))
    go_enter Try.func73, Try.ntmps73
    go_wp2
    go_ret
    exact ⟨ret_b HV.out.symm, rfl⟩
  obtain ⟨m, rfl⟩ := Int.eq_ofNat_of_zero_le (by omega : 0 ≤ n)
  have HM : Hid (M.lowN (m : Int) 32 = m) := by unfold Hid M.lowN; omega
  have h0' : ¬ ((m : Nat) : Int) < 0 := h0
  go_enter Try.func73, Try.ntmps73
  go_wp2
  go_loopg [5] 33 (fun g s5 wr => ∃ k : Nat, m ≤ k ∧ k ≤ 32 ∧ 32 - k ≤ g ∧ s5 = .int .i64 k ∧ Hid (M.keepN a k = M.keepN a m) ∧ w = wr)
  case atStart => exact ⟨m, by omega, by omega, by omega, rfl, rfl, rfl⟩
  case round =>
    obtain ⟨k, hmk, hk, hg, rfl, hK, rfl⟩ := hrel
    by_cases hlt : k < 32
    · have hb := bit_at a ha k hlt
      have q1 : (31 : Int) - (k : Int) = ((31 - k : Nat) : Int) := by omega
      have hs := M.keepN_succ a k hlt
      have hl1 := M.atN_le a k
      have hle := M.keepN_le a (k + 1)
      by_cases hbit : M.atN a k = 1
      · have HV : Hid (vld a (m : Int) = false) := by
          refine vld_no ?_
          rw [HM.out, ← hK.out]
          have : 0 < 2 ^ (31 - k) := Nat.two_pow_pos _
          rw [hbit] at hs
          omega
        rw [hbit] at hb
        clear hs hl1 hle
        go_wp2
        go_ret
        exact ⟨ret_b HV.out.symm, rfl⟩
      · have hb0 : M.atN a k = 0 := by omega
        rw [hb0] at hb hs
        have HK : Hid (M.keepN a (k + 1) = M.keepN a m) := by unfold Hid; rw [hs, ← hK.out]; simp
        clear hs hl1 hle hbit hb0
        go_wp2
        go_roundg (32 - (k + 1))
        case measure => omega
        case rel => exact ⟨k + 1, by omega, by omega, Nat.le_refl _, by go_num, HK, rfl⟩
    · have : k = 32 := by omega
      subst this
      have HV : Hid (vld a (m : Int) = true) := vld_yes (by omega) (by omega) (by rw [HM.out, ← hK.out, M.keepN_all])
      go_wp2
      go_ret
      exact ⟨ret_b HV.out.symm, rfl⟩
end Go.Proofs.Ytenfcnappjekgaa
