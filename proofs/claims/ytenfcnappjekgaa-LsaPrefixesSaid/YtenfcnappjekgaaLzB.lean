/-
  The prefix of an advertisement: prefix.Make, the reference's Keep.
-/
import Derived.Test.YtenfcnappjekgaaLyM
namespace Go.Proofs.Ytenfcnappjekgaa
open Go.RowKit
set_option linter.unusedSimpArgs false
set_option linter.unusedVariables false
set_option maxHeartbeats 4000000
set_option maxRecDepth 100000

theorem make_any (a : Nat) (ha : a < 4294967296) (n : Int) (h0 : 0 ≤ n) (h1 : n ≤ 32) (w : World) :
    Calls Try.prog 76 #[.int .u32 (a : Int), .int .i64 n] w fun e w' => e = .returned (.tuple #[.agg #[.int .u32 (M.keepN a (M.lowN n 32) : Nat), .int .i64 n], .int .i64 0]) ∧ Below w.heap.size w w' := by
  have H1 := Lib.hid (lenIn_yes n h0 h1)
  have H2 := Lib.hid (pkeep_any a ha n (by unfold I64; omega))
  go_enter Try.func76, Try.ntmps76
  go_wp2_with (first
    | (go_at_call 98; refine (H1.out _).mono ?_; rintro e w' ⟨rfl, rfl⟩)
    | (go_at_call 99; refine (H2.out _).mono ?_; rintro e w' ⟨rfl, rfl⟩))
  exact bodyPost_ret (v := .tuple #[.agg #[.int .u32 (M.keepN a (M.lowN n 32) : Nat), .int .i64 n], .int .i64 0]) (by simp [results, Try.results76, go_sem]) rfl ⟨rfl, by exact below_alloc _ _⟩
theorem keepN_sub (x k : Nat) : x = M.keepN x k + x % 2 ^ (32 - k) := by unfold M.keepN; have := Nat.div_add_mod x (2 ^ (32 - k)); rw [Nat.mul_comm] at this; omega
def kpR (a n k : Nat) : Nat := M.keepN a n + a % 2 ^ (32 - k)
theorem mod_split (a k : Nat) (h : k < 32) : a % 2 ^ (32 - k) = M.atN a k * 2 ^ (31 - k) + a % 2 ^ (31 - k) := by
  unfold M.atN
  rw [show 32 - k = (31 - k) + 1 by omega, Nat.pow_succ, Nat.mod_mul]
  rw [Nat.mul_comm (a / _ % 2)]; omega
theorem kpR_start (a n : Nat) : kpR a n n = a := (keepN_sub a n).symm
theorem kpR_end (a n : Nat) : kpR a n 32 = M.keepN a n := by unfold kpR; simp [Nat.mod_one]
theorem kpR_mod (a n k : Nat) (hk : n ≤ k) : kpR a n k % 2 ^ (32 - k) = a % 2 ^ (32 - k) := by
  unfold kpR
  have h : M.keepN a n % 2 ^ (32 - k) = 0 := by
    unfold M.keepN
    rw [show 2 ^ (32 - n) = 2 ^ (32 - k) * 2 ^ ((32 - n) - (32 - k)) by rw [← Nat.pow_add]; congr 1; omega]
    rw [← Nat.mul_assoc, Nat.mul_right_comm]
    exact Nat.mul_mod_left _ _
  rw [Nat.add_mod, h, Nat.zero_add, Nat.mod_mod, Nat.mod_mod]
theorem kpR_bit (a n k : Nat) (hk : n ≤ k) (h : k < 32) : kpR a n k &&& 2 ^ (31 - k) = M.atN a k * 2 ^ (31 - k) := by
  have e : (kpR a n k).testBit (31 - k) = a.testBit (31 - k) := by
    have h1 := Nat.testBit_mod_two_pow (kpR a n k) (32 - k) (31 - k)
    have h2 := Nat.testBit_mod_two_pow a (32 - k) (31 - k)
    rw [kpR_mod a n k hk, h2] at h1
    simp [show 31 - k < 32 - k by omega] at h1
    exact h1.symm
  have e2 : (kpR a n k).testBit (31 - k) = decide (M.atN a k = 1) := by rw [e, M.atN_testBit]
  have hle := M.atN_le a k
  apply Nat.eq_of_testBit_eq
  intro j
  rw [Nat.testBit_and, Nat.testBit_two_pow]
  by_cases hj : 31 - k = j
  · subst hj
    rw [e2]
    by_cases h1 : M.atN a k = 1
    · rw [h1]; simp [Nat.testBit_two_pow]
    · rw [show M.atN a k = 0 by omega]; simp
  · by_cases h1 : M.atN a k = 1
    · rw [h1]; simp [Nat.testBit_two_pow, hj]
    · rw [show M.atN a k = 0 by omega]; simp [hj]
theorem kpR_succ (a n k : Nat) (h : k < 32) : kpR a n k = kpR a n (k + 1) + M.atN a k * 2 ^ (31 - k) := by
  unfold kpR; rw [mod_split a k h, show 32 - (k + 1) = 31 - k by omega]; omega
theorem kpR_lt (a n k : Nat) (ha : a < 4294967296) (hk : n ≤ k) : kpR a n k < 4294967296 := by
  have h1 := keepN_sub a n
  have h2 : a % 2 ^ (32 - k) ≤ a % 2 ^ (32 - n) := by
    have : a % 2 ^ (32 - k) = a % 2 ^ (32 - n) % 2 ^ (32 - k) := by
      rw [Nat.mod_mod_of_dvd]; exact Nat.pow_dvd_pow 2 (by omega)
    rw [this]; exact Nat.mod_le _ _
  unfold kpR; omega
theorem rkeep_any (a : Nat) (ha : a < 4294967296) (n : Nat) (hn : n ≤ 32) (w : World) : Calls Try.prog 77 #[.int .u32 (a : Int), .int .i64 (n : Int)] w fun e w' => e = .returned (.int .u32 (M.keepN a n : Nat)) ∧ w = w' := by
  go_enter Try.func77, Try.ntmps77
  go_wp2
  go_loopg [0, 5, 6] 33 (fun g s0 s5 s6 wr => ∃ k : Nat, n ≤ k ∧ k ≤ 32 ∧ 32 - k ≤ g ∧ s0 = .int .u32 (kpR a n k : Int) ∧ s5 = .int .i64 (k : Int) ∧ w = wr)
  case atStart => exact ⟨n, by omega, by omega, by omega, by rw [kpR_start], rfl, rfl⟩
  case round =>
    obtain ⟨k, hmk, hk, hg, rfl, rfl, rfl⟩ := hrel
    by_cases hlt : k < 32
    · have hb := kpR_bit a n k hmk hlt
      have hs := kpR_succ a n k hlt
      have hl := kpR_lt a n k ha hmk
      have hl1 := M.atN_le a k
      have hp : 2 ^ (31 - k) < 4294967296 := by
        have := Nat.pow_lt_pow_right (a := 2) (by omega) (show 31 - k < 32 by omega); simpa using this
      have hp0 : 0 < 2 ^ (31 - k) := Nat.two_pow_pos _
      have q1 : (31 : Int) - (k : Int) = ((31 - k : Nat) : Int) := by omega
      obtain ⟨X, hX⟩ : ∃ X, kpR a n k = X := ⟨_, rfl⟩
      obtain ⟨Y, hY⟩ : ∃ Y, kpR a n (k + 1) = Y := ⟨_, rfl⟩
      have q2 : ((2 : Int) ^ (31 - k) % 4294967296) = ((2 ^ (31 - k) : Nat) : Int) := by
        have h2 : ((2 ^ (31 - k) : Nat) : Int) = (2 : Int) ^ (31 - k) := by simp
        rw [← h2]; clear h2; generalize 2 ^ (31 - k) = p at hp ⊢; omega
      rw [hX] at hb hs hl
      rw [hY] at hs
      have hand := u32_and_nat X (2 ^ (31 - k)) hl hp
      rw [hX]
      obtain ⟨p, hpp⟩ : ∃ p, 2 ^ (31 - k) = p := ⟨_, rfl⟩
      rw [hpp] at hb hs hp hp0 q2 hand
      rw [hb] at hand
      by_cases hbit : M.atN a k = 1
      · rw [hbit, Nat.one_mul] at hs hand
        have hne : ((p : Int) != 0) = true := by rw [bne_iff_ne]; omega
        have hsub : ((X : Int) - (p : Int)) = (Y : Int) := by omega
        clear hb hbit hs hpp
        have HY := Lib.hid hY
        clear hY
        go_wp2
        go_roundg (32 - (k + 1))
        case measure => omega
        case rel => exact ⟨k + 1, by omega, by omega, Nat.le_refl _, by rw [HY.out], by go_num, rfl⟩
      · have h0 : M.atN a k = 0 := by omega
        rw [h0, Nat.zero_mul] at hs hand
        have hxy : X = Y := by omega
        have HY : Hid (kpR a n (k + 1) = X) := hY.trans hxy.symm
        clear hb hbit hs hpp hY hxy h0
        go_wp2
        go_roundg (32 - (k + 1))
        case measure => omega
        case rel => exact ⟨k + 1, by omega, by omega, Nat.le_refl _, by rw [HY.out], by go_num, rfl⟩
    · have : k = 32 := by omega
      subst this
      rw [kpR_end]
      go_wp2
      go_ret
      exact ⟨rfl, rfl⟩
end Go.Proofs.Ytenfcnappjekgaa
