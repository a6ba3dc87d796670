/-
  The walks of the functions of package bits and of its reference: what each call returns, by the plain facts; no call changes the world.
-/
import Derived.Test.YtbcgfgklajdelaaRows
import Derived.Test.YtbcgfgklajdelaaMath
import Derived.WalkKit
import Derived.WalkSpells
import Derived.WalkLawsBesides
import Derived.Lib.Hide
namespace Go.Proofs.Ytbcgfgklajdelaa
open Go.RowKit

theorem ret_i {k : IntKind} {a b : Int} (h : a = b) : Ending.returned (.int k a) = .returned (.int k b) := by rw [h]
theorem val_i {k : IntKind} {a b : Int} (h : a = b) : (Value.int k a) = .int k b := by rw [h]
abbrev I64 (n : Int) : Prop := -9223372036854775808 ≤ n ∧ n ≤ 9223372036854775807

theorem clamp_any (n : Int) (l : Nat) (hl : l ≤ 64) (hn : I64 n) (w : World) :
    Calls Try.prog 24 #[.int .i64 n, .int .i64 l] w fun e w' => e = .returned (.int .i64 (M.lowN n l : Nat)) ∧ w = w' := by
  have hm : n < 0 → M.lowN n l = 0 := fun h => by unfold M.lowN; omega
  have hm2 : 0 ≤ n → n ≤ l → (M.lowN n l : Int) = n := fun h h2 => by unfold M.lowN; omega
  have hm3 : (l : Int) < n → M.lowN n l = l := fun h => by unfold M.lowN; omega
  rcases (by omega : n < 0 ∨ (0 ≤ n ∧ n ≤ l) ∨ (l : Int) < n) with h | ⟨h, h2⟩ | h
  · have H := Lib.hid (hm h); clear hm hm2 hm3
    go_enter Try.func24, Try.ntmps24
    go_wp2
    go_ret
    exact ⟨ret_i (by rw [H.out]; rfl), rfl⟩
  · have H := Lib.hid (hm2 h h2); clear hm hm2 hm3
    have hx : ¬ n < 0 := by omega
    go_enter Try.func24, Try.ntmps24
    go_wp2
    go_ret
    exact ⟨ret_i H.out.symm, rfl⟩
  · have H := Lib.hid (hm3 h); clear hm hm2 hm3
    have hx : ¬ n < 0 := by omega
    go_enter Try.func24, Try.ntmps24
    go_wp2
    all_goals (go_ret; exact ⟨ret_i (by rw [H.out]), rfl⟩)
theorem low_any (n : Int) (l : Nat) (hl : l ≤ 64) (hn : I64 n) (w : World) :
    Calls Try.prog 25 #[.int .i64 n, .int .i64 l] w fun e w' => e = .returned (.int .i64 (M.lowN n l : Nat)) ∧ w = w' := by
  have hm : n < 0 → M.lowN n l = 0 := fun h => by unfold M.lowN; omega
  have hm2 : 0 ≤ n → n ≤ l → (M.lowN n l : Int) = n := fun h h2 => by unfold M.lowN; omega
  have hm3 : (l : Int) < n → M.lowN n l = l := fun h => by unfold M.lowN; omega
  rcases (by omega : n < 0 ∨ (0 ≤ n ∧ n ≤ l) ∨ (l : Int) < n) with h | ⟨h, h2⟩ | h
  · have H := Lib.hid (hm h); clear hm hm2 hm3
    go_enter Try.func25, Try.ntmps25
    go_wp2
    go_ret
    exact ⟨ret_i (by rw [H.out]; rfl), rfl⟩
  · have H := Lib.hid (hm2 h h2); clear hm hm2 hm3
    have hx : ¬ n < 0 := by omega
    go_enter Try.func25, Try.ntmps25
    go_wp2
    go_ret
    exact ⟨ret_i H.out.symm, rfl⟩
  · have H := Lib.hid (hm3 h); clear hm hm2 hm3
    have hx : ¬ n < 0 := by omega
    go_enter Try.func25, Try.ntmps25
    go_wp2
    all_goals (go_ret; exact ⟨ret_i (by rw [H.out]), rfl⟩)

theorem maskN_shift (k : Nat) (h : k ≤ 32) : (4294967295 * 2 ^ (32 - k) % 4294967296 : Int) = (M.maskN k : Nat) := by
  have e : 4294967296 = 2 ^ (32 - k) * 2 ^ k := by
    rw [← Nat.pow_add]; have : 32 - k + k = 32 := by omega
    rw [this]
  have hp : 0 < 2 ^ (32 - k) := Nat.pow_pos (by omega)
  have hle := M.pow_le32 (k := 32 - k) (by omega)
  have hn : 4294967295 * 2 ^ (32 - k) % 4294967296 = M.maskN k := by
    unfold M.maskN
    have e2 : 4294967295 * 2 ^ (32 - k) = (4294967296 - 2 ^ (32 - k)) + 4294967296 * (2 ^ (32 - k) - 1) := by
      generalize 2 ^ (32 - k) = p at *; omega
    rw [e2, Nat.add_mul_mod_self_left, Nat.mod_eq_of_lt (by omega)]
  rw [← hn]; simp
theorem mask_any (n : Int) (hn : I64 n) (w : World) :
    Calls Try.prog 8 #[.int .i64 n] w fun e w' => e = .returned (.int .u32 (M.maskN (M.lowN n 32) : Nat)) ∧ w = w' := by
  have hl := M.lowN_le n 32
  go_enter Try.func8, Try.ntmps8
  go_wp2_with (go_at_call 24; refine (clamp_any _ 32 (by omega) (by omega) _).mono ?_; rintro e w' ⟨rfl, rfl⟩)
  go_ret
  exact ⟨ret_i (maskN_shift _ hl), rfl⟩
theorem keep_any (x : Nat) (hx : x < 4294967296) (n : Int) (hn : I64 n) (w : World) :
    Calls Try.prog 10 #[.int .u32 x, .int .i64 n] w fun e w' => e = .returned (.int .u32 (M.keepN x (M.lowN n 32) : Nat)) ∧ w = w' := by
  have hl := M.lowN_le n 32
  go_enter Try.func10, Try.ntmps10
  go_wp2_with (go_at_call 8; refine (mask_any _ (by omega) _).mono ?_; rintro e w' ⟨rfl, rfl⟩)
  go_ret
  exact ⟨ret_i (by rw [u32_and_nat x _ hx (M.maskN_lt _), M.and_maskN x _ hx hl]), rfl⟩

theorem at_bits (x : Nat) (hx : x < 4294967296) (n : Int) (h0 : 0 ≤ n) (h1 : n ≤ 31) : wrap64 (bits BinOp.and IntKind.u32 (↑x / 2 ^ (31 - n).toNat) 1) = (M.atN x n.toNat : Nat) := by
  have e : ((x : Int) / 2 ^ (31 - n).toNat) = ((x / 2 ^ (31 - n.toNat) : Nat) : Int) := by
    have : (31 - n).toNat = 31 - n.toNat := by omega
    rw [this]; simp
  rw [e]
  have hlt : x / 2 ^ (31 - n.toNat) < 4294967296 := Nat.lt_of_le_of_lt (Nat.div_le_self _ _) hx
  rw [show (1 : Int) = ((1 : Nat) : Int) from rfl, u32_and_nat _ 1 hlt (by omega), nat_mask1]
  have := M.atN_le x n.toNat
  unfold M.atN at this ⊢
  exact IntWalk.wrap64_in _ ⟨by omega, by omega⟩
def atZ (x : Nat) (n : Int) : Nat := if 0 ≤ n ∧ n ≤ 31 then M.atN x n.toNat else 0
theorem at_in (x : Nat) (hx : x < 4294967296) (n : Int) (h0 : 0 ≤ n) (h1 : n ≤ 31) (w : World) :
    Calls Try.prog 12 #[.int .u32 x, .int .i64 n] w fun e w' => e = .returned (.int .i64 (M.atN x n.toNat : Nat)) ∧ w = w' := by
  go_enter Try.func12, Try.ntmps12
  go_wp2
  go_ret
  exact ⟨ret_i (at_bits x hx n h0 h1), rfl⟩
theorem at_any (x : Nat) (hx : x < 4294967296) (n : Int) (hn : I64 n) (w : World) :
    Calls Try.prog 12 #[.int .u32 x, .int .i64 n] w fun e w' => e = .returned (.int .i64 (atZ x n : Nat)) ∧ w = w' := by
  unfold atZ
  by_cases h : 0 ≤ n ∧ n ≤ 31
  · rw [if_pos h]; exact at_in x hx n h.1 h.2 w
  · rw [if_neg h]
    rcases (by omega : n < 0 ∨ 31 < n) with h' | h' <;> clear h
    · go_enter Try.func12, Try.ntmps12
      go_wp2
      go_ret
      exact ⟨rfl, rfl⟩
    · have h2 : ¬ n < 0 := by omega
      go_enter Try.func12, Try.ntmps12
      go_wp2
      go_ret
      exact ⟨rfl, rfl⟩
theorem rat_in (x : Nat) (hx : x < 4294967296) (n : Int) (h0 : 0 ≤ n) (h1 : n ≤ 31) (w : World) :
    Calls Try.prog 13 #[.int .u32 x, .int .i64 n] w fun e w' => e = .returned (.int .i64 (M.atN x n.toNat : Nat)) ∧ w = w' := by
  go_enter Try.func13, Try.ntmps13
  go_wp2
  go_ret
  exact ⟨ret_i (at_bits x hx n h0 h1), rfl⟩
theorem rat_any (x : Nat) (hx : x < 4294967296) (n : Int) (hn : I64 n) (w : World) :
    Calls Try.prog 13 #[.int .u32 x, .int .i64 n] w fun e w' => e = .returned (.int .i64 (atZ x n : Nat)) ∧ w = w' := by
  unfold atZ
  by_cases h : 0 ≤ n ∧ n ≤ 31
  · rw [if_pos h]; exact rat_in x hx n h.1 h.2 w
  · rw [if_neg h]
    rcases (by omega : n < 0 ∨ 31 < n) with h' | h' <;> clear h
    · go_enter Try.func13, Try.ntmps13
      go_wp2
      go_ret
      exact ⟨rfl, rfl⟩
    · have h2 : ¬ n < 0 := by omega
      go_enter Try.func13, Try.ntmps13
      go_wp2
      go_ret
      exact ⟨rfl, rfl⟩

theorem or_mask (k : Nat) (h : k < 32) : bits BinOp.or IntKind.u32 (↑(M.maskN k)) (2 ^ (31 - k) % 4294967296) = (M.maskN (k + 1) : Nat) := by
  have hp : 2 ^ (31 - k) < 4294967296 := by
    have := Nat.pow_lt_pow_right (a := 2) (by omega) (show 31 - k < 32 by omega); simpa using this
  have e : ((2 : Int) ^ (31 - k) % 4294967296) = ((2 ^ (31 - k) : Nat) : Int) := by
    have h2 : ((2 ^ (31 - k) : Nat) : Int) = (2 : Int) ^ (31 - k) := by simp
    rw [← h2]; clear h2; generalize 2 ^ (31 - k) = p at hp ⊢; omega
  rw [e, u32_or_nat _ _ (M.maskN_lt _) hp, M.maskN_or k h]
theorem or_keep (x k : Nat) (hx : x < 4294967296) (h : k < 32) : bits BinOp.or IntKind.u32 (↑(M.keepN x k)) (↑(M.atN x k) * 2 ^ (31 - k) % 4294967296) = (M.keepN x (k + 1) : Nat) := by
  have hp : 2 ^ (31 - k) < 4294967296 := by
    have := Nat.pow_lt_pow_right (a := 2) (by omega) (show 31 - k < 32 by omega); simpa using this
  have hp2 : M.atN x k * 2 ^ (31 - k) < 4294967296 := by
    have := Nat.mul_le_mul_right (2 ^ (31 - k)) (M.atN_le x k); omega
  have e : ((M.atN x k : Int) * (2 : Int) ^ (31 - k) % 4294967296) = ((M.atN x k * 2 ^ (31 - k) : Nat) : Int) := by
    have h2 : ((M.atN x k * 2 ^ (31 - k) : Nat) : Int) = (M.atN x k : Int) * (2 : Int) ^ (31 - k) := by simp
    rw [← h2]; clear h2; generalize M.atN x k * 2 ^ (31 - k) = p at hp2 ⊢; omega
  rw [e, u32_or_nat _ _ (Nat.lt_of_le_of_lt (M.keepN_le x k) hx) hp2, M.keepN_or x k h]

theorem rmask_any (n : Int) (hn : I64 n) (w : World) :
    Calls Try.prog 9 #[.int .i64 n] w fun e w' => e = .returned (.int .u32 (M.maskN (M.lowN n 32) : Nat)) ∧ w = w' := by
  have hl := M.lowN_le n 32
  go_enter Try.func9, Try.ntmps9
  go_wp2_with (go_at_call 25; refine (low_any _ 32 (by omega) (by omega) _).mono ?_; rintro e w' ⟨rfl, rfl⟩)
  go_loop [3, 7] (fun y i => ∃ k : Nat, k ≤ M.lowN n 32 ∧ i = .int .i64 k ∧ y = .int .u32 (M.maskN k : Nat)) (fun _ i => 32 - (intOf i).toNat)
  case atStart => exact ⟨0, Nat.zero_le _, rfl, rfl⟩
  case round =>
    obtain ⟨k, hk, rfl, rfl⟩ := hrel
    by_cases hlt : k < M.lowN n 32
    · go_wp2
      go_round
      case rel => exact ⟨k + 1, by omega, by go_num, val_i (or_mask k (by omega))⟩
      case measure => simp [intOf]; omega
    · have he : k = M.lowN n 32 := by omega
      go_wp2
      go_ret
      exact ⟨rfl, rfl⟩
theorem rkeep_any (x : Nat) (hx : x < 4294967296) (n : Int) (hn : I64 n) (w : World) :
    Calls Try.prog 11 #[.int .u32 x, .int .i64 n] w fun e w' => e = .returned (.int .u32 (M.keepN x (M.lowN n 32) : Nat)) ∧ w = w' := by
  have hl := M.lowN_le n 32
  go_enter Try.func11, Try.ntmps11
  go_wp2_with (go_at_call 25; refine (low_any _ 32 (by omega) (by omega) _).mono ?_; rintro e w' ⟨rfl, rfl⟩)
  have h0 := Lib.hid (M.keepN_zero x hx)
  go_loop [5, 9] (fun y i => ∃ k : Nat, k ≤ M.lowN n 32 ∧ i = .int .i64 k ∧ y = .int .u32 (M.keepN x k : Nat)) (fun _ i => 32 - (intOf i).toNat)
  case atStart => exact ⟨0, Nat.zero_le _, rfl, by rw [h0.out]; rfl⟩
  case round =>
    obtain ⟨k, hk, rfl, rfl⟩ := hrel
    have hb := M.atN_le x k
    by_cases hlt : k < M.lowN n 32
    · go_wp2_with (go_at_call 13; refine (rat_in x hx _ (by omega) (by omega) _).mono ?_; rintro e w' ⟨rfl, rfl⟩)
      go_round
      case rel => exact ⟨k + 1, by omega, by go_num, val_i (or_keep x k hx (by omega))⟩
      case measure => simp [intOf]; omega
    · have he : k = M.lowN n 32 := by omega
      go_wp2
      go_ret
      exact ⟨rfl, rfl⟩

theorem rank_step (x k : Nat) (hx : x < 18446744073709551616) (h : k < 64) : wrap64 (↑(M.rankN x k) + wrap64 (bits BinOp.and IntKind.u64 (↑x / 2 ^ k) 1)) = (M.rankN x (k + 1) : Nat) := by
  have e : ((x : Int) / 2 ^ k) = ((x / 2 ^ k : Nat) : Int) := by simp
  have hlt : x / 2 ^ k < 18446744073709551616 := Nat.lt_of_le_of_lt (Nat.div_le_self _ _) hx
  rw [e, show (1 : Int) = ((1 : Nat) : Int) from rfl, u64_and_nat _ 1 hlt (by omega), nat_mask1]
  have hb := M.bitN_le x k
  have hr := M.rankN_le x k
  show wrap64 (↑(M.rankN x k) + wrap64 (M.bitN x k : Nat)) = ((M.rankN x k + M.bitN x k : Nat) : Int)
  rw [IntWalk.wrap64_in (M.bitN x k : Nat) ⟨by omega, by omega⟩, IntWalk.wrap64_in _ ⟨by omega, by omega⟩]
  omega
theorem rank_any (x : Nat) (hx : x < 18446744073709551616) (n : Int) (hn : I64 n) (w : World) :
    Calls Try.prog 23 #[.int .u64 x, .int .i64 n] w fun e w' => e = .returned (.int .i64 (M.rankN x (M.lowN n 64) : Nat)) ∧ w = w' := by
  have hl := M.lowN_le n 64
  go_enter Try.func23, Try.ntmps23
  go_wp2_with (go_at_call 24; refine (clamp_any _ 64 (by omega) (by omega) _).mono ?_; rintro e w' ⟨rfl, rfl⟩)
  go_loop [5, 9] (fun y i => ∃ k : Nat, k ≤ M.lowN n 64 ∧ i = .int .i64 k ∧ y = .int .i64 (M.rankN x k : Nat)) (fun _ i => 64 - (intOf i).toNat)
  case atStart => exact ⟨0, Nat.zero_le _, rfl, rfl⟩
  case round =>
    obtain ⟨k, hk, rfl, rfl⟩ := hrel
    have hb := M.rankN_le x k
    by_cases hlt : k < M.lowN n 64
    · go_wp2
      go_round
      case rel => exact ⟨k + 1, by omega, by go_num, val_i (rank_step x k hx (by omega))⟩
      case measure => simp [intOf]; omega
    · have he : k = M.lowN n 64 := by omega
      go_wp2
      go_ret
      exact ⟨rfl, rfl⟩
theorem rrank_any (x : Nat) (hx : x < 18446744073709551616) (n : Int) (hn : I64 n) (w : World) :
    Calls Try.prog 18 #[.int .u64 x, .int .i64 n] w fun e w' => e = .returned (.int .i64 (M.rankN x (M.lowN n 64) : Nat)) ∧ w = w' := by
  have hl := M.lowN_le n 64
  go_enter Try.func18, Try.ntmps18
  go_wp2_with (go_at_call 25; refine (low_any _ 64 (by omega) (by omega) _).mono ?_; rintro e w' ⟨rfl, rfl⟩)
  go_loop [5, 9] (fun y i => ∃ k : Nat, k ≤ M.lowN n 64 ∧ i = .int .i64 k ∧ y = .int .i64 (M.rankN x k : Nat)) (fun _ i => 64 - (intOf i).toNat)
  case atStart => exact ⟨0, Nat.zero_le _, rfl, rfl⟩
  case round =>
    obtain ⟨k, hk, rfl, rfl⟩ := hrel
    have hb := M.rankN_le x k
    by_cases hlt : k < M.lowN n 64
    · go_wp2
      go_round
      case rel => exact ⟨k + 1, by omega, by go_num, val_i (rank_step x k hx (by omega))⟩
      case measure => simp [intOf]; omega
    · have he : k = M.lowN n 64 := by omega
      go_wp2
      go_ret
      exact ⟨rfl, rfl⟩
theorem ones_any (x : Nat) (hx : x < 18446744073709551616) (w : World) :
    Calls Try.prog 17 #[.int .u64 x] w fun e w' => e = .returned (.int .i64 (M.rankN x 64 : Nat)) ∧ w = w' := by
  go_enter Try.func17, Try.ntmps17
  go_wp2_with (go_at_call 23; refine (rank_any x hx _ (by omega) _).mono ?_; rintro e w' ⟨rfl, rfl⟩)
  go_ret
  exact ⟨rfl, rfl⟩

def LeadAt (x : Nat) (k : Nat) : Prop := M.NoneTo (fun i => decide (M.atN x i = 1)) k
theorem lead_any (x : Nat) (hx : x < 4294967296) (w : World) :
    Calls Try.prog 19 #[.int .u32 x] w fun e w' => e = .returned (.int .i64 (M.leadN x : Nat)) ∧ w = w' := by
  go_enter Try.func19, Try.ntmps19
  go_wp2
  go_loop [4] (fun i => ∃ k : Nat, k ≤ 32 ∧ i = .int .i64 k ∧ LeadAt x k) (fun i => 32 - (intOf i).toNat)
  case atStart => exact ⟨0, by omega, rfl, M.noneTo_zero _⟩
  case round =>
    obtain ⟨k, hk, rfl, hp⟩ := hrel
    have hb := M.atN_le x k
    by_cases hlt : k < 32
    · by_cases h1 : M.atN x k = 1
      · have H := Lib.hid (M.firstN_hit hp hlt (by simp [h1]))
        have h1' : ((M.atN x k : Int) == 1) = true := by simp [h1]
        have hh := Lib.hid h1; clear h1
        go_wp2_with (go_at_call 12; refine (at_in x hx _ (by omega) (by omega) _).mono ?_; rintro e w' ⟨rfl, rfl⟩)
        go_ret
        exact ⟨ret_i (by rw [M.leadN, H.out]), rfl⟩
      · have H := Lib.hid (M.noneTo_succ hp (by simp [h1]))
        have h1' : ((M.atN x k : Int) == 1) = false := by simp; omega
        have hh := Lib.hid h1; clear h1
        go_wp2_with (go_at_call 12; refine (at_in x hx _ (by omega) (by omega) _).mono ?_; rintro e w' ⟨rfl, rfl⟩)
        go_round
        case rel => exact ⟨k + 1, by omega, by go_num, H.out⟩
        case measure => simp [intOf]; omega
    · obtain rfl : k = 32 := by omega
      have H := Lib.hid (M.firstN_miss hp)
      go_wp2
      go_ret
      exact ⟨ret_i (by rw [M.leadN, H.out]; rfl), rfl⟩
def TrailAt (x : Nat) (k : Nat) : Prop := M.NoneTo (fun i => decide (M.atN x (31 - i) = 1)) k
theorem trail_any (x : Nat) (hx : x < 4294967296) (w : World) :
    Calls Try.prog 21 #[.int .u32 x] w fun e w' => e = .returned (.int .i64 (M.trailN x : Nat)) ∧ w = w' := by
  go_enter Try.func21, Try.ntmps21
  go_wp2
  go_loop [4] (fun i => ∃ k : Nat, k ≤ 32 ∧ i = .int .i64 k ∧ TrailAt x k) (fun i => 32 - (intOf i).toNat)
  case atStart => exact ⟨0, by omega, rfl, M.noneTo_zero _⟩
  case round =>
    obtain ⟨k, hk, rfl, hp⟩ := hrel
    have hb := M.atN_le x (31 - k)
    by_cases hlt : k < 32
    · by_cases h1 : M.atN x (31 - k) = 1
      · have H := Lib.hid (M.firstN_hit hp hlt (by simp [h1]))
        have h1' : ((M.atN x (31 - k) : Int) == 1) = true := by simp [h1]
        have hh := Lib.hid h1; clear h1
        go_wp2_with (go_at_call 12; refine (at_in x hx _ (by omega) (by omega) _).mono ?_; rintro e w' ⟨rfl, rfl⟩)
        go_ret
        exact ⟨ret_i (by rw [M.trailN, H.out]), rfl⟩
      · have H := Lib.hid (M.noneTo_succ hp (by simp [h1]))
        have h1' : ((M.atN x (31 - k) : Int) == 1) = false := by simp; omega
        have hh := Lib.hid h1; clear h1
        go_wp2_with (go_at_call 12; refine (at_in x hx _ (by omega) (by omega) _).mono ?_; rintro e w' ⟨rfl, rfl⟩)
        go_round
        case rel => exact ⟨k + 1, by omega, by go_num, H.out⟩
        case measure => simp [intOf]; omega
    · obtain rfl : k = 32 := by omega
      have H := Lib.hid (M.firstN_miss hp)
      go_wp2
      go_ret
      exact ⟨ret_i (by rw [M.trailN, H.out]; rfl), rfl⟩
theorem rtrail_any (x : Nat) (hx : x < 4294967296) (w : World) :
    Calls Try.prog 22 #[.int .u32 x] w fun e w' => e = .returned (.int .i64 (M.trailN x : Nat)) ∧ w = w' := by
  go_enter Try.func22, Try.ntmps22
  go_wp2
  go_loop [3] (fun i => ∃ k : Nat, k ≤ 32 ∧ i = .int .i64 k ∧ TrailAt x k) (fun i => 32 - (intOf i).toNat)
  case atStart => exact ⟨0, by omega, rfl, M.noneTo_zero _⟩
  case round =>
    obtain ⟨k, hk, rfl, hp⟩ := hrel
    have hb := M.atN_le x (31 - k)
    by_cases hlt : k < 32
    · by_cases h1 : M.atN x (31 - k) = 1
      · have H := Lib.hid (M.firstN_hit hp hlt (by simp [h1]))
        have h1' : ((M.atN x (31 - k) : Int) == 0) = false := by simp [h1]
        have hh := Lib.hid h1; clear h1
        go_wp2_with (go_at_call 13; refine (rat_in x hx _ (by omega) (by omega) _).mono ?_; rintro e w' ⟨rfl, rfl⟩)
        go_ret
        exact ⟨ret_i (by rw [M.trailN, H.out]), rfl⟩
      · have H := Lib.hid (M.noneTo_succ hp (by simp [h1]))
        have h1' : ((M.atN x (31 - k) : Int) == 0) = true := by simp; omega
        have hh := Lib.hid h1; clear h1
        go_wp2_with (go_at_call 13; refine (rat_in x hx _ (by omega) (by omega) _).mono ?_; rintro e w' ⟨rfl, rfl⟩)
        go_round
        case rel => exact ⟨k + 1, by omega, by go_num, H.out⟩
        case measure => simp [intOf]; omega
    · obtain rfl : k = 32 := by omega
      have H := Lib.hid (M.firstN_miss hp)
      go_wp2
      go_ret
      exact ⟨ret_i (by rw [M.trailN, H.out]; rfl), rfl⟩
theorem com_any (a b : Nat) (ha : a < 4294967296) (hb : b < 4294967296) (w : World) :
    Calls Try.prog 15 #[.int .u32 a, .int .u32 b] w fun e w' => e = .returned (.int .i64 (M.comN a b : Nat)) ∧ w = w' := by
  have hx : a ^^^ b < 4294967296 := Nat.xor_lt_two_pow (n := 32) ha hb
  have H := Lib.hid (M.leadN_xor a b)
  have hbx : bits BinOp.xor IntKind.u32 ↑a ↑b = ((a ^^^ b : Nat) : Int) := u32_xor_nat a b ha hb
  go_enter Try.func15, Try.ntmps15
  go_wp2_with (go_at_call 19; refine (lead_any _ hx _).mono ?_; rintro e w' ⟨rfl, rfl⟩)
  go_ret
  exact ⟨ret_i (by rw [H.out]), rfl⟩
def ComAt (a b : Nat) (k : Nat) : Prop := M.NoneTo (fun i => decide (M.atN a i ≠ M.atN b i)) k
theorem rcom_any (a b : Nat) (ha : a < 4294967296) (hb : b < 4294967296) (w : World) :
    Calls Try.prog 16 #[.int .u32 a, .int .u32 b] w fun e w' => e = .returned (.int .i64 (M.comN a b : Nat)) ∧ w = w' := by
  go_enter Try.func16, Try.ntmps16
  go_wp2
  go_loop [5] (fun i => ∃ k : Nat, k ≤ 32 ∧ i = .int .i64 k ∧ ComAt a b k) (fun i => 32 - (intOf i).toNat)
  case atStart => exact ⟨0, by omega, rfl, M.noneTo_zero _⟩
  case round =>
    obtain ⟨k, hk, rfl, hp⟩ := hrel
    by_cases hlt : k < 32
    · by_cases h1 : M.atN a k ≠ M.atN b k
      · have H := Lib.hid (M.firstN_hit hp hlt (by simpa using h1))
        have h1' : ((M.atN a k : Int) == (M.atN b k : Int)) = false := by simp; omega
        have hh := Lib.hid h1; clear h1
        go_wp2_with (go_at_call 13; refine (rat_in _ (by omega) _ (by omega) (by omega) _).mono ?_; rintro e w' ⟨rfl, rfl⟩)
        go_ret
        exact ⟨ret_i (by rw [M.comN, H.out]), rfl⟩
      · have H := Lib.hid (M.noneTo_succ hp (by simpa using h1))
        have h1' : ((M.atN a k : Int) == (M.atN b k : Int)) = true := by simp; omega
        have hh := Lib.hid h1; clear h1
        go_wp2_with (go_at_call 13; refine (rat_in _ (by omega) _ (by omega) (by omega) _).mono ?_; rintro e w' ⟨rfl, rfl⟩)
        go_round
        case rel => exact ⟨k + 1, by omega, by go_num, H.out⟩
        case measure => simp [intOf]; omega
    · obtain rfl : k = 32 := by omega
      have H := Lib.hid (M.firstN_miss hp)
      go_wp2
      go_ret
      exact ⟨ret_i (by rw [M.comN, H.out]; rfl), rfl⟩
theorem rlead_any (x : Nat) (hx : x < 4294967296) (w : World) :
    Calls Try.prog 20 #[.int .u32 x] w fun e w' => e = .returned (.int .i64 (M.leadN x : Nat)) ∧ w = w' := by
  have H := Lib.hid (M.comN_zero x)
  go_enter Try.func20, Try.ntmps20
  go_wp2_with (go_at_call 16; refine (rcom_any x 0 hx (by omega) _).mono ?_; rintro e w' ⟨rfl, rfl⟩)
  go_ret
  exact ⟨ret_i (by rw [H.out]), rfl⟩

theorem lives_any (w : World) : Calls Try.prog 14 #[] w fun e w' => e = .returned (.bool true) ∧ w = w' := by
  have c8 : ∀ W, Calls Try.prog 8 #[.int .i64 8] W fun e w' => e = .returned (.int .u32 4278190080) ∧ W = w' := fun W =>
    (mask_any 8 (by omega) W).mono fun e w' ⟨h1, h2⟩ => ⟨by rw [h1]; exact ret_i (by decide), h2⟩
  have c10 : ∀ W, Calls Try.prog 10 #[.int .u32 4294967295, .int .i64 1] W fun e w' => e = .returned (.int .u32 2147483648) ∧ W = w' := fun W =>
    (keep_any 4294967295 (by omega) 1 (by omega) W).mono fun e w' ⟨h1, h2⟩ => ⟨by rw [h1]; exact ret_i (by decide), h2⟩
  have c12 : ∀ W, Calls Try.prog 12 #[.int .u32 1, .int .i64 31] W fun e w' => e = .returned (.int .i64 1) ∧ W = w' := fun W =>
    (at_in 1 (by omega) 31 (by omega) (by omega) W).mono fun e w' ⟨h1, h2⟩ => ⟨by rw [h1]; exact ret_i (by decide), h2⟩
  have c15 : ∀ W, Calls Try.prog 15 #[.int .u32 0, .int .u32 1] W fun e w' => e = .returned (.int .i64 31) ∧ W = w' := fun W =>
    (com_any 0 1 (by omega) (by omega) W).mono fun e w' ⟨h1, h2⟩ => ⟨by rw [h1]; exact ret_i (by decide), h2⟩
  have c17 : ∀ W, Calls Try.prog 17 #[.int .u64 255] W fun e w' => e = .returned (.int .i64 8) ∧ W = w' := fun W =>
    (ones_any 255 (by omega) W).mono fun e w' ⟨h1, h2⟩ => ⟨by rw [h1]; exact ret_i (by decide), h2⟩
  have c19 : ∀ W, Calls Try.prog 19 #[.int .u32 1] W fun e w' => e = .returned (.int .i64 31) ∧ W = w' := fun W =>
    (lead_any 1 (by omega) W).mono fun e w' ⟨h1, h2⟩ => ⟨by rw [h1]; exact ret_i (by decide), h2⟩
  have c21 : ∀ W, Calls Try.prog 21 #[.int .u32 8] W fun e w' => e = .returned (.int .i64 3) ∧ W = w' := fun W =>
    (trail_any 8 (by omega) W).mono fun e w' ⟨h1, h2⟩ => ⟨by rw [h1]; exact ret_i (by decide), h2⟩
  have c23 : ∀ W, Calls Try.prog 23 #[.int .u64 255, .int .i64 4] W fun e w' => e = .returned (.int .i64 4) ∧ W = w' := fun W =>
    (rank_any 255 (by omega) 4 (by omega) W).mono fun e w' ⟨h1, h2⟩ => ⟨by rw [h1]; exact ret_i (by decide), h2⟩
  have C8 := Lib.hid c8; have C10 := Lib.hid c10; have C12 := Lib.hid c12; have C15 := Lib.hid c15
  have C17 := Lib.hid c17; have C19 := Lib.hid c19; have C21 := Lib.hid c21; have C23 := Lib.hid c23
  clear c8 c10 c12 c15 c17 c19 c21 c23
  go_enter Try.func14, Try.ntmps14
  go_wp2_with (first
    | (go_at_call 8; refine (C8.out _).mono ?_; rintro e w' ⟨rfl, rfl⟩)
    | (go_at_call 10; refine (C10.out _).mono ?_; rintro e w' ⟨rfl, rfl⟩)
    | (go_at_call 12; refine (C12.out _).mono ?_; rintro e w' ⟨rfl, rfl⟩)
    | (go_at_call 15; refine (C15.out _).mono ?_; rintro e w' ⟨rfl, rfl⟩)
    | (go_at_call 17; refine (C17.out _).mono ?_; rintro e w' ⟨rfl, rfl⟩)
    | (go_at_call 19; refine (C19.out _).mono ?_; rintro e w' ⟨rfl, rfl⟩)
    | (go_at_call 21; refine (C21.out _).mono ?_; rintro e w' ⟨rfl, rfl⟩)
    | (go_at_call 23; refine (C23.out _).mono ?_; rintro e w' ⟨rfl, rfl⟩))
  go_ret
  exact ⟨rfl, rfl⟩
end Go.Proofs.Ytbcgfgklajdelaa
