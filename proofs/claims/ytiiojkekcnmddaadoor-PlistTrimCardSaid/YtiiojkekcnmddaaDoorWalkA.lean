/-
  The walks of package bits, of its reference and of the functions on prefixes without text: what each call returns, by the plain facts.
-/
import Derived.Test.YtiiojkekcnmddaaDoorRows
import Derived.Test.YtiiojkekcnmddaaDoorMath
import Derived.WalkKit
import Derived.WalkSpells
import Derived.WalkLawsBesides
import Derived.Lib.Hide
import Derived.Deep.QuietTactic
import Derived.BigQuiet
import Derived.Deep.RegionHeld3
namespace Go.Proofs.YtiiojkekcnmddaaDoor
open Go.RowKit
theorem ret_i {k : IntKind} {a b : Int} (h : a = b) : Ending.returned (.int k a) = .returned (.int k b) := by rw [h]
theorem val_i {k : IntKind} {a b : Int} (h : a = b) : (Value.int k a) = .int k b := by rw [h]
abbrev I64 (n : Int) : Prop := -9223372036854775808 ≤ n ∧ n ≤ 9223372036854775807

theorem clamp_any (n : Int) (l : Nat) (hl : l ≤ 64) (hn : I64 n) (w : World) :
    Calls Tryd.prog 78 #[.int .i64 n, .int .i64 l] w fun e w' => e = .returned (.int .i64 (M.lowN n l : Nat)) ∧ w = w' := by
  have hm : n < 0 → M.lowN n l = 0 := fun h => by unfold M.lowN; omega
  have hm2 : 0 ≤ n → n ≤ l → (M.lowN n l : Int) = n := fun h h2 => by unfold M.lowN; omega
  have hm3 : (l : Int) < n → M.lowN n l = l := fun h => by unfold M.lowN; omega
  rcases (by omega : n < 0 ∨ (0 ≤ n ∧ n ≤ l) ∨ (l : Int) < n) with h | ⟨h, h2⟩ | h
  · have H := Lib.hid (hm h); clear hm hm2 hm3
    go_enter Tryd.func78, Tryd.ntmps78
    go_wp2
    go_ret
    exact ⟨ret_i (by rw [H.out]; rfl), rfl⟩
  · have H := Lib.hid (hm2 h h2); clear hm hm2 hm3
    have hx : ¬ n < 0 := by omega
    go_enter Tryd.func78, Tryd.ntmps78
    go_wp2
    go_ret
    exact ⟨ret_i H.out.symm, rfl⟩
  · have H := Lib.hid (hm3 h); clear hm hm2 hm3
    have hx : ¬ n < 0 := by omega
    go_enter Tryd.func78, Tryd.ntmps78
    go_wp2
    all_goals (go_ret; exact ⟨ret_i (by rw [H.out]), rfl⟩)
theorem low_any (n : Int) (l : Nat) (hl : l ≤ 64) (hn : I64 n) (w : World) :
    Calls Tryd.prog 56 #[.int .i64 n, .int .i64 l] w fun e w' => e = .returned (.int .i64 (M.lowN n l : Nat)) ∧ w = w' := by
  have hm : n < 0 → M.lowN n l = 0 := fun h => by unfold M.lowN; omega
  have hm2 : 0 ≤ n → n ≤ l → (M.lowN n l : Int) = n := fun h h2 => by unfold M.lowN; omega
  have hm3 : (l : Int) < n → M.lowN n l = l := fun h => by unfold M.lowN; omega
  rcases (by omega : n < 0 ∨ (0 ≤ n ∧ n ≤ l) ∨ (l : Int) < n) with h | ⟨h, h2⟩ | h
  · have H := Lib.hid (hm h); clear hm hm2 hm3
    go_enter Tryd.func56, Tryd.ntmps56
    go_wp2
    go_ret
    exact ⟨ret_i (by rw [H.out]; rfl), rfl⟩
  · have H := Lib.hid (hm2 h h2); clear hm hm2 hm3
    have hx : ¬ n < 0 := by omega
    go_enter Tryd.func56, Tryd.ntmps56
    go_wp2
    go_ret
    exact ⟨ret_i H.out.symm, rfl⟩
  · have H := Lib.hid (hm3 h); clear hm hm2 hm3
    have hx : ¬ n < 0 := by omega
    go_enter Tryd.func56, Tryd.ntmps56
    go_wp2
    all_goals (go_ret; exact ⟨ret_i (by rw [H.out]), rfl⟩)

theorem maskN_shift (k : Nat) (h : k ≤ 32) : (4294967295 * 2 ^ (32 - k) % 4294967296 : Int) = (M.maskN k : Nat) := by
  have e : 4294967296 = 2 ^ (32 - k) * 2 ^ k := by
    rw [← Nat.pow_add]; have : 32 - k + k = 32 := by omega
    rw [this]
  have hp : 0 < 2 ^ (32 - k) := Nat.pow_pos (by omega)
  have hle := M.pow_le32 (k := 32 - k) (by omega)
  have hn : 4294967295 * 2 ^ (32 - k) % 4294967296 = M.maskN k := by
    unfold M.maskN
    have e2 : 4294967295 * 2 ^ (32 - k) = (4294967296 - 2 ^ (32 - k)) + 4294967296 * (2 ^ (32 - k) - 1) := by
      generalize 2 ^ (32 - k) = p at *; omega
    rw [e2, Nat.add_mul_mod_self_left, Nat.mod_eq_of_lt (by omega)]
  rw [← hn]; simp
theorem mask_any (n : Int) (hn : I64 n) (w : World) :
    Calls Tryd.prog 66 #[.int .i64 n] w fun e w' => e = .returned (.int .u32 (M.maskN (M.lowN n 32) : Nat)) ∧ w = w' := by
  have hl := M.lowN_le n 32
  go_enter Tryd.func66, Tryd.ntmps66
  go_wp2_with (go_at_call 78; refine (clamp_any _ 32 (by omega) (by omega) _).mono ?_; rintro e w' ⟨rfl, rfl⟩)
  go_ret
  exact ⟨ret_i (maskN_shift _ hl), rfl⟩
theorem keep_any (x : Nat) (hx : x < 4294967296) (n : Int) (hn : I64 n) (w : World) :
    Calls Tryd.prog 58 #[.int .u32 x, .int .i64 n] w fun e w' => e = .returned (.int .u32 (M.keepN x (M.lowN n 32) : Nat)) ∧ w = w' := by
  have hl := M.lowN_le n 32
  go_enter Tryd.func58, Tryd.ntmps58
  go_wp2_with (go_at_call 66; refine (mask_any _ (by omega) _).mono ?_; rintro e w' ⟨rfl, rfl⟩)
  go_ret
  exact ⟨ret_i (by rw [u32_and_nat x _ hx (M.maskN_lt _), M.and_maskN x _ hx hl]), rfl⟩

theorem at_bits (x : Nat) (hx : x < 4294967296) (n : Int) (h0 : 0 ≤ n) (h1 : n ≤ 31) : wrap64 (bits BinOp.and IntKind.u32 (↑x / 2 ^ (31 - n).toNat) 1) = (M.atN x n.toNat : Nat) := by
  have e : ((x : Int) / 2 ^ (31 - n).toNat) = ((x / 2 ^ (31 - n.toNat) : Nat) : Int) := by
    have : (31 - n).toNat = 31 - n.toNat := by omega
    rw [this]; simp
  rw [e]
  have hlt : x / 2 ^ (31 - n.toNat) < 4294967296 := Nat.lt_of_le_of_lt (Nat.div_le_self _ _) hx
  rw [show (1 : Int) = ((1 : Nat) : Int) from rfl, u32_and_nat _ 1 hlt (by omega), nat_mask1]
  have := M.atN_le x n.toNat
  unfold M.atN at this ⊢
  exact IntWalk.wrap64_in _ ⟨by omega, by omega⟩
def atZ (x : Nat) (n : Int) : Nat := if 0 ≤ n ∧ n ≤ 31 then M.atN x n.toNat else 0
theorem rat_in (x : Nat) (hx : x < 4294967296) (n : Int) (h0 : 0 ≤ n) (h1 : n ≤ 31) (w : World) :
    Calls Tryd.prog 57 #[.int .u32 x, .int .i64 n] w fun e w' => e = .returned (.int .i64 (M.atN x n.toNat : Nat)) ∧ w = w' := by
  go_enter Tryd.func57, Tryd.ntmps57
  go_wp2
  go_ret
  exact ⟨ret_i (at_bits x hx n h0 h1), rfl⟩
theorem rat_any (x : Nat) (hx : x < 4294967296) (n : Int) (hn : I64 n) (w : World) :
    Calls Tryd.prog 57 #[.int .u32 x, .int .i64 n] w fun e w' => e = .returned (.int .i64 (atZ x n : Nat)) ∧ w = w' := by
  unfold atZ
  by_cases h : 0 ≤ n ∧ n ≤ 31
  · rw [if_pos h]; exact rat_in x hx n h.1 h.2 w
  · rw [if_neg h]
    rcases (by omega : n < 0 ∨ 31 < n) with h' | h' <;> clear h
    · go_enter Tryd.func57, Tryd.ntmps57
      go_wp2
      go_ret
      exact ⟨rfl, rfl⟩
    · have h2 : ¬ n < 0 := by omega
      go_enter Tryd.func57, Tryd.ntmps57
      go_wp2
      go_ret
      exact ⟨rfl, rfl⟩

theorem or_mask (k : Nat) (h : k < 32) : bits BinOp.or IntKind.u32 (↑(M.maskN k)) (2 ^ (31 - k) % 4294967296) = (M.maskN (k + 1) : Nat) := by
  have hp : 2 ^ (31 - k) < 4294967296 := by
    have := Nat.pow_lt_pow_right (a := 2) (by omega) (show 31 - k < 32 by omega); simpa using this
  have e : ((2 : Int) ^ (31 - k) % 4294967296) = ((2 ^ (31 - k) : Nat) : Int) := by
    have h2 : ((2 ^ (31 - k) : Nat) : Int) = (2 : Int) ^ (31 - k) := by simp
    rw [← h2]; clear h2; generalize 2 ^ (31 - k) = p at hp ⊢; omega
  rw [e, u32_or_nat _ _ (M.maskN_lt _) hp, M.maskN_or k h]
theorem or_keep (x k : Nat) (hx : x < 4294967296) (h : k < 32) : bits BinOp.or IntKind.u32 (↑(M.keepN x k)) (↑(M.atN x k) * 2 ^ (31 - k) % 4294967296) = (M.keepN x (k + 1) : Nat) := by
  have hp : 2 ^ (31 - k) < 4294967296 := by
    have := Nat.pow_lt_pow_right (a := 2) (by omega) (show 31 - k < 32 by omega); simpa using this
  have hp2 : M.atN x k * 2 ^ (31 - k) < 4294967296 := by
    have := Nat.mul_le_mul_right (2 ^ (31 - k)) (M.atN_le x k); omega
  have e : ((M.atN x k : Int) * (2 : Int) ^ (31 - k) % 4294967296) = ((M.atN x k * 2 ^ (31 - k) : Nat) : Int) := by
    have h2 : ((M.atN x k * 2 ^ (31 - k) : Nat) : Int) = (M.atN x k : Int) * (2 : Int) ^ (31 - k) := by simp
    rw [← h2]; clear h2; generalize M.atN x k * 2 ^ (31 - k) = p at hp2 ⊢; omega
  rw [e, u32_or_nat _ _ (Nat.lt_of_le_of_lt (M.keepN_le x k) hx) hp2, M.keepN_or x k h]

theorem rkeep_any (x : Nat) (hx : x < 4294967296) (n : Int) (hn : I64 n) (w : World) :
    Calls Tryd.prog 41 #[.int .u32 x, .int .i64 n] w fun e w' => e = .returned (.int .u32 (M.keepN x (M.lowN n 32) : Nat)) ∧ w = w' := by
  have hl := M.lowN_le n 32
  go_enter Tryd.func41, Tryd.ntmps41
  go_wp2_with (go_at_call 56; refine (low_any _ 32 (by omega) (by omega) _).mono ?_; rintro e w' ⟨rfl, rfl⟩)
  have h0 := Lib.hid (M.keepN_zero x hx)
  go_loop [5, 9] (fun y i => ∃ k : Nat, k ≤ M.lowN n 32 ∧ i = .int .i64 k ∧ y = .int .u32 (M.keepN x k : Nat)) (fun _ i => 32 - (intOf i).toNat)
  case atStart => exact ⟨0, Nat.zero_le _, rfl, by rw [h0.out]; rfl⟩
  case round =>
    obtain ⟨k, hk, rfl, rfl⟩ := hrel
    have hb := M.atN_le x k
    by_cases hlt : k < M.lowN n 32
    · go_wp2_with (go_at_call 57; refine (rat_in x hx _ (by omega) (by omega) _).mono ?_; rintro e w' ⟨rfl, rfl⟩)
      go_round
      case rel => exact ⟨k + 1, by omega, by go_num, val_i (or_keep x k hx (by omega))⟩
      case measure => simp [intOf]; omega
    · have he : k = M.lowN n 32 := by omega
      go_wp2
      go_ret
      exact ⟨rfl, rfl⟩


theorem lenIn_yes (n : Int) (h0 : 0 ≤ n) (h1 : n ≤ 32) (w : World) : Calls Tryd.prog 42 #[.int .i64 n] w fun e w' => e = .returned (.bool true) ∧ w = w' := by
  have d0 : decide (0 ≤ n) = true := decide_eq_true h0
  have d1 : decide (n ≤ 32) = true := decide_eq_true h1
  go_enter Tryd.func42, Tryd.ntmps42
  go_wp2
  go_ret
  exact ⟨rfl, rfl⟩
theorem lenIn_no (n : Int) (h : n < 0 ∨ 32 < n) (w : World) : Calls Tryd.prog 42 #[.int .i64 n] w fun e w' => e = .returned (.bool false) ∧ w = w' := by
  rcases h with h | h
  · have h2 : decide (0 ≤ n) = false := by simp; omega
    go_enter Tryd.func42, Tryd.ntmps42
    go_wp2
    go_ret
    exact ⟨rfl, rfl⟩
  · have h2 : decide (0 ≤ n) = true := by simp; omega
    have h3 : decide (n ≤ 32) = false := by simp; omega
    go_enter Tryd.func42, Tryd.ntmps42
    go_wp2
    go_ret
    exact ⟨rfl, rfl⟩
theorem pkeep_any (x : Nat) (hx : x < 4294967296) (n : Int) (hn : I64 n) (w : World) :
    Calls Tryd.prog 43 #[.int .u32 x, .int .i64 n] w fun e w' => e = .returned (.int .u32 (M.keepN x (M.lowN n 32) : Nat)) ∧ w = w' := by
  go_enter Tryd.func43, Tryd.ntmps43
  go_wp2_with (go_at_call 58; refine (keep_any _ (by omega) _ (by omega) _).mono ?_; rintro e w' ⟨rfl, rfl⟩)
  go_ret
  exact ⟨rfl, rfl⟩

/-- whether address and length make a valid prefix -/
def vld (a : Nat) (n : Int) : Bool := decide (0 ≤ n ∧ n ≤ 32 ∧ M.keepN a (M.lowN n 32) = a)
theorem vld_yes {a : Nat} {n : Int} (h0 : 0 ≤ n) (h1 : n ≤ 32) (h : M.keepN a (M.lowN n 32) = a) : vld a n = true := by unfold vld; simp [h0, h1, h]
theorem vld_no {a : Nat} {n : Int} (h : M.keepN a (M.lowN n 32) ≠ a) : vld a n = false := by unfold vld; simp [h]
theorem vld_out {a : Nat} {n : Int} (h : n < 0 ∨ 32 < n) : vld a n = false := by unfold vld; simp; omega
theorem vld_in {a : Nat} {n : Int} (h : vld a n = true) : 0 ≤ n ∧ n ≤ 32 ∧ M.keepN a (M.lowN n 32) = a := by unfold vld at h; simpa using h
theorem below_box (w : World) (o : Obj) (n : Nat) : Below w.heap.size w ((w.alloc o).drewN n) := by
  have h := (Below.refl w.heap.size w).alloc (Nat.le_refl _) o
  exact ⟨h.os, h.tape, h.output, h.size, h.block⟩
theorem ret_b {a b : Bool} (h : a = b) : Ending.returned (.bool a) = .returned (.bool b) := by rw [h]

theorem valid_any (a : Nat) (ha : a < 4294967296) (n : Int) (hn : I64 n) (w : World) :
    Calls Tryd.prog 24 #[.agg #[.int .u32 a, .int .i64 n]] w fun e w' => e = .returned (.bool (vld a n)) ∧ Below w.heap.size w w' := by
  by_cases hr : 0 ≤ n ∧ n ≤ 32
  · have h0 := hr.1; have h1 := hr.2; clear hr
    by_cases hk : M.keepN a (M.lowN n 32) = a
    · have hv := Lib.hid (vld_yes h0 h1 hk)
      have hd : ((M.keepN a (M.lowN n 32) : Int) == (a : Int)) = true := by rw [hk]; simp
      clear hk
      go_enter Tryd.func24, Tryd.ntmps24
      go_wp2
      go_quiet ((first | (go_at_call 42; exact Calls.quiet_of_same ((lenIn_yes _ (by omega) (by omega) _).mono fun _ _ h => ⟨h.1, h.2.symm⟩)) | (go_at_call 43; exact Calls.quiet_of_same ((pkeep_any _ (by omega) _ (by omega) _).mono fun _ _ h => ⟨h.1, h.2.symm⟩))))
      go_wp2
      go_ret
      exact ⟨ret_b hv.out.symm, below_box _ _ _⟩
    · have hv := Lib.hid (vld_no (n := n) hk)
      have hd : ((M.keepN a (M.lowN n 32) : Int) == (a : Int)) = false := by simp; omega
      clear hk
      go_enter Tryd.func24, Tryd.ntmps24
      go_wp2
      go_quiet ((first | (go_at_call 42; exact Calls.quiet_of_same ((lenIn_yes _ (by omega) (by omega) _).mono fun _ _ h => ⟨h.1, h.2.symm⟩)) | (go_at_call 43; exact Calls.quiet_of_same ((pkeep_any _ (by omega) _ (by omega) _).mono fun _ _ h => ⟨h.1, h.2.symm⟩))))
      go_wp2
      go_ret
      exact ⟨ret_b hv.out.symm, below_box _ _ _⟩
  · have hr' : n < 0 ∨ 32 < n := by omega
    have hv := Lib.hid (vld_out (a := a) hr')
    have hq := Lib.hid hr'
    clear hr hr'
    go_enter Tryd.func24, Tryd.ntmps24
    go_wp2
    go_quiet ((first | (go_at_call 42; exact Calls.quiet_of_same ((lenIn_no _ hq.out _).mono fun _ _ h => ⟨h.1, h.2.symm⟩)) | (go_at_call 43; exact Calls.quiet_of_same ((pkeep_any _ (by omega) _ (by omega) _).mono fun _ _ h => ⟨h.1, h.2.symm⟩))))
    go_wp2
    go_ret
    exact ⟨ret_b hv.out.symm, below_box _ _ _⟩
theorem rvalid_any (a : Nat) (ha : a < 4294967296) (n : Int) (hn : I64 n) (w : World) :
    Calls Tryd.prog 23 #[.agg #[.int .u32 a, .int .i64 n]] w fun e w' => e = .returned (.bool (vld a n)) ∧ Below w.heap.size w w' := by
  by_cases h0 : 0 ≤ n
  · by_cases h1 : n ≤ 32
    · have d0 : decide (0 ≤ n) = true := decide_eq_true h0
      have d1 : decide (n ≤ 32) = true := decide_eq_true h1
      by_cases hk : M.keepN a (M.lowN n 32) = a
      · have hv := Lib.hid (vld_yes h0 h1 hk)
        have hd : ((M.keepN a (M.lowN n 32) : Int) == (a : Int)) = true := by rw [hk]; simp
        clear hk
        go_enter Tryd.func23, Tryd.ntmps23
        go_wp2
        go_quiet ((go_at_call 41; exact Calls.quiet_of_same ((rkeep_any _ (by omega) _ (by omega) _).mono fun _ _ h => ⟨h.1, h.2.symm⟩)))
        go_wp2
        go_ret
        exact ⟨ret_b hv.out.symm, below_box _ _ _⟩
      · have hv := Lib.hid (vld_no (n := n) hk)
        have hd : ((M.keepN a (M.lowN n 32) : Int) == (a : Int)) = false := by simp; omega
        clear hk
        go_enter Tryd.func23, Tryd.ntmps23
        go_wp2
        go_quiet ((go_at_call 41; exact Calls.quiet_of_same ((rkeep_any _ (by omega) _ (by omega) _).mono fun _ _ h => ⟨h.1, h.2.symm⟩)))
        go_wp2
        go_ret
        exact ⟨ret_b hv.out.symm, below_box _ _ _⟩
    · have d0 : decide (0 ≤ n) = true := decide_eq_true h0
      have d1 : decide (n ≤ 32) = false := decide_eq_false h1
      have hv := Lib.hid (vld_out (a := a) (n := n) (by omega))
      clear h1
      go_enter Tryd.func23, Tryd.ntmps23
      go_wp2
      go_quiet (fail)
      go_wp2
      go_ret
      exact ⟨ret_b hv.out.symm, below_box _ _ _⟩
  · have d0 : decide (0 ≤ n) = false := decide_eq_false h0
    have hv := Lib.hid (vld_out (a := a) (n := n) (by omega))
    clear h0
    go_enter Tryd.func23, Tryd.ntmps23
    go_wp2
    go_quiet (fail)
    go_wp2
    go_ret
    exact ⟨ret_b hv.out.symm, below_box _ _ _⟩

theorem below_alloc (w : World) (o : Obj) : Below w.heap.size w (w.alloc o) := (Below.refl _ w).alloc (Nat.le_refl _) o
theorem rmake_any (a : Nat) (ha : a < 4294967296) (n : Int) (hn : I64 n) (w : World) :
    Calls Tryd.prog 59 #[.int .u32 a, .int .i64 n] w fun e w' => e = .returned (.agg #[.int .u32 (M.keepN a (M.lowN n 32) : Nat), .int .i64 n]) ∧ Below w.heap.size w w' := by
  go_enter Tryd.func59, Tryd.ntmps59
  go_wp2_with (first | (go_at_call 41; refine (rkeep_any _ (by omega) _ (by omega) _).mono ?_; rintro e w' ⟨rfl, rfl⟩))
  exact bodyPost_ret (v := .agg #[.int .u32 (M.keepN a (M.lowN n 32) : Nat), .int .i64 n]) (by simp [results, Tryd.results59, go_sem]) rfl ⟨rfl, below_alloc _ _⟩
end Go.Proofs.YtiiojkekcnmddaaDoor
