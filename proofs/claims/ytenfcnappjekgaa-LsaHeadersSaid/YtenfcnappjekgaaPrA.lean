/-
  The walks of package bits, of its reference and of the functions on prefixes without text: what each call returns, by the plain facts.
-/
import Derived.Test.YtenfcnappjekgaaLaA
import Derived.Test.YtenfcnappjekgaaPrM
namespace Go.Proofs.Ytenfcnappjekgaa
open Go.RowKit
theorem clamp_any (n : Int) (l : Nat) (hl : l ≤ 64) (hn : I64 n) (w : World) :
    Calls Try.prog 115 #[.int .i64 n, .int .i64 l] w fun e w' => e = .returned (.int .i64 (M.lowN n l : Nat)) ∧ w = w' := by
  have hm : n < 0 → M.lowN n l = 0 := fun h => by unfold M.lowN; omega
  have hm2 : 0 ≤ n → n ≤ l → (M.lowN n l : Int) = n := fun h h2 => by unfold M.lowN; omega
  have hm3 : (l : Int) < n → M.lowN n l = l := fun h => by unfold M.lowN; omega
  rcases (by omega : n < 0 ∨ (0 ≤ n ∧ n ≤ l) ∨ (l : Int) < n) with h | ⟨h, h2⟩ | h
  · have H := Lib.hid (hm h); clear hm hm2 hm3
    go_enter Try.func115, Try.ntmps115
    go_wp2
    go_ret
    exact ⟨ret_i (by rw [H.out]; rfl), rfl⟩
  · have H := Lib.hid (hm2 h h2); clear hm hm2 hm3
    have hx : ¬ n < 0 := by omega
    go_enter Try.func115, Try.ntmps115
    go_wp2
    go_ret
    exact ⟨ret_i H.out.symm, rfl⟩
  · have H := Lib.hid (hm3 h); clear hm hm2 hm3
    have hx : ¬ n < 0 := by omega
    go_enter Try.func115, Try.ntmps115
    go_wp2
    all_goals (go_ret; exact ⟨ret_i (by rw [H.out]), rfl⟩)
theorem maskN_shift (k : Nat) (h : k ≤ 32) : (4294967295 * 2 ^ (32 - k) % 4294967296 : Int) = (M.maskN k : Nat) := by
  have e : 4294967296 = 2 ^ (32 - k) * 2 ^ k := by
    rw [← Nat.pow_add]; have : 32 - k + k = 32 := by omega
    rw [this]
  have hp : 0 < 2 ^ (32 - k) := Nat.pow_pos (by omega)
  have hle := M.pow_le32 (k := 32 - k) (by omega)
  have hn : 4294967295 * 2 ^ (32 - k) % 4294967296 = M.maskN k := by
    unfold M.maskN
    have e2 : 4294967295 * 2 ^ (32 - k) = (4294967296 - 2 ^ (32 - k)) + 4294967296 * (2 ^ (32 - k) - 1) := by
      generalize 2 ^ (32 - k) = p at *; omega
    rw [e2, Nat.add_mul_mod_self_left, Nat.mod_eq_of_lt (by omega)]
  rw [← hn]; simp
theorem mask_any (n : Int) (hn : I64 n) (w : World) :
    Calls Try.prog 114 #[.int .i64 n] w fun e w' => e = .returned (.int .u32 (M.maskN (M.lowN n 32) : Nat)) ∧ w = w' := by
  have hl := M.lowN_le n 32
  go_enter Try.func114, Try.ntmps114
  go_wp2_with (go_at_call 115; refine (clamp_any _ 32 (by omega) (by omega) _).mono ?_; rintro e w' ⟨rfl, rfl⟩)
  go_ret
  exact ⟨ret_i (maskN_shift _ hl), rfl⟩
theorem keep_any (x : Nat) (hx : x < 4294967296) (n : Int) (hn : I64 n) (w : World) :
    Calls Try.prog 112 #[.int .u32 x, .int .i64 n] w fun e w' => e = .returned (.int .u32 (M.keepN x (M.lowN n 32) : Nat)) ∧ w = w' := by
  have hl := M.lowN_le n 32
  go_enter Try.func112, Try.ntmps112
  go_wp2_with (go_at_call 114; refine (mask_any _ (by omega) _).mono ?_; rintro e w' ⟨rfl, rfl⟩)
  go_ret
  exact ⟨ret_i (by rw [u32_and_nat x _ hx (M.maskN_lt _), M.and_maskN x _ hx hl]), rfl⟩

theorem at_bits (x : Nat) (hx : x < 4294967296) (n : Int) (h0 : 0 ≤ n) (h1 : n ≤ 31) : wrap64 (bits BinOp.and IntKind.u32 (↑x / 2 ^ (31 - n).toNat) 1) = (M.atN x n.toNat : Nat) := by
  have e : ((x : Int) / 2 ^ (31 - n).toNat) = ((x / 2 ^ (31 - n.toNat) : Nat) : Int) := by
    have : (31 - n).toNat = 31 - n.toNat := by omega
    rw [this]; simp
  rw [e]
  have hlt : x / 2 ^ (31 - n.toNat) < 4294967296 := Nat.lt_of_le_of_lt (Nat.div_le_self _ _) hx
  rw [show (1 : Int) = ((1 : Nat) : Int) from rfl, u32_and_nat _ 1 hlt (by omega), nat_mask1]
  have := M.atN_le x n.toNat
  unfold M.atN at this ⊢
  exact IntWalk.wrap64_in _ ⟨by omega, by omega⟩
def atZ (x : Nat) (n : Int) : Nat := if 0 ≤ n ∧ n ≤ 31 then M.atN x n.toNat else 0
theorem or_mask (k : Nat) (h : k < 32) : bits BinOp.or IntKind.u32 (↑(M.maskN k)) (2 ^ (31 - k) % 4294967296) = (M.maskN (k + 1) : Nat) := by
  have hp : 2 ^ (31 - k) < 4294967296 := by
    have := Nat.pow_lt_pow_right (a := 2) (by omega) (show 31 - k < 32 by omega); simpa using this
  have e : ((2 : Int) ^ (31 - k) % 4294967296) = ((2 ^ (31 - k) : Nat) : Int) := by
    have h2 : ((2 ^ (31 - k) : Nat) : Int) = (2 : Int) ^ (31 - k) := by simp
    rw [← h2]; clear h2; generalize 2 ^ (31 - k) = p at hp ⊢; omega
  rw [e, u32_or_nat _ _ (M.maskN_lt _) hp, M.maskN_or k h]
theorem or_keep (x k : Nat) (hx : x < 4294967296) (h : k < 32) : bits BinOp.or IntKind.u32 (↑(M.keepN x k)) (↑(M.atN x k) * 2 ^ (31 - k) % 4294967296) = (M.keepN x (k + 1) : Nat) := by
  have hp : 2 ^ (31 - k) < 4294967296 := by
    have := Nat.pow_lt_pow_right (a := 2) (by omega) (show 31 - k < 32 by omega); simpa using this
  have hp2 : M.atN x k * 2 ^ (31 - k) < 4294967296 := by
    have := Nat.mul_le_mul_right (2 ^ (31 - k)) (M.atN_le x k); omega
  have e : ((M.atN x k : Int) * (2 : Int) ^ (31 - k) % 4294967296) = ((M.atN x k * 2 ^ (31 - k) : Nat) : Int) := by
    have h2 : ((M.atN x k * 2 ^ (31 - k) : Nat) : Int) = (M.atN x k : Int) * (2 : Int) ^ (31 - k) := by simp
    rw [← h2]; clear h2; generalize M.atN x k * 2 ^ (31 - k) = p at hp2 ⊢; omega
  rw [e, u32_or_nat _ _ (Nat.lt_of_le_of_lt (M.keepN_le x k) hx) hp2, M.keepN_or x k h]

theorem lenIn_yes (n : Int) (h0 : 0 ≤ n) (h1 : n ≤ 32) (w : World) : Calls Try.prog 98 #[.int .i64 n] w fun e w' => e = .returned (.bool true) ∧ w = w' := by
  have d0 : decide (0 ≤ n) = true := decide_eq_true h0
  have d1 : decide (n ≤ 32) = true := decide_eq_true h1
  go_enter Try.func98, Try.ntmps98
  go_wp2
  go_ret
  exact ⟨rfl, rfl⟩
theorem lenIn_no (n : Int) (h : n < 0 ∨ 32 < n) (w : World) : Calls Try.prog 98 #[.int .i64 n] w fun e w' => e = .returned (.bool false) ∧ w = w' := by
  rcases h with h | h
  · have h2 : decide (0 ≤ n) = false := by simp; omega
    go_enter Try.func98, Try.ntmps98
    go_wp2
    go_ret
    exact ⟨rfl, rfl⟩
  · have h2 : decide (0 ≤ n) = true := by simp; omega
    have h3 : decide (n ≤ 32) = false := by simp; omega
    go_enter Try.func98, Try.ntmps98
    go_wp2
    go_ret
    exact ⟨rfl, rfl⟩
theorem pkeep_any (x : Nat) (hx : x < 4294967296) (n : Int) (hn : I64 n) (w : World) :
    Calls Try.prog 99 #[.int .u32 x, .int .i64 n] w fun e w' => e = .returned (.int .u32 (M.keepN x (M.lowN n 32) : Nat)) ∧ w = w' := by
  go_enter Try.func99, Try.ntmps99
  go_wp2_with (go_at_call 112; refine (keep_any _ (by omega) _ (by omega) _).mono ?_; rintro e w' ⟨rfl, rfl⟩)
  go_ret
  exact ⟨rfl, rfl⟩

/-- whether address and length make a valid prefix -/
def vld (a : Nat) (n : Int) : Bool := decide (0 ≤ n ∧ n ≤ 32 ∧ M.keepN a (M.lowN n 32) = a)
theorem vld_yes {a : Nat} {n : Int} (h0 : 0 ≤ n) (h1 : n ≤ 32) (h : M.keepN a (M.lowN n 32) = a) : vld a n = true := by unfold vld; simp [h0, h1, h]
theorem vld_no {a : Nat} {n : Int} (h : M.keepN a (M.lowN n 32) ≠ a) : vld a n = false := by unfold vld; simp [h]
theorem vld_out {a : Nat} {n : Int} (h : n < 0 ∨ 32 < n) : vld a n = false := by unfold vld; simp; omega
theorem vld_in {a : Nat} {n : Int} (h : vld a n = true) : 0 ≤ n ∧ n ≤ 32 ∧ M.keepN a (M.lowN n 32) = a := by unfold vld at h; simpa using h
theorem below_box (w : World) (o : Obj) (n : Nat) : Below w.heap.size w ((w.alloc o).drewN n) := below_drewN (below_alloc w o) n
theorem valid_any (a : Nat) (ha : a < 4294967296) (n : Int) (hn : I64 n) (w : World) :
    Calls Try.prog 100 #[.agg #[.int .u32 a, .int .i64 n]] w fun e w' => e = .returned (.bool (vld a n)) ∧ Below w.heap.size w w' := by
  by_cases hr : 0 ≤ n ∧ n ≤ 32
  · have h0 := hr.1; have h1 := hr.2; clear hr
    by_cases hk : M.keepN a (M.lowN n 32) = a
    · have hv := Lib.hid (vld_yes h0 h1 hk)
      have hd : ((M.keepN a (M.lowN n 32) : Int) == (a : Int)) = true := by rw [hk]; simp
      clear hk
      go_enter Try.func100, Try.ntmps100
      go_wp2
      go_quiet ((first | (go_at_call 98; exact Calls.quiet_of_same ((lenIn_yes _ (by omega) (by omega) _).mono fun _ _ h => ⟨h.1, h.2.symm⟩)) | (go_at_call 99; exact Calls.quiet_of_same ((pkeep_any _ (by omega) _ (by omega) _).mono fun _ _ h => ⟨h.1, h.2.symm⟩))))
      go_wp2
      go_ret
      exact ⟨ret_b hv.out.symm, below_box _ _ _⟩
    · have hv := Lib.hid (vld_no (n := n) hk)
      have hd : ((M.keepN a (M.lowN n 32) : Int) == (a : Int)) = false := by simp; omega
      clear hk
      go_enter Try.func100, Try.ntmps100
      go_wp2
      go_quiet ((first | (go_at_call 98; exact Calls.quiet_of_same ((lenIn_yes _ (by omega) (by omega) _).mono fun _ _ h => ⟨h.1, h.2.symm⟩)) | (go_at_call 99; exact Calls.quiet_of_same ((pkeep_any _ (by omega) _ (by omega) _).mono fun _ _ h => ⟨h.1, h.2.symm⟩))))
      go_wp2
      go_ret
      exact ⟨ret_b hv.out.symm, below_box _ _ _⟩
  · have hr' : n < 0 ∨ 32 < n := by omega
    have hv := Lib.hid (vld_out (a := a) hr')
    have hq := Lib.hid hr'
    clear hr hr'
    go_enter Try.func100, Try.ntmps100
    go_wp2
    go_quiet ((first | (go_at_call 98; exact Calls.quiet_of_same ((lenIn_no _ hq.out _).mono fun _ _ h => ⟨h.1, h.2.symm⟩)) | (go_at_call 99; exact Calls.quiet_of_same ((pkeep_any _ (by omega) _ (by omega) _).mono fun _ _ h => ⟨h.1, h.2.symm⟩))))
    go_wp2
    go_ret
    exact ⟨ret_b hv.out.symm, below_box _ _ _⟩
end Go.Proofs.Ytenfcnappjekgaa
