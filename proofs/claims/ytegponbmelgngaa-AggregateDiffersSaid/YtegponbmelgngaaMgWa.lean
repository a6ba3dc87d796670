/-
  The walks of package bits, of its reference and of the functions on prefixes without text: what each call returns, by the plain facts.
  The walks of the functions on prefixes that call others on prefixes: Contains, Covers, Overlap, Compare, Last, Parent, Halves.
  The walks of Covers, Overlap, Compare, Last, Parent, Halves and of their references.
-/
import Derived.Test.YtegponbmelgngaaProg
import Derived.Test.YtegponbmelgngaaMgP
import Derived.WalkKit
import Derived.WalkSpells
import Derived.WalkLawsBesides
import Derived.Lib.Hide
import Derived.Deep.QuietTactic
import Derived.BigQuiet
import Derived.Deep.RegionHeld3
section
namespace Go.Proofs.Ytegponbmelgngaa
open Go.RowKit
theorem ret_i {k : IntKind} {a b : Int} (h : a = b) : Ending.returned (.int k a) = .returned (.int k b) := by rw [h]
theorem val_i {k : IntKind} {a b : Int} (h : a = b) : (Value.int k a) = .int k b := by rw [h]
theorem clamp_any (n : Int) (l : Nat) (hl : l ≤ 64) (hn : I64 n) (w : World) :
    Calls Try.prog 134 #[.int .i64 n, .int .i64 l] w fun e w' => e = .returned (.int .i64 (M.lowN n l : Nat)) ∧ w = w' := by
  have hm : n < 0 → M.lowN n l = 0 := fun h => by unfold M.lowN; omega
  have hm2 : 0 ≤ n → n ≤ l → (M.lowN n l : Int) = n := fun h h2 => by unfold M.lowN; omega
  have hm3 : (l : Int) < n → M.lowN n l = l := fun h => by unfold M.lowN; omega
  rcases (by omega : n < 0 ∨ (0 ≤ n ∧ n ≤ l) ∨ (l : Int) < n) with h | ⟨h, h2⟩ | h
  · have H := Lib.hid (hm h); clear hm hm2 hm3
    go_enter Try.func134, Try.ntmps134
    go_wp2
    go_ret
    exact ⟨ret_i (by rw [H.out]; rfl), rfl⟩
  · have H := Lib.hid (hm2 h h2); clear hm hm2 hm3
    have hx : ¬ n < 0 := by omega
    go_enter Try.func134, Try.ntmps134
    go_wp2
    go_ret
    exact ⟨ret_i H.out.symm, rfl⟩
  · have H := Lib.hid (hm3 h); clear hm hm2 hm3
    have hx : ¬ n < 0 := by omega
    go_enter Try.func134, Try.ntmps134
    go_wp2
    all_goals (go_ret; exact ⟨ret_i (by rw [H.out]), rfl⟩)
theorem low_any (n : Int) (l : Nat) (hl : l ≤ 64) (hn : I64 n) (w : World) :
    Calls Try.prog 110 #[.int .i64 n, .int .i64 l] w fun e w' => e = .returned (.int .i64 (M.lowN n l : Nat)) ∧ w = w' := by
  have hm : n < 0 → M.lowN n l = 0 := fun h => by unfold M.lowN; omega
  have hm2 : 0 ≤ n → n ≤ l → (M.lowN n l : Int) = n := fun h h2 => by unfold M.lowN; omega
  have hm3 : (l : Int) < n → M.lowN n l = l := fun h => by unfold M.lowN; omega
  rcases (by omega : n < 0 ∨ (0 ≤ n ∧ n ≤ l) ∨ (l : Int) < n) with h | ⟨h, h2⟩ | h
  · have H := Lib.hid (hm h); clear hm hm2 hm3
    go_enter Try.func110, Try.ntmps110
    go_wp2
    go_ret
    exact ⟨ret_i (by rw [H.out]; rfl), rfl⟩
  · have H := Lib.hid (hm2 h h2); clear hm hm2 hm3
    have hx : ¬ n < 0 := by omega
    go_enter Try.func110, Try.ntmps110
    go_wp2
    go_ret
    exact ⟨ret_i H.out.symm, rfl⟩
  · have H := Lib.hid (hm3 h); clear hm hm2 hm3
    have hx : ¬ n < 0 := by omega
    go_enter Try.func110, Try.ntmps110
    go_wp2
    all_goals (go_ret; exact ⟨ret_i (by rw [H.out]), rfl⟩)

theorem maskN_shift (k : Nat) (h : k ≤ 32) : (4294967295 * 2 ^ (32 - k) % 4294967296 : Int) = (M.maskN k : Nat) := by
  have e : 4294967296 = 2 ^ (32 - k) * 2 ^ k := by
    rw [← Nat.pow_add]; have : 32 - k + k = 32 := by omega
    rw [this]
  have hp : 0 < 2 ^ (32 - k) := Nat.pow_pos (by omega)
  have hle := M.pow_le32 (k := 32 - k) (by omega)
  have hn : 4294967295 * 2 ^ (32 - k) % 4294967296 = M.maskN k := by
    unfold M.maskN
    have e2 : 4294967295 * 2 ^ (32 - k) = (4294967296 - 2 ^ (32 - k)) + 4294967296 * (2 ^ (32 - k) - 1) := by
      generalize 2 ^ (32 - k) = p at *; omega
    rw [e2, Nat.add_mul_mod_self_left, Nat.mod_eq_of_lt (by omega)]
  rw [← hn]; simp
theorem mask_any (n : Int) (hn : I64 n) (w : World) :
    Calls Try.prog 100 #[.int .i64 n] w fun e w' => e = .returned (.int .u32 (M.maskN (M.lowN n 32) : Nat)) ∧ w = w' := by
  have hl := M.lowN_le n 32
  go_enter Try.func100, Try.ntmps100
  go_wp2_with (go_at_call 134; refine (clamp_any _ 32 (by omega) (by omega) _).mono ?_; rintro e w' ⟨rfl, rfl⟩)
  go_ret
  exact ⟨ret_i (maskN_shift _ hl), rfl⟩
theorem keep_any (x : Nat) (hx : x < 4294967296) (n : Int) (hn : I64 n) (w : World) :
    Calls Try.prog 135 #[.int .u32 x, .int .i64 n] w fun e w' => e = .returned (.int .u32 (M.keepN x (M.lowN n 32) : Nat)) ∧ w = w' := by
  have hl := M.lowN_le n 32
  go_enter Try.func135, Try.ntmps135
  go_wp2_with (go_at_call 100; refine (mask_any _ (by omega) _).mono ?_; rintro e w' ⟨rfl, rfl⟩)
  go_ret
  exact ⟨ret_i (by rw [u32_and_nat x _ hx (M.maskN_lt _), M.and_maskN x _ hx hl]), rfl⟩

theorem at_bits (x : Nat) (hx : x < 4294967296) (n : Int) (h0 : 0 ≤ n) (h1 : n ≤ 31) : wrap64 (bits BinOp.and IntKind.u32 (↑x / 2 ^ (31 - n).toNat) 1) = (M.atN x n.toNat : Nat) := by
  have e : ((x : Int) / 2 ^ (31 - n).toNat) = ((x / 2 ^ (31 - n.toNat) : Nat) : Int) := by
    have : (31 - n).toNat = 31 - n.toNat := by omega
    rw [this]; simp
  rw [e]
  have hlt : x / 2 ^ (31 - n.toNat) < 4294967296 := Nat.lt_of_le_of_lt (Nat.div_le_self _ _) hx
  rw [show (1 : Int) = ((1 : Nat) : Int) from rfl, u32_and_nat _ 1 hlt (by omega), nat_mask1]
  have := M.atN_le x n.toNat
  unfold M.atN at this ⊢
  exact IntWalk.wrap64_in _ ⟨by omega, by omega⟩
theorem rat_in (x : Nat) (hx : x < 4294967296) (n : Int) (h0 : 0 ≤ n) (h1 : n ≤ 31) (w : World) :
    Calls Try.prog 111 #[.int .u32 x, .int .i64 n] w fun e w' => e = .returned (.int .i64 (M.atN x n.toNat : Nat)) ∧ w = w' := by
  go_enter Try.func111, Try.ntmps111
  go_wp2
  go_ret
  exact ⟨ret_i (at_bits x hx n h0 h1), rfl⟩
theorem rat_any (x : Nat) (hx : x < 4294967296) (n : Int) (hn : I64 n) (w : World) :
    Calls Try.prog 111 #[.int .u32 x, .int .i64 n] w fun e w' => e = .returned (.int .i64 (atZ x n : Nat)) ∧ w = w' := by
  unfold atZ
  by_cases h : 0 ≤ n ∧ n ≤ 31
  · rw [if_pos h]; exact rat_in x hx n h.1 h.2 w
  · rw [if_neg h]
    rcases (by omega : n < 0 ∨ 31 < n) with h' | h' <;> clear h
    · go_enter Try.func111, Try.ntmps111
      go_wp2
      go_ret
      exact ⟨rfl, rfl⟩
    · have h2 : ¬ n < 0 := by omega
      go_enter Try.func111, Try.ntmps111
      go_wp2
      go_ret
      exact ⟨rfl, rfl⟩

theorem or_mask (k : Nat) (h : k < 32) : bits BinOp.or IntKind.u32 (↑(M.maskN k)) (2 ^ (31 - k) % 4294967296) = (M.maskN (k + 1) : Nat) := by
  have hp : 2 ^ (31 - k) < 4294967296 := by
    have := Nat.pow_lt_pow_right (a := 2) (by omega) (show 31 - k < 32 by omega); simpa using this
  have e : ((2 : Int) ^ (31 - k) % 4294967296) = ((2 ^ (31 - k) : Nat) : Int) := by
    have h2 : ((2 ^ (31 - k) : Nat) : Int) = (2 : Int) ^ (31 - k) := by simp
    rw [← h2]; clear h2; generalize 2 ^ (31 - k) = p at hp ⊢; omega
  rw [e, u32_or_nat _ _ (M.maskN_lt _) hp, M.maskN_or k h]
theorem or_keep (x k : Nat) (hx : x < 4294967296) (h : k < 32) : bits BinOp.or IntKind.u32 (↑(M.keepN x k)) (↑(M.atN x k) * 2 ^ (31 - k) % 4294967296) = (M.keepN x (k + 1) : Nat) := by
  have hp : 2 ^ (31 - k) < 4294967296 := by
    have := Nat.pow_lt_pow_right (a := 2) (by omega) (show 31 - k < 32 by omega); simpa using this
  have hp2 : M.atN x k * 2 ^ (31 - k) < 4294967296 := by
    have := Nat.mul_le_mul_right (2 ^ (31 - k)) (M.atN_le x k); omega
  have e : ((M.atN x k : Int) * (2 : Int) ^ (31 - k) % 4294967296) = ((M.atN x k * 2 ^ (31 - k) : Nat) : Int) := by
    have h2 : ((M.atN x k * 2 ^ (31 - k) : Nat) : Int) = (M.atN x k : Int) * (2 : Int) ^ (31 - k) := by simp
    rw [← h2]; clear h2; generalize M.atN x k * 2 ^ (31 - k) = p at hp2 ⊢; omega
  rw [e, u32_or_nat _ _ (Nat.lt_of_le_of_lt (M.keepN_le x k) hx) hp2, M.keepN_or x k h]

theorem rkeep_any (x : Nat) (hx : x < 4294967296) (n : Int) (hn : I64 n) (w : World) :
    Calls Try.prog 79 #[.int .u32 x, .int .i64 n] w fun e w' => e = .returned (.int .u32 (M.keepN x (M.lowN n 32) : Nat)) ∧ w = w' := by
  have hl := M.lowN_le n 32
  go_enter Try.func79, Try.ntmps79
  go_wp2_with (go_at_call 110; refine (low_any _ 32 (by omega) (by omega) _).mono ?_; rintro e w' ⟨rfl, rfl⟩)
  have h0 := Lib.hid (M.keepN_zero x hx)
  go_loop [5, 9] (fun y i => ∃ k : Nat, k ≤ M.lowN n 32 ∧ i = .int .i64 k ∧ y = .int .u32 (M.keepN x k : Nat)) (fun _ i => 32 - (intOf i).toNat)
  case atStart => exact ⟨0, Nat.zero_le _, rfl, by rw [h0.out]; rfl⟩
  case round =>
    obtain ⟨k, hk, rfl, rfl⟩ := hrel
    have hb := M.atN_le x k
    by_cases hlt : k < M.lowN n 32
    · go_wp2_with (go_at_call 111; refine (rat_in x hx _ (by omega) (by omega) _).mono ?_; rintro e w' ⟨rfl, rfl⟩)
      go_round
      case rel => exact ⟨k + 1, by omega, by go_num, val_i (or_keep x k hx (by omega))⟩
      case measure => simp [intOf]; omega
    · have he : k = M.lowN n 32 := by omega
      go_wp2
      go_ret
      exact ⟨rfl, rfl⟩


theorem lenIn_yes (n : Int) (h0 : 0 ≤ n) (h1 : n ≤ 32) (w : World) : Calls Try.prog 101 #[.int .i64 n] w fun e w' => e = .returned (.bool true) ∧ w = w' := by
  have d0 : decide (0 ≤ n) = true := decide_eq_true h0
  have d1 : decide (n ≤ 32) = true := decide_eq_true h1
  go_enter Try.func101, Try.ntmps101
  go_wp2
  go_ret
  exact ⟨rfl, rfl⟩
theorem lenIn_no (n : Int) (h : n < 0 ∨ 32 < n) (w : World) : Calls Try.prog 101 #[.int .i64 n] w fun e w' => e = .returned (.bool false) ∧ w = w' := by
  rcases h with h | h
  · have h2 : decide (0 ≤ n) = false := by simp; omega
    go_enter Try.func101, Try.ntmps101
    go_wp2
    go_ret
    exact ⟨rfl, rfl⟩
  · have h2 : decide (0 ≤ n) = true := by simp; omega
    have h3 : decide (n ≤ 32) = false := by simp; omega
    go_enter Try.func101, Try.ntmps101
    go_wp2
    go_ret
    exact ⟨rfl, rfl⟩
theorem pkeep_any (x : Nat) (hx : x < 4294967296) (n : Int) (hn : I64 n) (w : World) :
    Calls Try.prog 102 #[.int .u32 x, .int .i64 n] w fun e w' => e = .returned (.int .u32 (M.keepN x (M.lowN n 32) : Nat)) ∧ w = w' := by
  go_enter Try.func102, Try.ntmps102
  go_wp2_with (go_at_call 135; refine (keep_any _ (by omega) _ (by omega) _).mono ?_; rintro e w' ⟨rfl, rfl⟩)
  go_ret
  exact ⟨rfl, rfl⟩

/-- whether address and length make a valid prefix -/
theorem below_box (w : World) (o : Obj) (n : Nat) : Below w.heap.size w ((w.alloc o).drewN n) := by
  have h := (Below.refl w.heap.size w).alloc (Nat.le_refl _) o
  exact ⟨h.os, h.tape, h.output, h.size, h.block⟩
theorem ret_b {a b : Bool} (h : a = b) : Ending.returned (.bool a) = .returned (.bool b) := by rw [h]

theorem valid_any (a : Nat) (ha : a < 4294967296) (n : Int) (hn : I64 n) (w : World) :
    Calls Try.prog 80 #[.agg #[.int .u32 a, .int .i64 n]] w fun e w' => e = .returned (.bool (vld a n)) ∧ Below w.heap.size w w' := by
  by_cases hr : 0 ≤ n ∧ n ≤ 32
  · have h0 := hr.1; have h1 := hr.2; clear hr
    by_cases hk : M.keepN a (M.lowN n 32) = a
    · have hv := Lib.hid (vld_yes h0 h1 hk)
      have hd : ((M.keepN a (M.lowN n 32) : Int) == (a : Int)) = true := by rw [hk]; simp
      clear hk
      go_enter Try.func80, Try.ntmps80
      go_wp2
      go_quiet ((first | (go_at_call 101; exact Calls.quiet_of_same ((lenIn_yes _ (by omega) (by omega) _).mono fun _ _ h => ⟨h.1, h.2.symm⟩)) | (go_at_call 102; exact Calls.quiet_of_same ((pkeep_any _ (by omega) _ (by omega) _).mono fun _ _ h => ⟨h.1, h.2.symm⟩))))
      go_wp2
      go_ret
      exact ⟨ret_b hv.out.symm, below_box _ _ _⟩
    · have hv := Lib.hid (vld_no (n := n) hk)
      have hd : ((M.keepN a (M.lowN n 32) : Int) == (a : Int)) = false := by simp; omega
      clear hk
      go_enter Try.func80, Try.ntmps80
      go_wp2
      go_quiet ((first | (go_at_call 101; exact Calls.quiet_of_same ((lenIn_yes _ (by omega) (by omega) _).mono fun _ _ h => ⟨h.1, h.2.symm⟩)) | (go_at_call 102; exact Calls.quiet_of_same ((pkeep_any _ (by omega) _ (by omega) _).mono fun _ _ h => ⟨h.1, h.2.symm⟩))))
      go_wp2
      go_ret
      exact ⟨ret_b hv.out.symm, below_box _ _ _⟩
  · have hr' : n < 0 ∨ 32 < n := by omega
    have hv := Lib.hid (vld_out (a := a) hr')
    have hq := Lib.hid hr'
    clear hr hr'
    go_enter Try.func80, Try.ntmps80
    go_wp2
    go_quiet ((first | (go_at_call 101; exact Calls.quiet_of_same ((lenIn_no _ hq.out _).mono fun _ _ h => ⟨h.1, h.2.symm⟩)) | (go_at_call 102; exact Calls.quiet_of_same ((pkeep_any _ (by omega) _ (by omega) _).mono fun _ _ h => ⟨h.1, h.2.symm⟩))))
    go_wp2
    go_ret
    exact ⟨ret_b hv.out.symm, below_box _ _ _⟩
theorem rvalid_any (a : Nat) (ha : a < 4294967296) (n : Int) (hn : I64 n) (w : World) :
    Calls Try.prog 39 #[.agg #[.int .u32 a, .int .i64 n]] w fun e w' => e = .returned (.bool (vld a n)) ∧ Below w.heap.size w w' := by
  by_cases h0 : 0 ≤ n
  · by_cases h1 : n ≤ 32
    · have d0 : decide (0 ≤ n) = true := decide_eq_true h0
      have d1 : decide (n ≤ 32) = true := decide_eq_true h1
      by_cases hk : M.keepN a (M.lowN n 32) = a
      · have hv := Lib.hid (vld_yes h0 h1 hk)
        have hd : ((M.keepN a (M.lowN n 32) : Int) == (a : Int)) = true := by rw [hk]; simp
        clear hk
        go_enter Try.func39, Try.ntmps39
        go_wp2
        go_quiet ((go_at_call 79; exact Calls.quiet_of_same ((rkeep_any _ (by omega) _ (by omega) _).mono fun _ _ h => ⟨h.1, h.2.symm⟩)))
        go_wp2
        go_ret
        exact ⟨ret_b hv.out.symm, below_box _ _ _⟩
      · have hv := Lib.hid (vld_no (n := n) hk)
        have hd : ((M.keepN a (M.lowN n 32) : Int) == (a : Int)) = false := by simp; omega
        clear hk
        go_enter Try.func39, Try.ntmps39
        go_wp2
        go_quiet ((go_at_call 79; exact Calls.quiet_of_same ((rkeep_any _ (by omega) _ (by omega) _).mono fun _ _ h => ⟨h.1, h.2.symm⟩)))
        go_wp2
        go_ret
        exact ⟨ret_b hv.out.symm, below_box _ _ _⟩
    · have d0 : decide (0 ≤ n) = true := decide_eq_true h0
      have d1 : decide (n ≤ 32) = false := decide_eq_false h1
      have hv := Lib.hid (vld_out (a := a) (n := n) (by omega))
      clear h1
      go_enter Try.func39, Try.ntmps39
      go_wp2
      go_quiet (fail)
      go_wp2
      go_ret
      exact ⟨ret_b hv.out.symm, below_box _ _ _⟩
  · have d0 : decide (0 ≤ n) = false := decide_eq_false h0
    have hv := Lib.hid (vld_out (a := a) (n := n) (by omega))
    clear h0
    go_enter Try.func39, Try.ntmps39
    go_wp2
    go_quiet (fail)
    go_wp2
    go_ret
    exact ⟨ret_b hv.out.symm, below_box _ _ _⟩

theorem below_alloc (w : World) (o : Obj) : Below w.heap.size w (w.alloc o) := (Below.refl _ w).alloc (Nat.le_refl _) o
theorem make_yes (a : Nat) (ha : a < 4294967296) (n : Int) (h0 : 0 ≤ n) (h1 : n ≤ 32) (w : World) :
    Calls Try.prog 61 #[.int .u32 a, .int .i64 n] w fun e w' => e = .returned (.tuple #[.agg #[.int .u32 (M.keepN a (M.lowN n 32) : Nat), .int .i64 n], .int .i64 0]) ∧ Below w.heap.size w w' := by
  go_enter Try.func61, Try.ntmps61
  go_wp2_with (first | (go_at_call 101; refine (lenIn_yes _ (by omega) (by omega) _).mono ?_; rintro e w' ⟨rfl, rfl⟩) | (go_at_call 102; refine (pkeep_any _ (by omega) _ (by omega) _).mono ?_; rintro e w' ⟨rfl, rfl⟩))
  exact bodyPost_ret (v := .tuple #[.agg #[.int .u32 (M.keepN a (M.lowN n 32) : Nat), .int .i64 n], .int .i64 0]) (by simp [results, Try.results61, go_sem]) rfl ⟨rfl, below_alloc _ _⟩
theorem make_no (a : Nat) (n : Int) (h : n < 0 ∨ 32 < n) (w : World) :
    Calls Try.prog 61 #[.int .u32 a, .int .i64 n] w fun e w' => e = .returned (.tuple #[.agg #[.int .u32 0, .int .i64 0], .int .i64 5]) ∧ Below w.heap.size w w' := by
  have hq := Lib.hid h; clear h
  go_enter Try.func61, Try.ntmps61
  go_wp2_with (first | (go_at_call 101; refine (lenIn_no _ hq.out _).mono ?_; rintro e w' ⟨rfl, rfl⟩))
  exact bodyPost_ret (v := .tuple #[.agg #[.int .u32 0, .int .i64 0], .int .i64 5]) (by simp [results, Try.results61, go_sem]) rfl ⟨rfl, below_alloc _ _⟩
theorem rmake_any (a : Nat) (ha : a < 4294967296) (n : Int) (hn : I64 n) (w : World) :
    Calls Try.prog 109 #[.int .u32 a, .int .i64 n] w fun e w' => e = .returned (.agg #[.int .u32 (M.keepN a (M.lowN n 32) : Nat), .int .i64 n]) ∧ Below w.heap.size w w' := by
  go_enter Try.func109, Try.ntmps109
  go_wp2_with (first | (go_at_call 79; refine (rkeep_any _ (by omega) _ (by omega) _).mono ?_; rintro e w' ⟨rfl, rfl⟩))
  exact bodyPost_ret (v := .agg #[.int .u32 (M.keepN a (M.lowN n 32) : Nat), .int .i64 n]) (by simp [results, Try.results109, go_sem]) rfl ⟨rfl, below_alloc _ _⟩
end Go.Proofs.Ytegponbmelgngaa
end

section
namespace Go.Proofs.Ytegponbmelgngaa
open Go.RowKit
set_option linter.unusedSimpArgs false
set_option maxHeartbeats 1000000

theorem bcell {W w1 : World} (hb : Below W.heap.size W w1) : (∀ b o, b < W.heap.size → w1.cell? ⟨b, o, none⟩ = W.cell? ⟨b, o, none⟩) ∧ (∀ b o, b < W.heap.size → w1.frozen? ⟨b, o, none⟩ = W.frozen? ⟨b, o, none⟩) :=
  ⟨fun b o h => hb.cell (p := ⟨b, o, none⟩) h, fun b o h => hb.frozen (p := ⟨b, o, none⟩) h⟩
theorem below_drewN {B : Nat} {a w : World} (h : Below B a w) (n : Nat) : Below B a (w.drewN n) := ⟨h.os, h.tape, h.output, h.size, h.block⟩
/-- the world behind a new block of the call's own: what was below is as it was, and the block is there -/
def Boxed (w w' : World) : Prop := Below w.heap.size w w' ∧ w.heap.size < w'.heap.size
theorem boxed_box (w : World) (o : Obj) : Boxed w (w.alloc o).drew := ⟨(below_alloc w o).drew, by simp⟩
theorem boxed_step {w W w1 : World} (h : Boxed w W) (hb : Below W.heap.size W w1) : Boxed w w1 ∧ ∀ o, w1.cell? ⟨w.heap.size, o, none⟩ = W.cell? ⟨w.heap.size, o, none⟩ :=
  ⟨⟨h.1.trans (hb.mono (by have := h.2; omega)), Nat.lt_of_lt_of_le h.2 hb.size⟩, fun o => (bcell hb).1 _ o h.2⟩

theorem boxed_keep {w W w1 : World} {c0 c1 : Value} (h : W.cell? ⟨w.heap.size, 0, none⟩ = some c0 ∧ W.cell? ⟨w.heap.size, 1, none⟩ = some c1 ∧ Boxed w W) (hb : Below W.heap.size W w1) :
    w1.cell? ⟨w.heap.size, 0, none⟩ = some c0 ∧ w1.cell? ⟨w.heap.size, 1, none⟩ = some c1 ∧ Boxed w w1 :=
  ⟨((boxed_step h.2.2 hb).2 0).trans h.1, ((boxed_step h.2.2 hb).2 1).trans h.2.1, (boxed_step h.2.2 hb).1⟩

theorem contains_any (a : Nat) (ha : a < 4294967296) (n : Int) (hn : I64 n) (x : Nat) (hx : x < 4294967296) (w : World) :
    Calls Try.prog 76 #[.agg #[.int .u32 a, .int .i64 n], .int .u32 x] w fun e w' => e = .returned (.bool (con a n x)) ∧ Below w.heap.size w w' := by
  cases hv : vld a n
  · have hc := Lib.hid (con_out (x := x) hv)
    go_enter Try.func76, Try.ntmps76
    go_wp2
    refine wp_region_held_drew (S := fun w' => w'.cell? ⟨w.heap.size, 0, none⟩ = some (.int .u32 a) ∧ w'.cell? ⟨w.heap.size, 1, none⟩ = some (.int .i64 n) ∧ Boxed w w') (by kernel_rfl) ⟨by simp [*], by simp [*], boxed_box _ _⟩ (fun hS0 => ?_)
    refine wpAnyH_take (i := 0) (oi := ⟨some 5, _, _, _, _, _⟩) (v := .agg #[.int .u32 a, .int .i64 n]) rfl (by kernel_rfl) (by kernel_rfl) (by kernel_rfl) (fun _ _ _ h => h) (Or.inl ⟨by rfl, by intro w' hw'; (try dsimp only at hw'); go_simp⟩) hS0 ?_
    simp only [Act.put, List.setIfInBounds_toArray, List.set_cons_zero, List.set_cons_succ]
    refine wpAnyH_ready (rs := [1]) (by kernel_rfl) (by simp) ?_
    refine AllReadyH.cons rfl (fun K hK => ?_) AllReadyH.nil
    go_simp
    go_at_call 80
    refine (valid_any _ (by omega) _ (by omega) _).mono ?_
    rintro e w1 ⟨rfl, hb⟩
    have hk := boxed_keep hS0 hb
    go_wp2_with fail
    refine hK.out _ _ hk (fun _ => ?_)
    clear hK K hb
    (try simp only [Act.put, List.setIfInBounds_toArray, List.set_cons_zero, List.set_cons_succ])
    refine wpAnyH_take (i := 2) (oi := ⟨some 7, _, _, _, _, _⟩) (v := .bool false) rfl (by kernel_rfl) (by kernel_rfl) (by kernel_rfl) (fun _ _ _ h => h) (Or.inl ⟨by rfl, by intro w' hw'; (try dsimp only at hw'); go_simp⟩) hk ?_
    simp only [Act.put, List.setIfInBounds_toArray, List.set_cons_zero, List.set_cons_succ]
    refine wpAnyH_take (i := 3) (oi := ⟨some 8, _, _, _, _, _⟩) (v := undef) rfl (by kernel_rfl) (by kernel_rfl) (by kernel_rfl) (fun _ _ _ h => h) (Or.inr ⟨by rfl, rfl⟩) hk ?_
    refine wpAnyH_take (i := 4) (oi := ⟨some 9, _, _, _, _, _⟩) (v := undef) rfl (by kernel_rfl) (by kernel_rfl) (by kernel_rfl) (fun _ _ _ h => h) (Or.inr ⟨by rfl, rfl⟩) hk ?_
    refine wpAnyH_take (i := 5) (oi := ⟨some 10, _, _, _, _, _⟩) (v := undef) rfl (by kernel_rfl) (by kernel_rfl) (by kernel_rfl) (fun _ _ _ h => h) (Or.inr ⟨by rfl, rfl⟩) hk ?_
    refine wpAnyH_take (i := 6) (oi := ⟨some 11, _, _, _, _, _⟩) (v := undef) rfl (by kernel_rfl) (by kernel_rfl) (by kernel_rfl) (fun _ _ _ h => h) (Or.inr ⟨by rfl, rfl⟩) hk ?_
    refine wpAnyH_take (i := 7) (oi := ⟨some 12, _, _, _, _, _⟩) (v := undef) rfl (by kernel_rfl) (by kernel_rfl) (by kernel_rfl) (fun _ _ _ h => h) (Or.inr ⟨by rfl, rfl⟩) hk ?_
    refine wpAnyH_take (i := 8) (oi := ⟨some 13, _, _, _, _, _⟩) (v := undef) rfl (by kernel_rfl) (by kernel_rfl) (by kernel_rfl) (fun _ _ _ h => h) (Or.inr ⟨by rfl, rfl⟩) hk ?_
    refine wpAnyH_take (i := 9) (oi := ⟨some 14, _, _, _, _, _⟩) (v := undef) rfl (by kernel_rfl) (by kernel_rfl) (by kernel_rfl) (fun _ _ _ h => h) (Or.inr ⟨by rfl, rfl⟩) hk ?_
    simp only [Act.put, List.setIfInBounds_toArray, List.set_cons_zero, List.set_cons_succ]
    refine wpAnyH_take (i := 10) (oi := ⟨some 15, _, _, _, _, _⟩) (v := .bool false) rfl (by kernel_rfl) (by kernel_rfl) (by kernel_rfl) (fun _ _ _ h => h) (Or.inl ⟨by rfl, by intro w' hw'; (try dsimp only at hw'); go_simp⟩) hk ?_
    simp only [Act.put, List.setIfInBounds_toArray, List.set_cons_zero, List.set_cons_succ]
    refine wpAnyH_take (i := 11) (oi := ⟨some 4, _, _, _, _, _⟩) (v := .bool false) rfl (by kernel_rfl) (by kernel_rfl) (by kernel_rfl) (fun _ _ _ h => h) (Or.inl ⟨by rfl, by intro w' hw'; (try dsimp only at hw'); go_simp⟩) hk ?_
    simp only [Act.put, List.setIfInBounds_toArray, List.set_cons_zero, List.set_cons_succ]
    refine wpAnyH_done (by kernel_rfl) ?_ _
    go_wp2
    go_ret
    exact ⟨ret_b hc.out.symm, hk.2.2.1⟩
  · by_cases hk : M.keepN x (M.lowN n 32) = a
    · have hc := Lib.hid (con_yes (x := x) hv hk)
      have hd : ((M.keepN x (M.lowN n 32) : Int) == (a : Int)) = true := by rw [hk]; simp
      clear hk
      go_enter Try.func76, Try.ntmps76
      go_wp2
      go_region_held3 (fun w' => w'.cell? ⟨w.heap.size, 0, none⟩ = some (.int .u32 a) ∧ w'.cell? ⟨w.heap.size, 1, none⟩ = some (.int .i64 n) ∧ Boxed w w')
        (first | exact ⟨by simp [*], by simp [*], boxed_box _ _⟩ | go_keep)
        (first | (go_at_call 80; refine (valid_any _ (by omega) _ (by omega) _).mono ?_; rintro e w1 ⟨rfl, hb⟩; have hk := boxed_keep ‹_› hb; clear hb) | (go_at_call 102; refine (pkeep_any _ (by omega) _ (by omega) _).mono ?_; rintro e w1 ⟨rfl, rfl⟩))
      all_goals go_wp2
      go_ret
      exact ⟨ret_b hc.out.symm, by obtain ⟨_, _, hB⟩ := hk; exact hB.1⟩
    · have hc := Lib.hid (con_no (n := n) hk)
      have hd : ((M.keepN x (M.lowN n 32) : Int) == (a : Int)) = false := by simp; omega
      clear hk
      go_enter Try.func76, Try.ntmps76
      go_wp2
      go_region_held3 (fun w' => w'.cell? ⟨w.heap.size, 0, none⟩ = some (.int .u32 a) ∧ w'.cell? ⟨w.heap.size, 1, none⟩ = some (.int .i64 n) ∧ Boxed w w')
        (first | exact ⟨by simp [*], by simp [*], boxed_box _ _⟩ | go_keep)
        (first | (go_at_call 80; refine (valid_any _ (by omega) _ (by omega) _).mono ?_; rintro e w1 ⟨rfl, hb⟩; have hk := boxed_keep ‹_› hb; clear hb) | (go_at_call 102; refine (pkeep_any _ (by omega) _ (by omega) _).mono ?_; rintro e w1 ⟨rfl, rfl⟩))
      all_goals go_wp2
      go_ret
      exact ⟨ret_b hc.out.symm, by obtain ⟨_, _, hB⟩ := hk; exact hB.1⟩
end Go.Proofs.Ytegponbmelgngaa
end

section
namespace Go.Proofs.Ytegponbmelgngaa
open Go.RowKit
set_option linter.unusedSimpArgs false
set_option maxHeartbeats 1000000
theorem below_then {w W w1 : World} (h : Below w.heap.size w W) (hb : Below W.heap.size W w1) : Below w.heap.size w w1 := h.trans (hb.mono h.size)
theorem below2 (w : World) (o1 o2 : Obj) : Below w.heap.size w ((w.alloc o1).alloc o2) := below_then (below_alloc _ _) (below_alloc _ _)
theorem below3 (w : World) (o1 o2 o3 : Obj) : Below w.heap.size w (((w.alloc o1).alloc o2).alloc o3) := below_then (below2 _ _ _) (below_alloc _ _)

theorem rcontains_any (a : Nat) (ha : a < 4294967296) (n : Int) (hn : I64 n) (x : Nat) (hx : x < 4294967296) (w : World) :
    Calls Try.prog 77 #[.agg #[.int .u32 a, .int .i64 n], .int .u32 x] w fun e w' => e = .returned (.bool (con a n x)) ∧ Below w.heap.size w w' := by
  cases hv : vld a n
  · have hc := Lib.hid (con_out (x := x) hv)
    go_enter Try.func77, Try.ntmps77
    go_wp2
    refine wp_region_held_drew (S := fun w' => w'.cell? ⟨w.heap.size, 0, none⟩ = some (.int .u32 a) ∧ w'.cell? ⟨w.heap.size, 1, none⟩ = some (.int .i64 n) ∧ Boxed w w') (by kernel_rfl) ⟨by simp [*], by simp [*], boxed_box _ _⟩ (fun hS0 => ?_)
    refine wpAnyH_take (i := 0) (oi := ⟨some 5, _, _, _, _, _⟩) (v := .agg #[.int .u32 a, .int .i64 n]) rfl (by kernel_rfl) (by kernel_rfl) (by kernel_rfl) (fun _ _ _ h => h) (Or.inl ⟨by rfl, by intro w' hw'; (try dsimp only at hw'); go_simp⟩) hS0 ?_
    simp only [Act.put, List.setIfInBounds_toArray, List.set_cons_zero, List.set_cons_succ]
    refine wpAnyH_ready (rs := [1]) (by kernel_rfl) (by simp) ?_
    refine AllReadyH.cons rfl (fun K hK => ?_) AllReadyH.nil
    go_simp
    go_at_call 39
    refine (rvalid_any _ (by omega) _ (by omega) _).mono ?_
    rintro e w1 ⟨rfl, hb⟩
    have hk := boxed_keep hS0 hb
    go_wp2_with fail
    refine hK.out _ _ hk (fun _ => ?_)
    clear hK K hb
    (try simp only [Act.put, List.setIfInBounds_toArray, List.set_cons_zero, List.set_cons_succ])
    refine wpAnyH_take (i := 2) (oi := ⟨some 7, _, _, _, _, _⟩) (v := .bool false) rfl (by kernel_rfl) (by kernel_rfl) (by kernel_rfl) (fun _ _ _ h => h) (Or.inl ⟨by rfl, by intro w' hw'; (try dsimp only at hw'); go_simp⟩) hk ?_
    simp only [Act.put, List.setIfInBounds_toArray, List.set_cons_zero, List.set_cons_succ]
    refine wpAnyH_take (i := 3) (oi := ⟨some 8, _, _, _, _, _⟩) (v := undef) rfl (by kernel_rfl) (by kernel_rfl) (by kernel_rfl) (fun _ _ _ h => h) (Or.inr ⟨by rfl, rfl⟩) hk ?_
    refine wpAnyH_take (i := 4) (oi := ⟨some 9, _, _, _, _, _⟩) (v := undef) rfl (by kernel_rfl) (by kernel_rfl) (by kernel_rfl) (fun _ _ _ h => h) (Or.inr ⟨by rfl, rfl⟩) hk ?_
    refine wpAnyH_take (i := 5) (oi := ⟨some 10, _, _, _, _, _⟩) (v := undef) rfl (by kernel_rfl) (by kernel_rfl) (by kernel_rfl) (fun _ _ _ h => h) (Or.inr ⟨by rfl, rfl⟩) hk ?_
    refine wpAnyH_take (i := 6) (oi := ⟨some 11, _, _, _, _, _⟩) (v := undef) rfl (by kernel_rfl) (by kernel_rfl) (by kernel_rfl) (fun _ _ _ h => h) (Or.inr ⟨by rfl, rfl⟩) hk ?_
    refine wpAnyH_take (i := 7) (oi := ⟨some 12, _, _, _, _, _⟩) (v := undef) rfl (by kernel_rfl) (by kernel_rfl) (by kernel_rfl) (fun _ _ _ h => h) (Or.inr ⟨by rfl, rfl⟩) hk ?_
    refine wpAnyH_take (i := 8) (oi := ⟨some 13, _, _, _, _, _⟩) (v := undef) rfl (by kernel_rfl) (by kernel_rfl) (by kernel_rfl) (fun _ _ _ h => h) (Or.inr ⟨by rfl, rfl⟩) hk ?_
    simp only [Act.put, List.setIfInBounds_toArray, List.set_cons_zero, List.set_cons_succ]
    refine wpAnyH_take (i := 9) (oi := ⟨some 14, _, _, _, _, _⟩) (v := .bool false) rfl (by kernel_rfl) (by kernel_rfl) (by kernel_rfl) (fun _ _ _ h => h) (Or.inl ⟨by rfl, by intro w' hw'; (try dsimp only at hw'); go_simp⟩) hk ?_
    simp only [Act.put, List.setIfInBounds_toArray, List.set_cons_zero, List.set_cons_succ]
    refine wpAnyH_take (i := 10) (oi := ⟨some 4, _, _, _, _, _⟩) (v := .bool false) rfl (by kernel_rfl) (by kernel_rfl) (by kernel_rfl) (fun _ _ _ h => h) (Or.inl ⟨by rfl, by intro w' hw'; (try dsimp only at hw'); go_simp⟩) hk ?_
    simp only [Act.put, List.setIfInBounds_toArray, List.set_cons_zero, List.set_cons_succ]
    refine wpAnyH_done (by kernel_rfl) ?_ _
    go_wp2
    go_ret
    exact ⟨ret_b hc.out.symm, hk.2.2.1⟩
  · by_cases hk : M.keepN x (M.lowN n 32) = a
    · have hc := Lib.hid (con_yes (x := x) hv hk)
      have hd : ((M.keepN x (M.lowN n 32) : Int) == (a : Int)) = true := by rw [hk]; simp
      clear hk
      go_enter Try.func77, Try.ntmps77
      go_wp2
      go_region_held3 (fun w' => w'.cell? ⟨w.heap.size, 0, none⟩ = some (.int .u32 a) ∧ w'.cell? ⟨w.heap.size, 1, none⟩ = some (.int .i64 n) ∧ Boxed w w')
        (first | exact ⟨by simp [*], by simp [*], boxed_box _ _⟩ | go_keep)
        (first | (go_at_call 39; refine (rvalid_any _ (by omega) _ (by omega) _).mono ?_; rintro e w1 ⟨rfl, hb⟩; have hk := boxed_keep ‹_› hb; clear hb) | (go_at_call 109; refine (rmake_any _ (by omega) _ (by omega) _).mono ?_; rintro e w1 ⟨rfl, hb⟩; have hk := boxed_keep ‹_› hb; clear hb))
      all_goals go_wp2
      go_ret
      exact ⟨ret_b hc.out.symm, by obtain ⟨_, _, hB⟩ := hk; exact hB.1⟩
    · have hc := Lib.hid (con_no (n := n) hk)
      have hd : ((M.keepN x (M.lowN n 32) : Int) == (a : Int)) = false := by simp; omega
      clear hk
      go_enter Try.func77, Try.ntmps77
      go_wp2
      go_region_held3 (fun w' => w'.cell? ⟨w.heap.size, 0, none⟩ = some (.int .u32 a) ∧ w'.cell? ⟨w.heap.size, 1, none⟩ = some (.int .i64 n) ∧ Boxed w w')
        (first | exact ⟨by simp [*], by simp [*], boxed_box _ _⟩ | go_keep)
        (first | (go_at_call 39; refine (rvalid_any _ (by omega) _ (by omega) _).mono ?_; rintro e w1 ⟨rfl, hb⟩; have hk := boxed_keep ‹_› hb; clear hb) | (go_at_call 109; refine (rmake_any _ (by omega) _ (by omega) _).mono ?_; rintro e w1 ⟨rfl, hb⟩; have hk := boxed_keep ‹_› hb; clear hb))
      all_goals go_wp2
      go_ret
      exact ⟨ret_b hc.out.symm, by obtain ⟨_, _, hB⟩ := hk; exact hB.1⟩

theorem covers_any (a : Nat) (ha : a < 4294967296) (n : Int) (hn : I64 n) (b : Nat) (hb : b < 4294967296) (m : Int) (hm : I64 m) (w : World) :
    Calls Try.prog 137 #[.agg #[.int .u32 a, .int .i64 n], .agg #[.int .u32 b, .int .i64 m]] w fun e w' => e = .returned (.bool (cov a n b m)) ∧ Below w.heap.size w w' := by
  cases hv : vld b m
  · have hc := Lib.hid (cov_out (a := a) (n := n) hv)
    go_enter Try.func137, Try.ntmps137
    go_wp2_with fail
    go_at_call 80
    refine (valid_any _ (by omega) _ (by omega) _).mono ?_
    rintro e w1 ⟨rfl, h1⟩
    obtain ⟨hc1, hf1⟩ := bcell h1
    go_wp2_with fail
    go_ret
    exact ⟨ret_b hc.out.symm, below_then (below2 _ _ _) h1⟩
  · by_cases hle : n ≤ m
    · have hc := Lib.hid (cov_in (a := a) (n := n) hv hle)
      have hd : decide (n ≤ m) = true := decide_eq_true hle
      go_enter Try.func137, Try.ntmps137
      go_wp2_with fail
      go_at_call 80
      refine (valid_any _ (by omega) _ (by omega) _).mono ?_
      rintro e w1 ⟨rfl, h1⟩
      obtain ⟨hc1, hf1⟩ := bcell h1
      go_wp2_with fail
      go_at_call 76
      refine (contains_any _ (by omega) _ (by omega) _ (by omega) _).mono ?_
      rintro e w2 ⟨rfl, h2⟩
      go_wp2_with fail
      go_ret
      exact ⟨ret_b hc.out.symm, below_then (below_then (below2 _ _ _) h1) h2⟩
    · have hc := Lib.hid (cov_gt (a := a) (b := b) hle)
      have hd : decide (n ≤ m) = false := decide_eq_false hle
      go_enter Try.func137, Try.ntmps137
      go_wp2_with fail
      go_at_call 80
      refine (valid_any _ (by omega) _ (by omega) _).mono ?_
      rintro e w1 ⟨rfl, h1⟩
      obtain ⟨hc1, hf1⟩ := bcell h1
      go_wp2_with fail
      go_ret
      exact ⟨ret_b hc.out.symm, below_then (below2 _ _ _) h1⟩
theorem rcovers_any (a : Nat) (ha : a < 4294967296) (n : Int) (hn : I64 n) (b : Nat) (hb : b < 4294967296) (m : Int) (hm : I64 m) (w : World) :
    Calls Try.prog 40 #[.agg #[.int .u32 a, .int .i64 n], .agg #[.int .u32 b, .int .i64 m]] w fun e w' => e = .returned (.bool (cov a n b m)) ∧ Below w.heap.size w w' := by
  cases hv : vld b m
  · have hc := Lib.hid (cov_out (a := a) (n := n) hv)
    go_enter Try.func40, Try.ntmps40
    go_wp2_with fail
    go_at_call 39
    refine (rvalid_any _ (by omega) _ (by omega) _).mono ?_
    rintro e w1 ⟨rfl, h1⟩
    obtain ⟨hc1, hf1⟩ := bcell h1
    go_wp2_with fail
    go_ret
    exact ⟨ret_b hc.out.symm, below_then (below2 _ _ _) h1⟩
  · cases hcn : con a n b
    · have hc := Lib.hid (cov_con (m := m) hcn)
      go_enter Try.func40, Try.ntmps40
      go_wp2_with fail
      go_at_call 39
      refine (rvalid_any _ (by omega) _ (by omega) _).mono ?_
      rintro e w1 ⟨rfl, h1⟩
      obtain ⟨hc1, hf1⟩ := bcell h1
      go_wp2_with fail
      go_at_call 77
      refine (rcontains_any _ (by omega) _ (by omega) _ (by omega) _).mono ?_
      rintro e w2 ⟨rfl, h2⟩
      go_wp2_with fail
      go_ret
      exact ⟨ret_b hc.out.symm, below_then (below_then (below2 _ _ _) h1) h2⟩
    · have hc := Lib.hid (show cov a n b m = decide (n ≤ m) by unfold cov; simp [hv, hcn])
      go_enter Try.func40, Try.ntmps40
      go_wp2_with fail
      go_at_call 39
      refine (rvalid_any _ (by omega) _ (by omega) _).mono ?_
      rintro e w1 ⟨rfl, h1⟩
      obtain ⟨hc1, hf1⟩ := bcell h1
      go_wp2_with fail
      go_at_call 77
      refine (rcontains_any _ (by omega) _ (by omega) _ (by omega) _).mono ?_
      rintro e w2 ⟨rfl, h2⟩
      have hz1 : w.heap.size + 1 < w1.heap.size := by have := h1.size; simp at this; omega
      have hz0 : w.heap.size < w1.heap.size := by omega
      obtain ⟨hc2, hf2⟩ := bcell h2
      go_wp2_with fail
      go_ret
      exact ⟨ret_b hc.out.symm, below_then (below_then (below2 _ _ _) h1) h2⟩
end Go.Proofs.Ytegponbmelgngaa
end
