/-
  The walks of Compare, Last, Parent, Halves and of their references.
  The walks of Compare and Halves and of their references.
  The walks of Compare and of its reference.
  The walks of bits.At, bits.Lead and bits.Common.
-/
import Derived.Test.YtegponbmelgngaaMgWa
import Derived.Laws.ResultCell
section
namespace Go.Proofs.Ytegponbmelgngaa
open Go.RowKit
set_option linter.unusedSimpArgs false
set_option maxHeartbeats 1000000

theorem setCell_below {w W : World} (h : Below w.heap.size w W) {p : Addr} (hp : w.heap.size ≤ p.block) (u : Value) : Below w.heap.size w (W.setCell p u) := h.setCell hp u

/- Last -/
def lastN (a : Nat) (n : Int) : Nat := a ||| (4294967295 - M.maskN (M.lowN n 32))
theorem xor_full (m : Nat) (hm : m < 4294967296) : 4294967295 ^^^ m = 4294967295 - m := by
  apply Nat.eq_of_testBit_eq
  intro j
  have e : 4294967295 - m = 2 ^ 32 - (m + 1) := by simp only [show (2 : Nat) ^ 32 = 4294967296 by decide]; omega
  rw [Nat.testBit_xor, e, Nat.testBit_two_pow_sub_succ (by simpa using hm), show 4294967295 = 2 ^ 32 - 1 by decide, Nat.testBit_two_pow_sub_one]
  by_cases h : j < 32
  · simp [h]
  · have : m.testBit j = false := Nat.testBit_lt_two_pow (Nat.lt_of_lt_of_le hm (by
      have := Nat.pow_le_pow_right (n := 2) (by omega) (show 32 ≤ j by omega); simpa using this))
    simp [h, this]
theorem or_last (a : Nat) (ha : a < 4294967296) (m : Nat) (hm : m < 4294967296) : bits BinOp.or IntKind.u32 (↑a) (4294967295 - ↑m) = ((a ||| (4294967295 - m) : Nat) : Int) := by
  rw [show (4294967295 - (m : Int)) = ((4294967295 - m : Nat) : Int) by omega, u32_or_nat _ _ ha (by omega)]
theorem xor_last (m : Nat) (hm : m < 4294967296) : bits BinOp.xor IntKind.u32 IntKind.u32.max ↑m = 4294967295 - (m : Int) := by
  rw [show IntKind.u32.max = ((4294967295 : Nat) : Int) by decide, u32_xor_nat _ _ (by omega) hm, xor_full m hm]; omega
theorem last_yes (a : Nat) (ha : a < 4294967296) (n : Int) (hn : I64 n) (w : World) (hv : vld a n = true) :
    Calls Try.prog 60 #[.agg #[.int .u32 a, .int .i64 n]] w fun e w' => e = .returned (.int .u32 (lastN a n : Nat)) ∧ Below w.heap.size w w' := by
  have hm := M.maskN_lt (M.lowN n 32)
  go_enter Try.func60, Try.ntmps60
  go_wp2_with fail
  go_at_call 80
  refine (valid_any _ (by omega) _ (by omega) _).mono ?_
  rintro e w1 ⟨rfl, h1⟩
  obtain ⟨hc1, hf1⟩ := bcell h1
  go_wp2_with fail
  go_quiet ((go_at_call 100; exact Calls.quiet_of_same ((mask_any _ (by omega) _).mono fun _ _ h => ⟨h.1, h.2.symm⟩)))
  go_wp2
  go_ret
  exact ⟨ret_i (by rw [xor_last _ hm, or_last a ha _ hm]; rfl), below_drewN (below_then (below_alloc _ _) h1) _⟩
theorem last_no (a : Nat) (ha : a < 4294967296) (n : Int) (hn : I64 n) (w : World) (hv : vld a n = false) :
    Calls Try.prog 60 #[.agg #[.int .u32 a, .int .i64 n]] w fun e w' => e = .returned (.int .u32 0) ∧ Below w.heap.size w w' := by
  go_enter Try.func60, Try.ntmps60
  go_wp2_with fail
  go_at_call 80
  refine (valid_any _ (by omega) _ (by omega) _).mono ?_
  rintro e w1 ⟨rfl, h1⟩
  go_wp2_with fail
  go_ret
  exact ⟨rfl, below_then (below_alloc _ _) h1⟩
theorem rparent_yes (a : Nat) (ha : a < 4294967296) (n : Int) (hn : I64 n) (w : World) (hv : vld a n = true) (h0 : 1 ≤ n) :
    Calls Try.prog 78 #[.agg #[.int .u32 a, .int .i64 n]] w fun e w' => e = .returned (.tuple #[.agg #[.int .u32 (M.keepN a (M.lowN (n - 1) 32) : Nat), .int .i64 (n - 1)], .bool true]) ∧ Below w.heap.size w w' := by
  have hd : ((n : Int) == 0) = false := by simp; omega
  go_enter Try.func78, Try.ntmps78
  go_wp2_with fail
  go_at_call 39
  refine (rvalid_any _ (by omega) _ (by omega) _).mono ?_
  rintro e w1 ⟨rfl, h1⟩
  obtain ⟨hc1, hf1⟩ := bcell h1
  have hz1 : w.heap.size + 1 < w1.heap.size := by have := h1.size; simp at this; omega
  go_wp2_with fail
  go_at_call 109
  refine (rmake_any _ (by omega) _ (by omega) _).mono ?_
  rintro e w2 ⟨rfl, h2⟩
  obtain ⟨hc2, hf2⟩ := bcell h2
  go_wp2_with fail
  exact bodyPost_ret (v := .tuple #[.agg #[.int .u32 (M.keepN a (M.lowN (n - 1) 32) : Nat), .int .i64 (n - 1)], .bool true]) (by simp [results, Try.results78, go_sem, hc1, hc2, hz1]) rfl
    ⟨rfl, (((below_then (below_then (below2 _ _ _) h1) h2).setCell (by simp) _).setCell (by simp) _)⟩
theorem rparent_no (a : Nat) (ha : a < 4294967296) (n : Int) (hn : I64 n) (w : World) (hv : vld a n = false ∨ n = 0) :
    Calls Try.prog 78 #[.agg #[.int .u32 a, .int .i64 n]] w fun e w' => e = .returned (.tuple #[.agg #[.int .u32 0, .int .i64 0], .bool false]) ∧ Below w.heap.size w w' := by
  cases h : vld a n
  · clear hv
    go_enter Try.func78, Try.ntmps78
    go_wp2_with fail
    go_at_call 39
    refine (rvalid_any _ (by omega) _ (by omega) _).mono ?_
    rintro e w1 ⟨rfl, h1⟩
    obtain ⟨hc1, hf1⟩ := bcell h1
    go_wp2_with fail
    exact bodyPost_ret (v := .tuple #[.agg #[.int .u32 0, .int .i64 0], .bool false]) (by simp [results, Try.results78, go_sem, hc1]) rfl
      ⟨rfl, (((below_then (below2 _ _ _) h1).setCell (by simp) _).setCell (by simp) _)⟩
  · obtain rfl : n = 0 := by
      rcases hv with hv | hv
      · rw [h] at hv; cases hv
      · exact hv
    go_enter Try.func78, Try.ntmps78
    go_wp2_with fail
    go_at_call 39
    refine (rvalid_any _ (by omega) _ (by omega) _).mono ?_
    rintro e w1 ⟨rfl, h1⟩
    obtain ⟨hc1, hf1⟩ := bcell h1
    go_wp2_with fail
    exact bodyPost_ret (v := .tuple #[.agg #[.int .u32 0, .int .i64 0], .bool false]) (by simp [results, Try.results78, go_sem, hc1]) rfl
      ⟨rfl, (((below_then (below2 _ _ _) h1).setCell (by simp) _).setCell (by simp) _)⟩
end Go.Proofs.Ytegponbmelgngaa
end

section
namespace Go.Proofs.Ytegponbmelgngaa
open Go.RowKit
set_option linter.unusedSimpArgs false
set_option maxHeartbeats 1000000

/- Halves -/
def midN (a : Nat) (n : Int) : Nat := a ||| 2 ^ (31 - n.toNat)
theorem pow_lt32 (k : Nat) (h : k < 32) : 2 ^ k < 4294967296 := by
  have := Nat.pow_lt_pow_right (a := 2) (by omega) h; simpa using this
theorem or_mid (a : Nat) (ha : a < 4294967296) (n : Int) (h0 : 0 ≤ n) (h31 : n ≤ 31) : bits BinOp.or IntKind.u32 (↑a) (2 ^ (31 - n).toNat % 4294967296) = (midN a n : Nat) := by
  have hp := pow_lt32 (31 - n.toNat) (by omega)
  have e : ((2 : Int) ^ (31 - n).toNat % 4294967296) = ((2 ^ (31 - n.toNat) : Nat) : Int) := by
    have h2 : ((2 ^ (31 - n.toNat) : Nat) : Int) = (2 : Int) ^ (31 - n).toNat := by
      rw [show (31 - n).toNat = 31 - n.toNat by omega]; simp
    rw [← h2]; clear h2; generalize 2 ^ (31 - n.toNat) = p at hp ⊢; omega
  rw [e, u32_or_nat _ _ ha hp]; rfl
theorem midN_lt (a : Nat) (ha : a < 4294967296) (n : Int) : midN a n < 4294967296 := Nat.or_lt_two_pow (n := 32) ha (pow_lt32 _ (by omega))
theorem halves_yes (a : Nat) (ha : a < 4294967296) (n : Int) (hn : I64 n) (w : World) (hv : vld a n = true) (h0 : 0 ≤ n) (h31 : n ≤ 31) :
    Calls Try.prog 73 #[.agg #[.int .u32 a, .int .i64 n]] w fun e w' => e = .returned (.tuple #[.agg #[.int .u32 a, .int .i64 (n + 1)], .agg #[.int .u32 (midN a n : Nat), .int .i64 (n + 1)], .bool true]) ∧ Below w.heap.size w w' := by
  have hd : ((n : Int) == 32) = false := by simp; omega
  have hmid := Lib.hid (or_mid a ha n h0 h31)
  go_enter Try.func73, Try.ntmps73
  go_wp2_with fail
  go_at_call 80
  refine (valid_any _ (by omega) _ (by omega) _).mono ?_
  rintro e w1 ⟨rfl, h1⟩
  obtain ⟨hc1, hf1⟩ := bcell h1
  go_wp2_with fail
  go_quiet (fail)
  go_wp2
  go_region
  go_wp2
  refine bodyPost_ret (v := .tuple #[.agg #[.int .u32 a, .int .i64 (n + 1)], .agg #[.int .u32 (bits BinOp.or IntKind.u32 (↑a) (2 ^ (31 - n).toNat % 4294967296)), .int .i64 (n + 1)], .bool true]) (by simp [results, Try.results73, go_sem, hc1]) rfl
    ⟨by rw [hmid.out], ((((below_drewN (below_then (below3 _ _ _ _) h1) _).setCell (by simp) _).setCell (by simp) _).setCell (by simp; omega) _).setCell (by simp; omega) _⟩
theorem halves_no (a : Nat) (ha : a < 4294967296) (n : Int) (hn : I64 n) (w : World) (hv : vld a n = false ∨ n = 32) :
    Calls Try.prog 73 #[.agg #[.int .u32 a, .int .i64 n]] w fun e w' => e = .returned (.tuple #[.agg #[.int .u32 0, .int .i64 0], .agg #[.int .u32 0, .int .i64 0], .bool false]) ∧ Below w.heap.size w w' := by
  cases h : vld a n
  · clear hv
    go_enter Try.func73, Try.ntmps73
    go_wp2_with fail
    go_at_call 80
    refine (valid_any _ (by omega) _ (by omega) _).mono ?_
    rintro e w1 ⟨rfl, h1⟩
    obtain ⟨hc1, hf1⟩ := bcell h1
    go_wp2_with fail
    exact bodyPost_ret (v := .tuple #[.agg #[.int .u32 0, .int .i64 0], .agg #[.int .u32 0, .int .i64 0], .bool false]) (by simp [results, Try.results73, go_sem, hc1]) rfl
      ⟨rfl, ((((below_then (below3 _ _ _ _) h1).setCell (by simp) _).setCell (by simp) _).setCell (by simp; omega) _).setCell (by simp; omega) _⟩
  · obtain rfl : n = 32 := by
      rcases hv with hv | hv
      · rw [h] at hv; cases hv
      · exact hv
    go_enter Try.func73, Try.ntmps73
    go_wp2_with fail
    go_at_call 80
    refine (valid_any _ (by omega) _ (by omega) _).mono ?_
    rintro e w1 ⟨rfl, h1⟩
    obtain ⟨hc1, hf1⟩ := bcell h1
    go_wp2_with fail
    exact bodyPost_ret (v := .tuple #[.agg #[.int .u32 0, .int .i64 0], .agg #[.int .u32 0, .int .i64 0], .bool false]) (by simp [results, Try.results73, go_sem, hc1]) rfl
      ⟨rfl, ((((below_then (below3 _ _ _ _) h1).setCell (by simp) _).setCell (by simp) _).setCell (by simp; omega) _).setCell (by simp; omega) _⟩
theorem rhalves_yes (a : Nat) (ha : a < 4294967296) (n : Int) (hn : I64 n) (w : World) (hv : vld a n = true) (h0 : 0 ≤ n) (h31 : n ≤ 31) :
    Calls Try.prog 38 #[.agg #[.int .u32 a, .int .i64 n]] w fun e w' => e = .returned (.tuple #[.agg #[.int .u32 a, .int .i64 (n + 1)], .agg #[.int .u32 (midN a n : Nat), .int .i64 (n + 1)], .bool true]) ∧ Below w.heap.size w w' := by
  have hd : ((n : Int) == 32) = false := by simp; omega
  have hmid := Lib.hid (or_mid a ha n h0 h31)
  go_enter Try.func38, Try.ntmps38
  go_wp2_with fail
  go_at_call 39
  refine (rvalid_any _ (by omega) _ (by omega) _).mono ?_
  rintro e w1 ⟨rfl, h1⟩
  obtain ⟨hc1, hf1⟩ := bcell h1
  go_wp2_with fail
  go_region
  go_wp2
  refine bodyPost_ret (v := .tuple #[.agg #[.int .u32 a, .int .i64 (n + 1)], .agg #[.int .u32 (bits BinOp.or IntKind.u32 (↑a) (2 ^ (31 - n).toNat % 4294967296)), .int .i64 (n + 1)], .bool true]) (by simp [results, Try.results38, go_sem, hc1]) rfl
    ⟨by rw [hmid.out], ((((below_drewN (below_then (below3 _ _ _ _) h1) _).setCell (by simp) _).setCell (by simp) _).setCell (by simp; omega) _).setCell (by simp; omega) _⟩
theorem rhalves_no (a : Nat) (ha : a < 4294967296) (n : Int) (hn : I64 n) (w : World) (hv : vld a n = false ∨ n = 32) :
    Calls Try.prog 38 #[.agg #[.int .u32 a, .int .i64 n]] w fun e w' => e = .returned (.tuple #[.agg #[.int .u32 0, .int .i64 0], .agg #[.int .u32 0, .int .i64 0], .bool false]) ∧ Below w.heap.size w w' := by
  cases h : vld a n
  · clear hv
    go_enter Try.func38, Try.ntmps38
    go_wp2_with fail
    go_at_call 39
    refine (rvalid_any _ (by omega) _ (by omega) _).mono ?_
    rintro e w1 ⟨rfl, h1⟩
    obtain ⟨hc1, hf1⟩ := bcell h1
    go_wp2_with fail
    exact bodyPost_ret (v := .tuple #[.agg #[.int .u32 0, .int .i64 0], .agg #[.int .u32 0, .int .i64 0], .bool false]) (by simp [results, Try.results38, go_sem, hc1]) rfl
      ⟨rfl, ((((below_then (below3 _ _ _ _) h1).setCell (by simp) _).setCell (by simp) _).setCell (by simp; omega) _).setCell (by simp; omega) _⟩
  · obtain rfl : n = 32 := by
      rcases hv with hv | hv
      · rw [h] at hv; cases hv
      · exact hv
    go_enter Try.func38, Try.ntmps38
    go_wp2_with fail
    go_at_call 39
    refine (rvalid_any _ (by omega) _ (by omega) _).mono ?_
    rintro e w1 ⟨rfl, h1⟩
    obtain ⟨hc1, hf1⟩ := bcell h1
    go_wp2_with fail
    exact bodyPost_ret (v := .tuple #[.agg #[.int .u32 0, .int .i64 0], .agg #[.int .u32 0, .int .i64 0], .bool false]) (by simp [results, Try.results38, go_sem, hc1]) rfl
      ⟨rfl, ((((below_then (below3 _ _ _ _) h1).setCell (by simp) _).setCell (by simp) _).setCell (by simp; omega) _).setCell (by simp; omega) _⟩
end Go.Proofs.Ytegponbmelgngaa
end

section
namespace Go.Proofs.Ytegponbmelgngaa
open Go.RowKit
set_option linter.unusedSimpArgs false
set_option maxHeartbeats 1000000

def cmpI (x y : Int) : Int := if x < y then -1 else if y < x then 1 else 0
theorem cmpI_lt {x y : Int} (h : x < y) : cmpI x y = -1 := by unfold cmpI; rw [if_pos h]
theorem cmpI_gt {x y : Int} (h : y < x) : cmpI x y = 1 := by unfold cmpI; rw [if_neg (by omega), if_pos h]
theorem cmpI_eq (x : Int) : cmpI x x = 0 := by unfold cmpI; rw [if_neg (by omega), if_neg (by omega)]
theorem cmpA_any (x y : Int) (w : World) : Calls Try.prog 117 #[.int .u32 x, .int .u32 y] w fun e w' => e = .returned (.int .i64 (cmpI x y)) ∧ w = w' := by
  rcases (by omega : x < y ∨ y < x ∨ x = y) with h | h | h
  · have H := Lib.hid (cmpI_lt h)
    go_enter Try.func117, Try.ntmps117
    go_wp2
    all_goals (go_ret; exact ⟨ret_i H.out.symm, rfl⟩)
  · have H := Lib.hid (cmpI_gt h)
    have hx : ¬ x < y := by omega
    go_enter Try.func117, Try.ntmps117
    go_wp2
    all_goals (go_ret; exact ⟨ret_i H.out.symm, rfl⟩)
  · subst h
    have H := Lib.hid (cmpI_eq x)
    go_enter Try.func117, Try.ntmps117
    go_wp2
    all_goals (go_ret; exact ⟨ret_i H.out.symm, rfl⟩)
theorem cmpL_any (x y : Int) (w : World) : Calls Try.prog 118 #[.int .i64 x, .int .i64 y] w fun e w' => e = .returned (.int .i64 (cmpI x y)) ∧ w = w' := by
  rcases (by omega : x < y ∨ y < x ∨ x = y) with h | h | h
  · have H := Lib.hid (cmpI_lt h)
    go_enter Try.func118, Try.ntmps118
    go_wp2
    all_goals (go_ret; exact ⟨ret_i H.out.symm, rfl⟩)
  · have H := Lib.hid (cmpI_gt h)
    have hx : ¬ x < y := by omega
    go_enter Try.func118, Try.ntmps118
    go_wp2
    all_goals (go_ret; exact ⟨ret_i H.out.symm, rfl⟩)
  · subst h
    have H := Lib.hid (cmpI_eq x)
    go_enter Try.func118, Try.ntmps118
    go_wp2
    all_goals (go_ret; exact ⟨ret_i H.out.symm, rfl⟩)

/-- the order of prefixes: by address, then by length -/
def cmpP (a : Nat) (n : Int) (b : Nat) (m : Int) : Int := if a < b then -1 else if b < a then 1 else cmpI n m
theorem cmpP_lt {a b : Nat} {n m : Int} (h : a < b) : cmpP a n b m = -1 := by unfold cmpP; rw [if_pos h]
theorem cmpP_gt {a b : Nat} {n m : Int} (h : b < a) : cmpP a n b m = 1 := by unfold cmpP; rw [if_neg (by omega), if_pos h]
theorem cmpP_eq (a : Nat) (n m : Int) : cmpP a n a m = cmpI n m := by unfold cmpP; rw [if_neg (by omega), if_neg (by omega)]
theorem compare_any (a : Nat) (n : Int) (b : Nat) (m : Int) (w : World) :
    Calls Try.prog 84 #[.agg #[.int .u32 a, .int .i64 n], .agg #[.int .u32 b, .int .i64 m]] w fun e w' => e = .returned (.int .i64 (cmpP a n b m)) ∧ Below w.heap.size w w' := by
  rcases (by omega : a < b ∨ b < a ∨ a = b) with h | h | h
  · have H := Lib.hid (cmpP_lt (n := n) (m := m) h)
    have e1 : cmpI (a : Int) (b : Int) = -1 := cmpI_lt (by omega)
    go_enter Try.func84, Try.ntmps84
    go_wp2_with (go_at_call 117; refine (cmpA_any _ _ _).mono ?_; rintro e w' ⟨rfl, rfl⟩)
    go_ret
    exact ⟨ret_i H.out.symm, below2 _ _ _⟩
  · have H := Lib.hid (cmpP_gt (n := n) (m := m) h)
    have e1 : cmpI (a : Int) (b : Int) = 1 := cmpI_gt (by omega)
    go_enter Try.func84, Try.ntmps84
    go_wp2_with (go_at_call 117; refine (cmpA_any _ _ _).mono ?_; rintro e w' ⟨rfl, rfl⟩)
    go_ret
    exact ⟨ret_i H.out.symm, below2 _ _ _⟩
  · subst h
    have H := Lib.hid (cmpP_eq a n m)
    have e1 : cmpI (a : Int) (a : Int) = 0 := cmpI_eq _
    go_enter Try.func84, Try.ntmps84
    go_wp2_with (first | (go_at_call 117; refine (cmpA_any _ _ _).mono ?_; rintro e w' ⟨rfl, rfl⟩) | (go_at_call 118; refine (cmpL_any _ _ _).mono ?_; rintro e w' ⟨rfl, rfl⟩))
    go_ret
    exact ⟨ret_i H.out.symm, below2 _ _ _⟩
theorem rcompare_any (a : Nat) (n : Int) (b : Nat) (m : Int) (w : World) :
    Calls Try.prog 85 #[.agg #[.int .u32 a, .int .i64 n], .agg #[.int .u32 b, .int .i64 m]] w fun e w' => e = .returned (.int .i64 (cmpP a n b m)) ∧ Below w.heap.size w w' := by
  rcases (by omega : a < b ∨ b < a ∨ a = b) with h | h | h
  · have H := Lib.hid (cmpP_lt (n := n) (m := m) h)
    have e1 : ((a : Int) == (b : Int)) = false := by simp; omega
    go_enter Try.func85, Try.ntmps85
    go_wp2
    all_goals (go_ret; exact ⟨ret_i H.out.symm, below2 _ _ _⟩)
  · have H := Lib.hid (cmpP_gt (n := n) (m := m) h)
    have e1 : ((a : Int) == (b : Int)) = false := by simp; omega
    have e2 : ¬ a < b := by omega
    go_enter Try.func85, Try.ntmps85
    go_wp2
    all_goals (go_ret; exact ⟨ret_i H.out.symm, below2 _ _ _⟩)
  · subst h
    rcases (by omega : n < m ∨ m < n ∨ n = m) with h | h | h
    · have H := Lib.hid ((cmpP_eq a n m).trans (cmpI_lt h))
      go_enter Try.func85, Try.ntmps85
      go_wp2
      all_goals (go_ret; exact ⟨ret_i H.out.symm, below2 _ _ _⟩)
    · have H := Lib.hid ((cmpP_eq a n m).trans (cmpI_gt h))
      have e2 : ¬ n < m := by omega
      go_enter Try.func85, Try.ntmps85
      go_wp2
      all_goals (go_ret; exact ⟨ret_i H.out.symm, below2 _ _ _⟩)
    · subst h
      have H := Lib.hid ((cmpP_eq a n n).trans (cmpI_eq n))
      go_enter Try.func85, Try.ntmps85
      go_wp2
      all_goals (go_ret; exact ⟨ret_i H.out.symm, below2 _ _ _⟩)
end Go.Proofs.Ytegponbmelgngaa
end

section
namespace Go.Proofs.Ytegponbmelgngaa
open Go.RowKit
set_option linter.unusedSimpArgs false
set_option linter.unusedVariables false
set_option maxHeartbeats 1000000

theorem at_in (x : Nat) (hx : x < 4294967296) (n : Int) (h0 : 0 ≤ n) (h1 : n ≤ 31) (w : World) :
    Calls Try.prog 136 #[.int .u32 x, .int .i64 n] w fun e w' => e = .returned (.int .i64 (M.atN x n.toNat : Nat)) ∧ w = w' := by
  go_enter Try.func136, Try.ntmps136
  go_wp2
  go_ret
  exact ⟨ret_i (at_bits x hx n h0 h1), rfl⟩
theorem at_any (x : Nat) (hx : x < 4294967296) (n : Int) (hn : I64 n) (w : World) :
    Calls Try.prog 136 #[.int .u32 x, .int .i64 n] w fun e w' => e = .returned (.int .i64 (atZ x n : Nat)) ∧ w = w' := by
  unfold atZ
  by_cases h : 0 ≤ n ∧ n ≤ 31
  · rw [if_pos h]; exact at_in x hx n h.1 h.2 w
  · rw [if_neg h]
    rcases (by omega : n < 0 ∨ 31 < n) with h' | h' <;> clear h
    · go_enter Try.func136, Try.ntmps136
      go_wp2
      go_ret
      exact ⟨rfl, rfl⟩
    · have h2 : ¬ n < 0 := by omega
      go_enter Try.func136, Try.ntmps136
      go_wp2
      go_ret
      exact ⟨rfl, rfl⟩
def LeadAt (x : Nat) (k : Nat) : Prop := M.NoneTo (fun i => decide (M.atN x i = 1)) k
theorem lead_any (x : Nat) (hx : x < 4294967296) (w : World) :
    Calls Try.prog 103 #[.int .u32 x] w fun e w' => e = .returned (.int .i64 (M.leadN x : Nat)) ∧ w = w' := by
  go_enter Try.func103, Try.ntmps103
  go_wp2
  go_loop [4] (fun i => ∃ k : Nat, k ≤ 32 ∧ i = .int .i64 k ∧ LeadAt x k) (fun i => 32 - (intOf i).toNat)
  case atStart => exact ⟨0, by omega, rfl, M.noneTo_zero _⟩
  case round =>
    obtain ⟨k, hk, rfl, hp⟩ := hrel
    have hb := M.atN_le x k
    by_cases hlt : k < 32
    · by_cases h1 : M.atN x k = 1
      · have H := Lib.hid (M.firstN_hit hp hlt (by simp [h1]))
        have h1' : ((M.atN x k : Int) == 1) = true := by simp [h1]
        have hh := Lib.hid h1; clear h1
        go_wp2_with (go_at_call 136; refine (at_in x hx _ (by omega) (by omega) _).mono ?_; rintro e w' ⟨rfl, rfl⟩)
        go_ret
        exact ⟨ret_i (by rw [M.leadN, H.out]), rfl⟩
      · have H := Lib.hid (M.noneTo_succ hp (by simp [h1]))
        have h1' : ((M.atN x k : Int) == 1) = false := by simp; omega
        have hh := Lib.hid h1; clear h1
        go_wp2_with (go_at_call 136; refine (at_in x hx _ (by omega) (by omega) _).mono ?_; rintro e w' ⟨rfl, rfl⟩)
        go_round
        case rel => exact ⟨k + 1, by omega, by go_num, H.out⟩
        case measure => simp [intOf]; omega
    · obtain rfl : k = 32 := by omega
      have H := Lib.hid (M.firstN_miss hp)
      go_wp2
      go_ret
      exact ⟨ret_i (by rw [M.leadN, H.out]; rfl), rfl⟩
theorem com_any (a b : Nat) (ha : a < 4294967296) (hb : b < 4294967296) (w : World) :
    Calls Try.prog 62 #[.int .u32 a, .int .u32 b] w fun e w' => e = .returned (.int .i64 (M.comN a b : Nat)) ∧ w = w' := by
  have hx : a ^^^ b < 4294967296 := Nat.xor_lt_two_pow (n := 32) ha hb
  have H := Lib.hid (M.leadN_xor a b)
  have hbx : bits BinOp.xor IntKind.u32 ↑a ↑b = ((a ^^^ b : Nat) : Int) := u32_xor_nat a b ha hb
  go_enter Try.func62, Try.ntmps62
  go_wp2_with (go_at_call 103; refine (lead_any _ hx _).mono ?_; rintro e w' ⟨rfl, rfl⟩)
  go_ret
  exact ⟨ret_i (by rw [H.out]), rfl⟩
end Go.Proofs.Ytegponbmelgngaa
end
