/-
  The walks of Compare, Last, Parent, Halves and of their references.
-/
import Derived.Test.YtegponbmelgngaaWalkC
import Derived.Laws.ResultCell
namespace Go.Proofs.Ytegponbmelgngaa
open Go.RowKit
set_option linter.unusedSimpArgs false
set_option maxHeartbeats 1000000

theorem setCell_below {w W : World} (h : Below w.heap.size w W) {p : Addr} (hp : w.heap.size ≤ p.block) (u : Value) : Below w.heap.size w (W.setCell p u) := h.setCell hp u

/- Last -/
def lastN (a : Nat) (n : Int) : Nat := a ||| (4294967295 - M.maskN (M.lowN n 32))
theorem xor_full (m : Nat) (hm : m < 4294967296) : 4294967295 ^^^ m = 4294967295 - m := by
  apply Nat.eq_of_testBit_eq
  intro j
  have e : 4294967295 - m = 2 ^ 32 - (m + 1) := by simp only [show (2 : Nat) ^ 32 = 4294967296 by decide]; omega
  rw [Nat.testBit_xor, e, Nat.testBit_two_pow_sub_succ (by simpa using hm), show 4294967295 = 2 ^ 32 - 1 by decide, Nat.testBit_two_pow_sub_one]
  by_cases h : j < 32
  · simp [h]
  · have : m.testBit j = false := Nat.testBit_lt_two_pow (Nat.lt_of_lt_of_le hm (by
      have := Nat.pow_le_pow_right (n := 2) (by omega) (show 32 ≤ j by omega); simpa using this))
    simp [h, this]
theorem or_last (a : Nat) (ha : a < 4294967296) (m : Nat) (hm : m < 4294967296) : bits BinOp.or IntKind.u32 (↑a) (4294967295 - ↑m) = ((a ||| (4294967295 - m) : Nat) : Int) := by
  rw [show (4294967295 - (m : Int)) = ((4294967295 - m : Nat) : Int) by omega, u32_or_nat _ _ ha (by omega)]
theorem xor_last (m : Nat) (hm : m < 4294967296) : bits BinOp.xor IntKind.u32 IntKind.u32.max ↑m = 4294967295 - (m : Int) := by
  rw [show IntKind.u32.max = ((4294967295 : Nat) : Int) by decide, u32_xor_nat _ _ (by omega) hm, xor_full m hm]; omega
theorem last_yes (a : Nat) (ha : a < 4294967296) (n : Int) (hn : I64 n) (w : World) (hv : vld a n = true) :
    Calls Try.prog 60 #[.agg #[.int .u32 a, .int .i64 n]] w fun e w' => e = .returned (.int .u32 (lastN a n : Nat)) ∧ Below w.heap.size w w' := by
  have hm := M.maskN_lt (M.lowN n 32)
  go_enter Try.func60, Try.ntmps60
  go_wp2_with fail
  go_at_call 80
  refine (valid_any _ (by omega) _ (by omega) _).mono ?_
  rintro e w1 ⟨rfl, h1⟩
  obtain ⟨hc1, hf1⟩ := bcell h1
  go_wp2_with fail
  go_quiet ((go_at_call 100; exact Calls.quiet_of_same ((mask_any _ (by omega) _).mono fun _ _ h => ⟨h.1, h.2.symm⟩)))
  go_wp2
  go_ret
  exact ⟨ret_i (by rw [xor_last _ hm, or_last a ha _ hm]; rfl), below_drewN (below_then (below_alloc _ _) h1) _⟩
theorem last_no (a : Nat) (ha : a < 4294967296) (n : Int) (hn : I64 n) (w : World) (hv : vld a n = false) :
    Calls Try.prog 60 #[.agg #[.int .u32 a, .int .i64 n]] w fun e w' => e = .returned (.int .u32 0) ∧ Below w.heap.size w w' := by
  go_enter Try.func60, Try.ntmps60
  go_wp2_with fail
  go_at_call 80
  refine (valid_any _ (by omega) _ (by omega) _).mono ?_
  rintro e w1 ⟨rfl, h1⟩
  go_wp2_with fail
  go_ret
  exact ⟨rfl, below_then (below_alloc _ _) h1⟩
theorem rparent_yes (a : Nat) (ha : a < 4294967296) (n : Int) (hn : I64 n) (w : World) (hv : vld a n = true) (h0 : 1 ≤ n) :
    Calls Try.prog 78 #[.agg #[.int .u32 a, .int .i64 n]] w fun e w' => e = .returned (.tuple #[.agg #[.int .u32 (M.keepN a (M.lowN (n - 1) 32) : Nat), .int .i64 (n - 1)], .bool true]) ∧ Below w.heap.size w w' := by
  have hd : ((n : Int) == 0) = false := by simp; omega
  go_enter Try.func78, Try.ntmps78
  go_wp2_with fail
  go_at_call 39
  refine (rvalid_any _ (by omega) _ (by omega) _).mono ?_
  rintro e w1 ⟨rfl, h1⟩
  obtain ⟨hc1, hf1⟩ := bcell h1
  have hz1 : w.heap.size + 1 < w1.heap.size := by have := h1.size; simp at this; omega
  go_wp2_with fail
  go_at_call 109
  refine (rmake_any _ (by omega) _ (by omega) _).mono ?_
  rintro e w2 ⟨rfl, h2⟩
  obtain ⟨hc2, hf2⟩ := bcell h2
  go_wp2_with fail
  exact bodyPost_ret (v := .tuple #[.agg #[.int .u32 (M.keepN a (M.lowN (n - 1) 32) : Nat), .int .i64 (n - 1)], .bool true]) (by simp [results, Try.results78, go_sem, hc1, hc2, hz1]) rfl
    ⟨rfl, (((below_then (below_then (below2 _ _ _) h1) h2).setCell (by simp) _).setCell (by simp) _)⟩
theorem rparent_no (a : Nat) (ha : a < 4294967296) (n : Int) (hn : I64 n) (w : World) (hv : vld a n = false ∨ n = 0) :
    Calls Try.prog 78 #[.agg #[.int .u32 a, .int .i64 n]] w fun e w' => e = .returned (.tuple #[.agg #[.int .u32 0, .int .i64 0], .bool false]) ∧ Below w.heap.size w w' := by
  cases h : vld a n
  · clear hv
    go_enter Try.func78, Try.ntmps78
    go_wp2_with fail
    go_at_call 39
    refine (rvalid_any _ (by omega) _ (by omega) _).mono ?_
    rintro e w1 ⟨rfl, h1⟩
    obtain ⟨hc1, hf1⟩ := bcell h1
    go_wp2_with fail
    exact bodyPost_ret (v := .tuple #[.agg #[.int .u32 0, .int .i64 0], .bool false]) (by simp [results, Try.results78, go_sem, hc1]) rfl
      ⟨rfl, (((below_then (below2 _ _ _) h1).setCell (by simp) _).setCell (by simp) _)⟩
  · obtain rfl : n = 0 := by
      rcases hv with hv | hv
      · rw [h] at hv; cases hv
      · exact hv
    go_enter Try.func78, Try.ntmps78
    go_wp2_with fail
    go_at_call 39
    refine (rvalid_any _ (by omega) _ (by omega) _).mono ?_
    rintro e w1 ⟨rfl, h1⟩
    obtain ⟨hc1, hf1⟩ := bcell h1
    go_wp2_with fail
    exact bodyPost_ret (v := .tuple #[.agg #[.int .u32 0, .int .i64 0], .bool false]) (by simp [results, Try.results78, go_sem, hc1]) rfl
      ⟨rfl, (((below_then (below2 _ _ _) h1).setCell (by simp) _).setCell (by simp) _)⟩
end Go.Proofs.Ytegponbmelgngaa
