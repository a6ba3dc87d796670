/-
  The walks of Compare and Halves and of their references.
-/
import Derived.Test.YtegponbmelgngaaWalkD
namespace Go.Proofs.Ytegponbmelgngaa
open Go.RowKit
set_option linter.unusedSimpArgs false
set_option maxHeartbeats 1000000

/- Halves -/
def midN (a : Nat) (n : Int) : Nat := a ||| 2 ^ (31 - n.toNat)
theorem pow_lt32 (k : Nat) (h : k < 32) : 2 ^ k < 4294967296 := by
  have := Nat.pow_lt_pow_right (a := 2) (by omega) h; simpa using this
theorem or_mid (a : Nat) (ha : a < 4294967296) (n : Int) (h0 : 0 ≤ n) (h31 : n ≤ 31) : bits BinOp.or IntKind.u32 (↑a) (2 ^ (31 - n).toNat % 4294967296) = (midN a n : Nat) := by
  have hp := pow_lt32 (31 - n.toNat) (by omega)
  have e : ((2 : Int) ^ (31 - n).toNat % 4294967296) = ((2 ^ (31 - n.toNat) : Nat) : Int) := by
    have h2 : ((2 ^ (31 - n.toNat) : Nat) : Int) = (2 : Int) ^ (31 - n).toNat := by
      rw [show (31 - n).toNat = 31 - n.toNat by omega]; simp
    rw [← h2]; clear h2; generalize 2 ^ (31 - n.toNat) = p at hp ⊢; omega
  rw [e, u32_or_nat _ _ ha hp]; rfl
theorem midN_lt (a : Nat) (ha : a < 4294967296) (n : Int) : midN a n < 4294967296 := Nat.or_lt_two_pow (n := 32) ha (pow_lt32 _ (by omega))
theorem halves_yes (a : Nat) (ha : a < 4294967296) (n : Int) (hn : I64 n) (w : World) (hv : vld a n = true) (h0 : 0 ≤ n) (h31 : n ≤ 31) :
    Calls Try.prog 73 #[.agg #[.int .u32 a, .int .i64 n]] w fun e w' => e = .returned (.tuple #[.agg #[.int .u32 a, .int .i64 (n + 1)], .agg #[.int .u32 (midN a n : Nat), .int .i64 (n + 1)], .bool true]) ∧ Below w.heap.size w w' := by
  have hd : ((n : Int) == 32) = false := by simp; omega
  have hmid := Lib.hid (or_mid a ha n h0 h31)
  go_enter Try.func73, Try.ntmps73
  go_wp2_with fail
  go_at_call 80
  refine (valid_any _ (by omega) _ (by omega) _).mono ?_
  rintro e w1 ⟨rfl, h1⟩
  obtain ⟨hc1, hf1⟩ := bcell h1
  go_wp2_with fail
  go_quiet (fail)
  go_wp2
  go_region
  go_wp2
  refine bodyPost_ret (v := .tuple #[.agg #[.int .u32 a, .int .i64 (n + 1)], .agg #[.int .u32 (bits BinOp.or IntKind.u32 (↑a) (2 ^ (31 - n).toNat % 4294967296)), .int .i64 (n + 1)], .bool true]) (by simp [results, Try.results73, go_sem, hc1]) rfl
    ⟨by rw [hmid.out], ((((below_drewN (below_then (below3 _ _ _ _) h1) _).setCell (by simp) _).setCell (by simp) _).setCell (by simp; omega) _).setCell (by simp; omega) _⟩
theorem halves_no (a : Nat) (ha : a < 4294967296) (n : Int) (hn : I64 n) (w : World) (hv : vld a n = false ∨ n = 32) :
    Calls Try.prog 73 #[.agg #[.int .u32 a, .int .i64 n]] w fun e w' => e = .returned (.tuple #[.agg #[.int .u32 0, .int .i64 0], .agg #[.int .u32 0, .int .i64 0], .bool false]) ∧ Below w.heap.size w w' := by
  cases h : vld a n
  · clear hv
    go_enter Try.func73, Try.ntmps73
    go_wp2_with fail
    go_at_call 80
    refine (valid_any _ (by omega) _ (by omega) _).mono ?_
    rintro e w1 ⟨rfl, h1⟩
    obtain ⟨hc1, hf1⟩ := bcell h1
    go_wp2_with fail
    exact bodyPost_ret (v := .tuple #[.agg #[.int .u32 0, .int .i64 0], .agg #[.int .u32 0, .int .i64 0], .bool false]) (by simp [results, Try.results73, go_sem, hc1]) rfl
      ⟨rfl, ((((below_then (below3 _ _ _ _) h1).setCell (by simp) _).setCell (by simp) _).setCell (by simp; omega) _).setCell (by simp; omega) _⟩
  · obtain rfl : n = 32 := by
      rcases hv with hv | hv
      · rw [h] at hv; cases hv
      · exact hv
    go_enter Try.func73, Try.ntmps73
    go_wp2_with fail
    go_at_call 80
    refine (valid_any _ (by omega) _ (by omega) _).mono ?_
    rintro e w1 ⟨rfl, h1⟩
    obtain ⟨hc1, hf1⟩ := bcell h1
    go_wp2_with fail
    exact bodyPost_ret (v := .tuple #[.agg #[.int .u32 0, .int .i64 0], .agg #[.int .u32 0, .int .i64 0], .bool false]) (by simp [results, Try.results73, go_sem, hc1]) rfl
      ⟨rfl, ((((below_then (below3 _ _ _ _) h1).setCell (by simp) _).setCell (by simp) _).setCell (by simp; omega) _).setCell (by simp; omega) _⟩
theorem rhalves_yes (a : Nat) (ha : a < 4294967296) (n : Int) (hn : I64 n) (w : World) (hv : vld a n = true) (h0 : 0 ≤ n) (h31 : n ≤ 31) :
    Calls Try.prog 38 #[.agg #[.int .u32 a, .int .i64 n]] w fun e w' => e = .returned (.tuple #[.agg #[.int .u32 a, .int .i64 (n + 1)], .agg #[.int .u32 (midN a n : Nat), .int .i64 (n + 1)], .bool true]) ∧ Below w.heap.size w w' := by
  have hd : ((n : Int) == 32) = false := by simp; omega
  have hmid := Lib.hid (or_mid a ha n h0 h31)
  go_enter Try.func38, Try.ntmps38
  go_wp2_with fail
  go_at_call 39
  refine (rvalid_any _ (by omega) _ (by omega) _).mono ?_
  rintro e w1 ⟨rfl, h1⟩
  obtain ⟨hc1, hf1⟩ := bcell h1
  go_wp2_with fail
  go_region
  go_wp2
  refine bodyPost_ret (v := .tuple #[.agg #[.int .u32 a, .int .i64 (n + 1)], .agg #[.int .u32 (bits BinOp.or IntKind.u32 (↑a) (2 ^ (31 - n).toNat % 4294967296)), .int .i64 (n + 1)], .bool true]) (by simp [results, Try.results38, go_sem, hc1]) rfl
    ⟨by rw [hmid.out], ((((below_drewN (below_then (below3 _ _ _ _) h1) _).setCell (by simp) _).setCell (by simp) _).setCell (by simp; omega) _).setCell (by simp; omega) _⟩
theorem rhalves_no (a : Nat) (ha : a < 4294967296) (n : Int) (hn : I64 n) (w : World) (hv : vld a n = false ∨ n = 32) :
    Calls Try.prog 38 #[.agg #[.int .u32 a, .int .i64 n]] w fun e w' => e = .returned (.tuple #[.agg #[.int .u32 0, .int .i64 0], .agg #[.int .u32 0, .int .i64 0], .bool false]) ∧ Below w.heap.size w w' := by
  cases h : vld a n
  · clear hv
    go_enter Try.func38, Try.ntmps38
    go_wp2_with fail
    go_at_call 39
    refine (rvalid_any _ (by omega) _ (by omega) _).mono ?_
    rintro e w1 ⟨rfl, h1⟩
    obtain ⟨hc1, hf1⟩ := bcell h1
    go_wp2_with fail
    exact bodyPost_ret (v := .tuple #[.agg #[.int .u32 0, .int .i64 0], .agg #[.int .u32 0, .int .i64 0], .bool false]) (by simp [results, Try.results38, go_sem, hc1]) rfl
      ⟨rfl, ((((below_then (below3 _ _ _ _) h1).setCell (by simp) _).setCell (by simp) _).setCell (by simp; omega) _).setCell (by simp; omega) _⟩
  · obtain rfl : n = 32 := by
      rcases hv with hv | hv
      · rw [h] at hv; cases hv
      · exact hv
    go_enter Try.func38, Try.ntmps38
    go_wp2_with fail
    go_at_call 39
    refine (rvalid_any _ (by omega) _ (by omega) _).mono ?_
    rintro e w1 ⟨rfl, h1⟩
    obtain ⟨hc1, hf1⟩ := bcell h1
    go_wp2_with fail
    exact bodyPost_ret (v := .tuple #[.agg #[.int .u32 0, .int .i64 0], .agg #[.int .u32 0, .int .i64 0], .bool false]) (by simp [results, Try.results38, go_sem, hc1]) rfl
      ⟨rfl, ((((below_then (below3 _ _ _ _) h1).setCell (by simp) _).setCell (by simp) _).setCell (by simp; omega) _).setCell (by simp; omega) _⟩
end Go.Proofs.Ytegponbmelgngaa
