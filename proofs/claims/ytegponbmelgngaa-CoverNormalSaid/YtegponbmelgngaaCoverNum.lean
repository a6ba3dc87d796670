/-
  Prefixes as blocks: validity, membership, last address, halves in numbers.
-/
import Derived.Test.YtegponbmelgngaaCoverInv
import Derived.Test.YtegponbmelgngaaWalkE
import Derived.Test.YtegponbmelgngaaPMath
namespace Go.Proofs.Ytegponbmelgngaa
set_option linter.unusedSimpArgs false
set_option linter.unusedVariables false

theorem keepN_fix (a k : Nat) : M.keepN a k = a ↔ a % 2 ^ (32 - k) = 0 := by
  unfold M.keepN
  have h1 := Nat.div_add_mod a (2 ^ (32 - k))
  rw [Nat.mul_comm] at h1
  constructor <;> intro h <;> omega
theorem V_al (a : Nat) (n : Int) : V (a, n) = true ↔ 0 ≤ n ∧ n ≤ 32 ∧ a % 2 ^ (32 - n.toNat) = 0 := by
  rw [V_iff]
  dsimp only
  rw [keepN_fix]
theorem con_in {a : Nat} {n : Int} (hv : vld a n = true) (x : Nat) : con a n x = true ↔ a ≤ x ∧ x < a + 2 ^ (32 - n.toNat) := by
  obtain ⟨h0, h1, h2⟩ := (V_al a n).1 hv
  unfold con
  rw [hv, low_in h0 h1]
  simp only [Bool.true_and, decide_eq_true_eq]
  unfold M.keepN
  constructor
  · intro h
    have := CM.in_base x (32 - n.toNat)
    omega
  · intro h
    exact CM.base_of h2 h.1 h.2
theorem mid_eq {a : Nat} {n : Int} (hv : vld a n = true) (h31 : n ≤ 31) : midN a n = a + 2 ^ (31 - n.toNat) := by
  obtain ⟨h0, h1, h2⟩ := (V_al a n).1 hv
  unfold midN
  refine M.nat_join (32 - n.toNat) _ _ h2 (Nat.pow_lt_pow_right (by decide) (by omega))
theorem last_eq {a : Nat} {n : Int} (hv : vld a n = true) : lastN a n = a + 2 ^ (32 - n.toNat) - 1 := by
  obtain ⟨h0, h1, h2⟩ := (V_al a n).1 hv
  have hp := CM.pow_pos' (32 - n.toNat)
  have hle := M.pow_le32 (k := 32 - n.toNat) (by omega)
  have e : 4294967295 - M.maskN n.toNat = 2 ^ (32 - n.toNat) - 1 := by unfold M.maskN; omega
  unfold lastN
  rw [low_in h0 h1, e, M.nat_join (32 - n.toNat) _ _ h2 (by omega)]
  omega
theorem block_top {a : Nat} {n : Int} (ha : a < 4294967296) (hv : vld a n = true) : a + 2 ^ (32 - n.toNat) ≤ 4294967296 := by
  obtain ⟨h0, h1, h2⟩ := (V_al a n).1 hv
  obtain ⟨q, rfl⟩ := Nat.dvd_of_mod_eq_zero h2
  have e : 4294967296 = 2 ^ (32 - n.toNat) * 2 ^ n.toNat := by rw [← Nat.pow_add, show 32 - n.toNat + n.toNat = 32 by omega]
  have hq : q < 2 ^ n.toNat := by
    rw [e] at ha
    exact Nat.lt_of_mul_lt_mul_left ha
  calc 2 ^ (32 - n.toNat) * q + 2 ^ (32 - n.toNat) = 2 ^ (32 - n.toNat) * (q + 1) := by rw [Nat.mul_add, Nat.mul_one]
    _ ≤ 2 ^ (32 - n.toNat) * 2 ^ n.toNat := Nat.mul_le_mul_left _ hq
    _ = 4294967296 := e.symm
theorem low_half {a : Nat} {n : Int} (hv : vld a n = true) (h31 : n ≤ 31) : vld a (n + 1) = true := by
  obtain ⟨h0, h1, h2⟩ := (V_al a n).1 hv
  exact (V_al a (n + 1)).2 ⟨by omega, by omega, CM.mod_of_le (by omega) h2⟩
theorem high_half {a : Nat} {n : Int} (hv : vld a n = true) (h31 : n ≤ 31) : vld (midN a n) (n + 1) = true := by
  obtain ⟨h0, h1, h2⟩ := (V_al a n).1 hv
  rw [mid_eq hv h31]
  refine (V_al _ (n + 1)).2 ⟨by omega, by omega, ?_⟩
  rw [show 32 - (n + 1).toNat = 31 - n.toNat by omega, Nat.add_mod_right]
  exact CM.mod_of_le (by omega) h2
end Go.Proofs.Ytegponbmelgngaa
