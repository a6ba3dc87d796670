/-
  Part of FieldBack: plain facts.
-/
import Derived.Test.YthoonegckifiaaaDoorFrame
namespace Go.Proofs.YthoonegckifiaaaDoor.fieldBack
open Go.ChangeShapes Go.WideShapes Go.ChangeAt Go.RowKit
set_option linter.unusedSimpArgs false
set_option linter.unusedVariables false
set_option maxHeartbeats 4000000
set_option maxRecDepth 100000
theorem size_fact (a : Int) (h : I64 a) : wrap64 (1 + (wrap64 (a.tmod 8 + 8)).tmod 8) = 1 + Int.emod (a.tmod 8 + 8) 8 ∧ 0 ≤ Int.emod (a.tmod 8 + 8) 8 ∧ Int.emod (a.tmod 8 + 8) 8 < 8 := by
  have h1 := Int.lt_tmod_of_pos a (show (0 : Int) < 8 by omega)
  have h2 := Int.tmod_lt_of_pos a (show (0 : Int) < 8 by omega)
  have h3 := Int.emod_nonneg (a.tmod 8 + 8) (show (8 : Int) ≠ 0 by omega)
  have h4 := Int.emod_lt_of_pos (a.tmod 8 + 8) (show (0 : Int) < 8 by omega)
  refine ⟨?_, h3, h4⟩
  have e1 : wrap64 (a.tmod 8 + 8) = a.tmod 8 + 8 := by unfold wrap64; omega
  rw [e1, Int.tmod_eq_emod_of_nonneg (by omega)]
  change (a.tmod 8 + 8) % 8 < 8 at h4
  change 0 ≤ (a.tmod 8 + 8) % 8 at h3
  change wrap64 (1 + (a.tmod 8 + 8) % 8) = 1 + (a.tmod 8 + 8) % 8
  unfold wrap64; omega
theorem shift_fact (m : Nat) (h1 : 1 ≤ m) (h : m < 8) : Op.shift .shl .u64 1 .i64 (wrap64 (8 * (m : Int))) = pure (.int .u64 ((256 ^ m : Nat) : Int)) := by
  rw [show wrap64 (8 * (m : Int)) = ((8 * m : Nat) : Int) by unfold wrap64; omega]
  have : m = 1 ∨ m = 2 ∨ m = 3 ∨ m = 4 ∨ m = 5 ∨ m = 6 ∨ m = 7 := by omega
  rcases this with rfl | rfl | rfl | rfl | rfl | rfl | rfl <;> (unfold Op.shift; rw [if_neg (by omega)]; first | rfl | (refine congrArg pure (congrArg (Value.int .u64) ?_); decide) | (simp [wrap64, IntKind.bits, IntKind.wrap]; done))
theorem dec_short : ∀ (k n : Nat), 1 ≤ k → n < 10 ^ k → (Lib.decDigits n).length ≤ k := by
  intro k
  induction k with
  | zero => intro n h; omega
  | succ k ih =>
    intro n _ hn
    by_cases h : n < 10
    · rw [T.dec_one n h]; simp
    · rw [T.dec_step n h, List.length_append]
      have hk : 1 ≤ k := by
        rcases Nat.eq_zero_or_pos k with rfl | hk
        · simp at hn; omega
        · exact hk
      have := ih (n / 10) hk (by rw [Nat.pow_succ] at hn; omega)
      simpa using this
theorem number_cases (s : ByteArray) : ∃ (y er : Int), (T.number s.data.toList 4611686018427387904).1 = y ∧ (T.number s.data.toList 4611686018427387904).2 = er ∧ I64 y ∧ (er = 0 ∧ bs (Lib.itoa y) = s ∨ er = 2 ∨ er = 5) := by
  refine ⟨_, _, rfl, rfl, ?_⟩
  cases hc : T.canS s.data.toList with
  | false => rw [number_no hc]; exact ⟨⟨by omega, by omega⟩, .inr (.inl rfl)⟩
  | true =>
    have hg := number_go (most := 4611686018427387904) hc
    have hv := T.numF_val 4611686018427387904 s.data.toList 0 (.inl (by omega))
    split at hv
    · rename_i hle
      rw [hv] at hg
      simp only at hg
      obtain ⟨n, h1, h2⟩ := T.number_back (l := s.data.toList) (most := 4611686018427387904) (by rw [hg])
      have e1 : (T.number s.data.toList 4611686018427387904).2 = 0 := by rw [hg]
      have hn : (n : Int) ≤ 4611686018427387904 := by rw [← h1, hg]; exact hle
      rw [e1, h1]
      refine ⟨⟨by omega, by omega⟩, .inl ⟨rfl, ?_⟩⟩
      rw [show Lib.itoa (n : Int) = Lib.decDigits n by unfold Lib.itoa; rw [if_neg (by omega)]; simp, h2, ← bs_of]
    · rw [hv] at hg
      rw [hg]
      show I64 0 ∧ _
      exact ⟨⟨by omega, by omega⟩, .inr (.inr rfl)⟩
end Go.Proofs.YthoonegckifiaaaDoor.fieldBack
