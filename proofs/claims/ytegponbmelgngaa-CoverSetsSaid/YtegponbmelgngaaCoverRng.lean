/-
  The list of an interval has at most 62 blocks.
-/
import Derived.Test.YtegponbmelgngaaCoverDef
namespace Go.Proofs.Ytegponbmelgngaa.CM
set_option linter.unusedSimpArgs false
set_option linter.unusedVariables false

theorem join_len (l m : List (Nat × Nat)) (A K : Nat) : (if l = [(A, K)] ∧ m = [(A + 2 ^ K, K)] then [(A, K + 1)] else l ++ m).length ≤ max 1 (l.length + m.length) := by
  split
  · simp only [List.length_singleton]; omega
  · rw [List.length_append]; omega
/-- the beginning of a block -/
theorem pre_len {S : Nat → Bool} {h : Nat} : ∀ (K A : Nat), A % 2 ^ K = 0 → (∀ y, A ≤ y → y < A + 2 ^ K → (S y = true ↔ y < h)) → ∃ l, NrmB S K A l ∧ l.length ≤ max 1 K
  | K, A, ha, hS => by
    by_cases h1 : A + 2 ^ K ≤ h
    · exact ⟨_, NrmB.whole ha (fun x g1 g2 => (hS x g1 g2).2 (by omega)), by simp only [List.length_singleton]; omega⟩
    by_cases h2 : h ≤ A
    · exact ⟨_, NrmB.none (fun x g1 g2 => Bool.eq_false_iff.2 fun e => by have := (hS x g1 g2).1 e; omega), by simp⟩
    match K, ha, hS, h1 with
    | 0, ha, hS, h1 => simp at h1; omega
    | K + 1, ha, hS, h1 =>
      have e2 : 2 ^ (K + 1) = 2 ^ K + 2 ^ K := by rw [Nat.pow_succ]; omega
      have hp := pow_pos' K
      have ha1 : A % 2 ^ K = 0 := mod_of_le (Nat.le_succ K) ha
      have ha2 : (A + 2 ^ K) % 2 ^ K = 0 := by rw [Nat.add_mod_right]; exact ha1
      by_cases h3 : h ≤ A + 2 ^ K
      · obtain ⟨l, hl, hn⟩ := pre_len K A ha1 (fun y g1 g2 => hS y g1 (by omega))
        have hm : NrmB S K (A + 2 ^ K) [] := NrmB.none (fun x g1 g2 => Bool.eq_false_iff.2 fun e => by have := (hS x (by omega) (by omega)).1 e; omega)
        exact ⟨_, NrmB.join ha hl hm, Nat.le_trans (join_len _ _ _ _) (by simp only [List.length_nil]; omega)⟩
      · obtain ⟨m, hm, hn⟩ := pre_len K (A + 2 ^ K) ha2 (fun y g1 g2 => hS y (by omega) (by omega))
        have hl : NrmB S K A [(A, K)] := NrmB.whole ha1 (fun x g1 g2 => (hS x g1 (by omega)).2 (by omega))
        have hK : 1 ≤ K := Nat.pos_of_ne_zero fun e => by subst e; simp at h1 h3; omega
        exact ⟨_, NrmB.join ha hl hm, Nat.le_trans (join_len _ _ _ _) (by simp only [List.length_singleton]; omega)⟩
/-- the end of a block -/
theorem suf_len {S : Nat → Bool} {f : Nat} : ∀ (K A : Nat), A % 2 ^ K = 0 → (∀ y, A ≤ y → y < A + 2 ^ K → (S y = true ↔ f ≤ y)) → ∃ l, NrmB S K A l ∧ l.length ≤ max 1 K
  | K, A, ha, hS => by
    by_cases h1 : f ≤ A
    · exact ⟨_, NrmB.whole ha (fun x g1 g2 => (hS x g1 g2).2 (by omega)), by simp only [List.length_singleton]; omega⟩
    by_cases h2 : A + 2 ^ K ≤ f
    · exact ⟨_, NrmB.none (fun x g1 g2 => Bool.eq_false_iff.2 fun e => by have := (hS x g1 g2).1 e; omega), by simp⟩
    match K, ha, hS, h2 with
    | 0, ha, hS, h2 => simp at h2; omega
    | K + 1, ha, hS, h2 =>
      have e2 : 2 ^ (K + 1) = 2 ^ K + 2 ^ K := by rw [Nat.pow_succ]; omega
      have hp := pow_pos' K
      have ha1 : A % 2 ^ K = 0 := mod_of_le (Nat.le_succ K) ha
      have ha2 : (A + 2 ^ K) % 2 ^ K = 0 := by rw [Nat.add_mod_right]; exact ha1
      by_cases h3 : A + 2 ^ K ≤ f
      · obtain ⟨m, hm, hn⟩ := suf_len K (A + 2 ^ K) ha2 (fun y g1 g2 => hS y (by omega) (by omega))
        have hl : NrmB S K A [] := NrmB.none (fun x g1 g2 => Bool.eq_false_iff.2 fun e => by have := (hS x (by omega) (by omega)).1 e; omega)
        exact ⟨_, NrmB.join ha hl hm, Nat.le_trans (join_len _ _ _ _) (by simp only [List.length_nil]; omega)⟩
      · obtain ⟨l, hl, hn⟩ := suf_len K A ha1 (fun y g1 g2 => hS y g1 (by omega))
        have hm : NrmB S K (A + 2 ^ K) [(A + 2 ^ K, K)] := NrmB.whole ha2 (fun x g1 g2 => (hS x (by omega) (by omega)).2 (by omega))
        have hK : 1 ≤ K := Nat.pos_of_ne_zero fun e => by subst e; simp at h2 h3; omega
        exact ⟨_, NrmB.join ha hl hm, Nat.le_trans (join_len _ _ _ _) (by simp only [List.length_singleton]; omega)⟩
/-- an interval in a block -/
theorem mid_len {S : Nat → Bool} {f h : Nat} : ∀ (K A : Nat), A % 2 ^ K = 0 → (∀ y, A ≤ y → y < A + 2 ^ K → (S y = true ↔ f ≤ y ∧ y < h)) → ∃ l, NrmB S K A l ∧ l.length ≤ max 1 (2 * (K - 1))
  | 0, A, ha, hS => by
    have hp := pow_pos' 0
    by_cases hs : S A = true
    · exact ⟨_, NrmB.whole ha (fun x g1 g2 => by simp at g2; rw [show x = A by omega]; exact hs), by simp⟩
    · exact ⟨_, NrmB.none (fun x g1 g2 => by simp at g2; rw [show x = A by omega]; exact Bool.eq_false_iff.2 hs), by simp⟩
  | K + 1, A, ha, hS => by
    have e2 : 2 ^ (K + 1) = 2 ^ K + 2 ^ K := by rw [Nat.pow_succ]; omega
    have hp := pow_pos' K
    have ha1 : A % 2 ^ K = 0 := mod_of_le (Nat.le_succ K) ha
    have ha2 : (A + 2 ^ K) % 2 ^ K = 0 := by rw [Nat.add_mod_right]; exact ha1
    by_cases h1 : f ≤ A
    · obtain ⟨l, hl, hn⟩ := pre_len (S := S) (h := h) (K + 1) A ha (fun y g1 g2 => by rw [hS y g1 g2]; exact ⟨fun g => g.2, fun g => ⟨by omega, g⟩⟩)
      exact ⟨l, hl, by omega⟩
    by_cases h2 : A + 2 ^ (K + 1) ≤ h
    · obtain ⟨l, hl, hn⟩ := suf_len (S := S) (f := f) (K + 1) A ha (fun y g1 g2 => by rw [hS y g1 g2]; exact ⟨fun g => g.1, fun g => ⟨g, by omega⟩⟩)
      exact ⟨l, hl, by omega⟩
    by_cases h3 : h ≤ A + 2 ^ K
    · obtain ⟨l, hl, hn⟩ := mid_len K A ha1 (fun y g1 g2 => hS y g1 (by omega))
      have hm : NrmB S K (A + 2 ^ K) [] := NrmB.none (fun x g1 g2 => Bool.eq_false_iff.2 fun e => by have := (hS x (by omega) (by omega)).1 e; omega)
      exact ⟨_, NrmB.join ha hl hm, Nat.le_trans (join_len _ _ _ _) (by simp only [List.length_nil]; omega)⟩
    by_cases h4 : A + 2 ^ K ≤ f
    · obtain ⟨m, hm, hn⟩ := mid_len K (A + 2 ^ K) ha2 (fun y g1 g2 => hS y (by omega) (by omega))
      have hl : NrmB S K A [] := NrmB.none (fun x g1 g2 => Bool.eq_false_iff.2 fun e => by have := (hS x (by omega) (by omega)).1 e; omega)
      exact ⟨_, NrmB.join ha hl hm, Nat.le_trans (join_len _ _ _ _) (by simp only [List.length_nil]; omega)⟩
    obtain ⟨l, hl, hn⟩ := suf_len (S := S) (f := f) K A ha1 (fun y g1 g2 => by rw [hS y g1 (by omega)]; exact ⟨fun g => g.1, fun g => ⟨g, by omega⟩⟩)
    obtain ⟨m, hm, hn2⟩ := pre_len (S := S) (h := h) K (A + 2 ^ K) ha2 (fun y g1 g2 => by rw [hS y (by omega) (by omega)]; exact ⟨fun g => g.2, fun g => ⟨by omega, g⟩⟩)
    have hK : 1 ≤ K := Nat.pos_of_ne_zero fun e => by subst e; simp at h2 h4; omega
    exact ⟨_, NrmB.join ha hl hm, Nat.le_trans (join_len _ _ _ _) (by omega)⟩
/-- the list of an interval has at most 62 blocks -/
theorem range_len {S : Nat → Bool} {f h : Nat} {l : List (Nat × Nat)} (hl : Nrm S l) (hh : h ≤ 4294967296) (hS : ∀ y, S y = true ↔ f ≤ y ∧ y < h) : l.length ≤ 62 := by
  obtain ⟨m, hm, hn⟩ := mid_len (S := S) (f := f) (h := h) 32 0 (Nat.zero_mod _) (fun y _ _ => hS y)
  rw [hl.unique (hm.root fun y hy => by have := (hS y).1 hy; omega)]
  omega
end Go.Proofs.Ytegponbmelgngaa.CM
