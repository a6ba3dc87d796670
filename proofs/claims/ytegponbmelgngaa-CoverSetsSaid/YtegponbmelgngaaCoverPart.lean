/-
  Two ways to the list of largest aligned blocks: from the least address on, and by halves.
-/
import Derived.Test.YtegponbmelgngaaCoverMath
namespace Go.Proofs.Ytegponbmelgngaa.CM
set_option linter.unusedSimpArgs false
set_option linter.unusedVariables false

/-- the list of the blocks below lo, where no block of the set straddles lo -/
structure Part (S : Nat → Bool) (l : List (Nat × Nat)) (lo : Nat) : Prop where
  asc : l.Pairwise (fun x y => x.1 + 2 ^ x.2 ≤ y.1)
  al : ∀ x ∈ l, x.1 % 2 ^ x.2 = 0
  le : ∀ x ∈ l, x.2 ≤ 32
  fl : ∀ x ∈ l, full S x.1 x.2
  mx : ∀ x ∈ l, x.2 < 32 → ¬ full S (x.1 / 2 ^ (x.2 + 1) * 2 ^ (x.2 + 1)) (x.2 + 1)
  all : ∀ y, y < lo → S y = true → ∃ x ∈ l, x.1 ≤ y ∧ y < x.1 + 2 ^ x.2
  bel : ∀ x ∈ l, x.1 + 2 ^ x.2 ≤ lo
  str : ∀ b j, b % 2 ^ j = 0 → full S b j → b < lo → b + 2 ^ j ≤ lo
theorem Part.zero (S : Nat → Bool) : Part S [] 0 :=
  ⟨List.Pairwise.nil, fun x h => (by cases h), fun x h => (by cases h), fun x h => (by cases h), fun x h => (by cases h), fun y h => (by omega), fun x h => (by cases h), fun b j _ _ h => (by omega)⟩
theorem Part.done {S : Nat → Bool} {l : List (Nat × Nat)} {lo : Nat} (h : Part S l lo) (hS : ∀ y, lo ≤ y → S y = false) : Nrm S l :=
  ⟨h.asc, h.al, h.le, h.fl, h.mx, fun y hy => h.all y (Nat.lt_of_not_le fun hl => by rw [hS y hl] at hy; cases hy) hy⟩
theorem Part.skip {S : Nat → Bool} {l : List (Nat × Nat)} {lo lo' : Nat} (h : Part S l lo) (hl : lo ≤ lo') (hS : ∀ y, lo ≤ y → y < lo' → S y = false) : Part S l lo' := by
  refine ⟨h.asc, h.al, h.le, h.fl, h.mx, fun y hy hs => ?_, fun x hx => Nat.le_trans (h.bel x hx) hl, fun b j ha hf hb => ?_⟩
  · by_cases hlt : y < lo
    · exact h.all y hlt hs
    · rw [hS y (by omega) hy] at hs; cases hs
  · by_cases hlt : b < lo
    · exact Nat.le_trans (h.str b j ha hf hlt) hl
    · have := hf b (Nat.le_refl _) (by have := pow_pos' j; omega)
      rw [hS b (by omega) hb] at this; cases this
/-- k is the largest exponent of an aligned block from lo on that ends at hi or before -/
def Grown (lo hi k : Nat) : Prop := lo % 2 ^ k = 0 ∧ lo + 2 ^ k ≤ hi ∧ k ≤ 32 ∧ (k < 32 → ¬ (lo % 2 ^ (k + 1) = 0 ∧ lo + 2 ^ (k + 1) ≤ hi))
theorem pow_le' {i j : Nat} (h : i ≤ j) : 2 ^ i ≤ 2 ^ j := Nat.pow_le_pow_right (by decide) h
theorem mod_of_le {a i j : Nat} (h : i ≤ j) (ha : a % 2 ^ j = 0) : a % 2 ^ i = 0 :=
  Nat.mod_eq_zero_of_dvd (Nat.dvd_trans (Nat.pow_dvd_pow 2 h) (Nat.dvd_of_mod_eq_zero ha))
theorem Part.step {S : Nat → Bool} {l : List (Nat × Nat)} {lo hi k : Nat} (h : Part S l lo) (hg : Grown lo hi k) (hin : ∀ y, lo ≤ y → y < hi → S y = true) (hout : S hi = false) (htop : hi ≤ 4294967296) : Part S (l ++ [(lo, k)]) (lo + 2 ^ k) := by
  obtain ⟨g1, g2, g3, g4⟩ := hg
  have hp := pow_pos' k
  have hbig : ∀ j, k < j → lo % 2 ^ j = 0 → full S lo j → False := fun j hj ha hf => by
    have hlt : lo + 2 ^ j ≤ hi := Nat.le_of_not_lt fun hh => by
      have := hf hi (by omega) hh
      rw [hout] at this; cases this
    have hk : k < 32 := by
      refine Nat.lt_of_not_le fun hk => ?_
      have h33 := pow_le' (show 33 ≤ j by omega)
      have : (2 : Nat) ^ 33 = 8589934592 := by decide
      omega
    have := pow_le' (show k + 1 ≤ j by omega)
    exact g4 hk ⟨mod_of_le (by omega) ha, by omega⟩
  have hfull : full S lo k := fun x h1 h2 => hin x h1 (by omega)
  refine ⟨?_, ?_, ?_, ?_, ?_, ?_, ?_, ?_⟩
  · rw [List.pairwise_append]
    refine ⟨h.asc, List.pairwise_singleton _ _, fun x hx y hy => ?_⟩
    rw [List.mem_singleton] at hy; subst hy
    exact h.bel x hx
  · intro x hx
    rcases List.mem_append.1 hx with hx | hx
    · exact h.al x hx
    · rw [List.mem_singleton] at hx; subst hx; exact g1
  · intro x hx
    rcases List.mem_append.1 hx with hx | hx
    · exact h.le x hx
    · rw [List.mem_singleton] at hx; subst hx; exact g3
  · intro x hx
    rcases List.mem_append.1 hx with hx | hx
    · exact h.fl x hx
    · rw [List.mem_singleton] at hx; subst hx; exact hfull
  · intro x hx hk hf
    rcases List.mem_append.1 hx with hx | hx
    · exact h.mx x hx hk hf
    · rw [List.mem_singleton] at hx; subst hx
      dsimp only at hk hf
      have hb := in_base lo (k + 1)
      have ha := base_al lo (k + 1)
      by_cases hlt : lo / 2 ^ (k + 1) * 2 ^ (k + 1) < lo
      · have := h.str _ _ ha hf hlt
        omega
      · have e : lo / 2 ^ (k + 1) * 2 ^ (k + 1) = lo := by omega
        rw [e] at ha hf
        exact hbig (k + 1) (Nat.lt_succ_self k) ha hf
  · intro y hy hs
    by_cases hlt : y < lo
    · obtain ⟨x, hx, h1⟩ := h.all y hlt hs
      exact ⟨x, List.mem_append_left _ hx, h1⟩
    · exact ⟨(lo, k), by simp, by dsimp only; omega, hy⟩
  · intro x hx
    rcases List.mem_append.1 hx with hx | hx
    · have := h.bel x hx; omega
    · rw [List.mem_singleton] at hx; subst hx; exact Nat.le_refl _
  · intro b j ha hf hb
    have hpj := pow_pos' j
    by_cases hlt : b < lo
    · have := h.str b j ha hf hlt; omega
    · by_cases hjk : j ≤ k
      · exact (nest (x := b) g1 ha hjk (by omega) hb (Nat.le_refl _) (by omega)).2
      · have h3 := nest (x := b) ha g1 (by omega) (Nat.le_refl _) (by omega) (by omega) hb
        have e : b = lo := by omega
        rw [e] at ha hf
        exact (hbig j (by omega) ha hf).elim

/-- the list of a block of the set -/
structure NrmB (S : Nat → Bool) (K A : Nat) (l : List (Nat × Nat)) : Prop where
  asc : l.Pairwise (fun x y => x.1 + 2 ^ x.2 ≤ y.1)
  al : ∀ x ∈ l, x.1 % 2 ^ x.2 = 0
  le : ∀ x ∈ l, x.2 ≤ K
  fl : ∀ x ∈ l, full S x.1 x.2
  mx : ∀ x ∈ l, x.2 < K → ¬ full S (x.1 / 2 ^ (x.2 + 1) * 2 ^ (x.2 + 1)) (x.2 + 1)
  all : ∀ y, A ≤ y → y < A + 2 ^ K → S y = true → ∃ x ∈ l, x.1 ≤ y ∧ y < x.1 + 2 ^ x.2
  wi : ∀ x ∈ l, A ≤ x.1 ∧ x.1 + 2 ^ x.2 ≤ A + 2 ^ K
theorem NrmB.root {S : Nat → Bool} {l : List (Nat × Nat)} (h : NrmB S 32 0 l) (hS : ∀ y, S y = true → y < 4294967296) : Nrm S l :=
  ⟨h.asc, h.al, h.le, h.fl, h.mx, fun y hy => h.all y (Nat.zero_le _) (by have := hS y hy; simpa using this) hy⟩
theorem NrmB.whole {S : Nat → Bool} {K A : Nat} (ha : A % 2 ^ K = 0) (hf : full S A K) : NrmB S K A [(A, K)] := by
  refine ⟨List.pairwise_singleton _ _, ?_, ?_, ?_, ?_, ?_, ?_⟩
  · intro x hx; rw [List.mem_singleton] at hx; subst hx; exact ha
  · intro x hx; rw [List.mem_singleton] at hx; subst hx; exact Nat.le_refl _
  · intro x hx; rw [List.mem_singleton] at hx; subst hx; exact hf
  · intro x hx; rw [List.mem_singleton] at hx; subst hx; intro h; exact absurd h (Nat.lt_irrefl _)
  · intro y h1 h2 _; exact ⟨(A, K), by simp, h1, h2⟩
  · intro x hx; rw [List.mem_singleton] at hx; subst hx; exact ⟨Nat.le_refl _, Nat.le_refl _⟩
theorem NrmB.none {S : Nat → Bool} {K A : Nat} (hf : ∀ y, A ≤ y → y < A + 2 ^ K → S y = false) : NrmB S K A [] :=
  ⟨List.Pairwise.nil, fun x h => (by cases h), fun x h => (by cases h), fun x h => (by cases h), fun x h => (by cases h), fun y h1 h2 h3 => (by rw [hf y h1 h2] at h3; cases h3), fun x h => (by cases h)⟩
/-- a list of a block that holds a member of the block's size is that member -/
theorem NrmB.single {S : Nat → Bool} {K A : Nat} {l : List (Nat × Nat)} (h : NrmB S K A l) {x : Nat × Nat} (hx : x ∈ l) (hk : x.2 = K) : l = [(A, K)] := by
  have hw := h.wi x hx
  have e : x = (A, K) := by
    obtain ⟨a, k⟩ := x
    dsimp only at hk hw
    subst hk
    rw [show a = A by omega]
  rw [e] at hx
  have hall : ∀ y ∈ l, y = (A, K) := by
    intro y hy
    have hwy := h.wi y hy
    have hpy := pow_pos' y.2
    obtain ⟨i, hi, rfl⟩ := List.mem_iff_getElem.1 hy
    obtain ⟨j, hj, hje⟩ := List.mem_iff_getElem.1 hx
    have hp := List.pairwise_iff_getElem.1 h.asc
    rcases Nat.lt_trichotomy i j with hij | hij | hij
    · have := hp i j hi hj hij
      rw [hje] at this
      dsimp only at this
      omega
    · subst hij; exact hje
    · have := hp j i hj hi hij
      rw [hje] at this
      dsimp only at this
      omega
  match l, hall, h.asc, hx with
  | [y], hall, _, _ => rw [hall y (by simp)]
  | y :: z :: r, hall, hasc, _ =>
    have h1 := (List.pairwise_cons.1 hasc).1 z (by simp)
    rw [hall y (by simp), hall z (by simp)] at h1
    have := pow_pos' K
    dsimp only at h1
    omega
theorem NrmB.of_full {S : Nat → Bool} {K A : Nat} {l : List (Nat × Nat)} (ha : A % 2 ^ K = 0) (h : NrmB S K A l) (hf : full S A K) : l = [(A, K)] := by
  have hp := pow_pos' K
  obtain ⟨x, hx, h1, h2⟩ := h.all A (Nat.le_refl _) (by omega) (hf A (Nat.le_refl _) (by omega))
  refine h.single hx (Nat.le_antisymm (h.le x hx) (Nat.le_of_not_lt fun hlt => h.mx x hx hlt ?_))
  have hb := in_base x.1 (x.2 + 1)
  have hw := h.wi x hx
  have hpx := pow_pos' x.2
  have := nest (x := x.1) ha (base_al x.1 (x.2 + 1)) hlt hw.1 (by omega) hb.1 hb.2
  exact hf.sub this.1 this.2
/-- the lists of the halves make up the list of the block -/
theorem NrmB.join {S : Nat → Bool} {K A : Nat} {l m : List (Nat × Nat)} (ha : A % 2 ^ (K + 1) = 0) (hl : NrmB S K A l) (hm : NrmB S K (A + 2 ^ K) m) :
    NrmB S (K + 1) A (if l = [(A, K)] ∧ m = [(A + 2 ^ K, K)] then [(A, K + 1)] else l ++ m) := by
  have e2 : 2 ^ (K + 1) = 2 ^ K + 2 ^ K := by rw [Nat.pow_succ]; omega
  have hp := pow_pos' K
  have haK : A % 2 ^ K = 0 := mod_of_le (Nat.le_succ K) ha
  have haK2 : (A + 2 ^ K) % 2 ^ K = 0 := by rw [Nat.add_mod_right]; exact haK
  split
  · rename_i hb
    obtain ⟨rfl, rfl⟩ := hb
    refine NrmB.whole ha fun x h1 h2 => ?_
    by_cases hx : x < A + 2 ^ K
    · exact hl.fl (A, K) (by simp) x h1 hx
    · exact hm.fl (A + 2 ^ K, K) (by simp) x (by dsimp only; omega) (by dsimp only; omega)
  · rename_i hb
    have hnf : ¬ full S A (K + 1) := fun hf => hb ⟨hl.of_full haK (hf.sub (Nat.le_refl _) (by omega)), hm.of_full haK2 (hf.sub (by omega) (by omega))⟩
    have hpar : ∀ x : Nat × Nat, x.2 = K → A ≤ x.1 → x.1 + 2 ^ x.2 ≤ A + 2 ^ (K + 1) → ¬ full S (x.1 / 2 ^ (x.2 + 1) * 2 ^ (x.2 + 1)) (x.2 + 1) := by
      intro x hk h1 h2 hf
      rw [hk] at hf h2
      rw [base_of ha h1 (by omega)] at hf
      exact hnf hf
    refine ⟨?_, ?_, ?_, ?_, ?_, ?_, ?_⟩
    · rw [List.pairwise_append]
      exact ⟨hl.asc, hm.asc, fun x hx y hy => by have := (hl.wi x hx).2; have := (hm.wi y hy).1; omega⟩
    · intro x hx; rcases List.mem_append.1 hx with hx | hx
      · exact hl.al x hx
      · exact hm.al x hx
    · intro x hx; rcases List.mem_append.1 hx with hx | hx
      · exact Nat.le_succ_of_le (hl.le x hx)
      · exact Nat.le_succ_of_le (hm.le x hx)
    · intro x hx; rcases List.mem_append.1 hx with hx | hx
      · exact hl.fl x hx
      · exact hm.fl x hx
    · intro x hx hk
      rcases List.mem_append.1 hx with hx | hx
      · by_cases e : x.2 = K
        · have := hl.wi x hx; exact hpar x e this.1 (by omega)
        · exact hl.mx x hx (by omega)
      · by_cases e : x.2 = K
        · have := hm.wi x hx; exact hpar x e (by omega) (by omega)
        · exact hm.mx x hx (by omega)
    · intro y h1 h2 hs
      by_cases hy : y < A + 2 ^ K
      · obtain ⟨x, hx, h3⟩ := hl.all y h1 hy hs
        exact ⟨x, List.mem_append_left _ hx, h3⟩
      · obtain ⟨x, hx, h3⟩ := hm.all y (by omega) (by omega) hs
        exact ⟨x, List.mem_append_right _ hx, h3⟩
    · intro x hx; rcases List.mem_append.1 hx with hx | hx
      · have := hl.wi x hx; omega
      · have := hm.wi x hx; omega
end Go.Proofs.Ytegponbmelgngaa.CM
