/-
  What a list of blocks says of a block of addresses, and of its halves.
-/
import Derived.Test.YtegponbmelgngaaCoverRng
namespace Go.Proofs.Ytegponbmelgngaa.CM
set_option linter.unusedSimpArgs false
set_option linter.unusedVariables false

/-- the order of prefixes: by address, the larger block first -/
def ltB (x y : Nat × Nat) : Prop := x.1 < y.1 ∨ (x.1 = y.1 ∧ y.2 < x.2)
/-- the blocks of a list lie in a block, and say what the set is there -/
structure Lies (S : Nat → Bool) (l : List (Nat × Nat)) (A K : Nat) : Prop where
  asc : l.Pairwise ltB
  al : ∀ x ∈ l, x.1 % 2 ^ x.2 = 0
  wi : ∀ x ∈ l, A ≤ x.1 ∧ x.1 + 2 ^ x.2 ≤ A + 2 ^ K
  set : ∀ y, A ≤ y → y < A + 2 ^ K → (S y = true ↔ ∃ x ∈ l, inB x y)
/-- what the walk knows of a list at a block: it is empty, or its first block holds all, or all its blocks are smaller -/
inductive Inv (S : Nat → Bool) (l : List (Nat × Nat)) (A K : Nat) : Prop where
  | none (h : l = []) (hs : ∀ y, A ≤ y → y < A + 2 ^ K → S y = false)
  | whole (x : Nat × Nat) (r : List (Nat × Nat)) (h : l = x :: r) (hx : x.1 % 2 ^ x.2 = 0) (h1 : x.1 ≤ A) (h2 : A + 2 ^ K ≤ x.1 + 2 ^ x.2) (hs : full S A K)
  | parts (h : l ≠ []) (hl : Lies S l A K) (hk : ∀ x ∈ l, x.2 < K)
theorem Lies.size {S : Nat → Bool} {l : List (Nat × Nat)} {A K : Nat} (h : Lies S l A K) : ∀ x ∈ l, x.2 ≤ K := fun x hx => Nat.le_of_not_lt fun hlt => by
  have := h.wi x hx
  have h1 := pow_le' (show K + 1 ≤ x.2 by omega)
  have h2 : 2 ^ (K + 1) = 2 ^ K + 2 ^ K := by rw [Nat.pow_succ]; omega
  have := pow_pos' K
  omega
theorem Lies.inv {S : Nat → Bool} {l : List (Nat × Nat)} {A K : Nat} (ha : A % 2 ^ K = 0) (h : Lies S l A K) : Inv S l A K := by
  cases l with
  | nil => exact .none rfl fun y h1 h2 => Bool.eq_false_iff.2 fun e => by obtain ⟨x, hx, _⟩ := (h.set y h1 h2).1 e; cases hx
  | cons x r =>
    have hsz := h.size
    have hw := h.wi x (by simp)
    by_cases e : x.2 = K
    · have ex : x.1 = A := by rw [e] at hw; omega
      exact .whole x r rfl (h.al x (by simp)) (by omega) (by rw [ex, e]; exact Nat.le_refl _) (fun y h1 h2 => (h.set y h1 h2).2 ⟨x, by simp, by rw [inB, ex, e]; exact ⟨h1, h2⟩⟩)
    · refine .parts (List.cons_ne_nil _ _) h fun y hy => ?_
      have hyK := hsz y hy
      rcases List.mem_cons.1 hy with rfl | hy'
      · omega
      · refine Nat.lt_of_le_of_ne hyK fun e2 => ?_
        have hlt := (List.pairwise_cons.1 h.asc).1 y hy'
        have hwy := h.wi y hy
        rw [e2] at hwy
        have hxK := hsz x (by simp)
        unfold ltB at hlt
        omega
/-- a list that is empty or whose first block holds all says the same of the halves -/
theorem Inv.low {S : Nat → Bool} {l : List (Nat × Nat)} {A K : Nat} (h : Inv S l A (K + 1)) (hu : l = [] ∨ ∃ x r, l = x :: r ∧ K + 1 ≤ x.2) : Inv S l A K ∧ Inv S l (A + 2 ^ K) K := by
  have e2 : 2 ^ (K + 1) = 2 ^ K + 2 ^ K := by rw [Nat.pow_succ]; omega
  have hp := pow_pos' K
  cases h with
  | none h hs => exact ⟨.none h fun y h1 h2 => hs y h1 (by omega), .none h fun y h1 h2 => hs y (by omega) (by omega)⟩
  | whole x r h hx h1 h2 hs => exact ⟨.whole x r h hx h1 (by omega) (hs.sub (Nat.le_refl _) (by omega)), .whole x r h hx (by omega) (by omega) (hs.sub (by omega) (by omega))⟩
  | parts h hl hk =>
    rcases hu with rfl | ⟨x, r, rfl, hx⟩
    · exact absurd rfl h
    · have := hk x (by simp); omega
/-- a list of smaller blocks parts at the upper half -/
theorem Lies.split {S : Nat → Bool} {l m : List (Nat × Nat)} {A K : Nat} (ha : A % 2 ^ (K + 1) = 0) (h : Lies S (l ++ m) A (K + 1)) (hk : ∀ x ∈ l ++ m, x.2 < K + 1)
    (hl : ∀ x ∈ l, ltB x (A + 2 ^ K, K)) (hm : ∀ x ∈ m, ¬ ltB x (A + 2 ^ K, K)) : Inv S l A K ∧ Inv S m (A + 2 ^ K) K := by
  have e2 : 2 ^ (K + 1) = 2 ^ K + 2 ^ K := by rw [Nat.pow_succ]; omega
  have hp := pow_pos' K
  have ha1 : A % 2 ^ K = 0 := mod_of_le (Nat.le_succ K) ha
  have ha2 : (A + 2 ^ K) % 2 ^ K = 0 := by rw [Nat.add_mod_right]; exact ha1
  obtain ⟨p1, p2, p3⟩ := List.pairwise_append.1 h.asc
  -- a block below the upper half lies in the lower one
  have hlo : ∀ x ∈ l, x.1 + 2 ^ x.2 ≤ A + 2 ^ K := by
    intro x hx
    have hw := h.wi x (by simp [hx])
    have hkx := hk x (by simp [hx])
    have hpx := pow_pos' x.2
    have hlt : x.1 < A + 2 ^ K := by
      have := hl x hx
      unfold ltB at this
      dsimp only at this
      omega
    exact (nest (x := x.1) ha1 (h.al x (by simp [hx])) (by omega) hw.1 hlt (Nat.le_refl _) (by omega)).2
  have hhi : ∀ x ∈ m, A + 2 ^ K ≤ x.1 := by
    intro x hx
    have := hm x hx
    have hkx := hk x (by simp [hx])
    unfold ltB at this
    dsimp only at this
    omega
  refine ⟨Lies.inv ha1 ⟨p1, fun x hx => h.al x (by simp [hx]), fun x hx => ⟨(h.wi x (by simp [hx])).1, hlo x hx⟩, fun y h1 h2 => ?_⟩, Lies.inv ha2 ⟨p2, fun x hx => h.al x (by simp [hx]), fun x hx => ⟨hhi x hx, by have := (h.wi x (by simp [hx])).2; omega⟩, fun y h1 h2 => ?_⟩⟩
  · rw [h.set y h1 (by omega)]
    constructor
    · rintro ⟨x, hx, hy⟩
      rcases List.mem_append.1 hx with hx | hx
      · exact ⟨x, hx, hy⟩
      · have := hhi x hx; have := hy.1; omega
    · rintro ⟨x, hx, hy⟩; exact ⟨x, List.mem_append_left _ hx, hy⟩
  · rw [h.set y (by omega) (by omega)]
    constructor
    · rintro ⟨x, hx, hy⟩
      rcases List.mem_append.1 hx with hx | hx
      · have := hlo x hx; have := hy.2; omega
      · exact ⟨x, hx, hy⟩
    · rintro ⟨x, hx, hy⟩; exact ⟨x, List.mem_append_right _ hx, hy⟩
end Go.Proofs.Ytegponbmelgngaa.CM
