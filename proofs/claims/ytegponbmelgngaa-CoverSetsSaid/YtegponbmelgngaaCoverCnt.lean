/-
  How many addresses a set has; intervals that are joined.
-/
import Derived.Test.YtegponbmelgngaaCoverPart
namespace Go.Proofs.Ytegponbmelgngaa.CM
set_option linter.unusedSimpArgs false
set_option linter.unusedVariables false

/-- how many addresses below n are in the set -/
def cnt (S : Nat → Bool) : Nat → Nat
  | 0 => 0
  | n + 1 => cnt S n + if S n = true then 1 else 0
theorem cnt_full {S : Nat → Bool} {a : Nat} : ∀ {m : Nat}, (∀ x, a ≤ x → x < a + m → S x = true) → cnt S (a + m) = cnt S a + m
  | 0, _ => rfl
  | m + 1, h => by
    have ih := cnt_full (m := m) (S := S) (a := a) fun x h1 h2 => h x h1 (by omega)
    show cnt S (a + m) + (if S (a + m) = true then 1 else 0) = _
    rw [ih, if_pos (h (a + m) (by omega) (by omega))]
    omega
theorem cnt_none {S : Nat → Bool} {a : Nat} : ∀ {m : Nat}, (∀ x, a ≤ x → x < a + m → S x = false) → cnt S (a + m) = cnt S a
  | 0, _ => rfl
  | m + 1, h => by
    have ih := cnt_none (m := m) (S := S) (a := a) fun x h1 h2 => h x h1 (by omega)
    show cnt S (a + m) + (if S (a + m) = true then 1 else 0) = _
    rw [ih, if_neg (by rw [h (a + m) (by omega) (by omega)]; decide)]
    omega
theorem cnt_le (S : Nat → Bool) : ∀ n, cnt S n ≤ n
  | 0 => Nat.le_refl _
  | n + 1 => by have := cnt_le S n; show cnt S n + _ ≤ _; split <;> omega
theorem cnt_or_and (S T : Nat → Bool) : ∀ n, cnt (fun x => S x || T x) n + cnt (fun x => S x && T x) n = cnt S n + cnt T n
  | 0 => rfl
  | n + 1 => by
    have ih := cnt_or_and S T n
    show (cnt _ n + _) + (cnt _ n + _) = (cnt S n + _) + (cnt T n + _)
    cases hS : S n <;> cases hT : T n <;> simp [hS, hT] <;> omega
theorem cnt_sub_and (S T : Nat → Bool) : ∀ n, cnt (fun x => S x && !T x) n + cnt (fun x => S x && T x) n = cnt S n
  | 0 => rfl
  | n + 1 => by
    have ih := cnt_sub_and S T n
    show (cnt _ n + _) + (cnt _ n + _) = (cnt S n + _)
    cases hS : S n <;> cases hT : T n <;> simp [hS, hT] <;> omega
theorem cnt_congr {S T : Nat → Bool} : ∀ {n : Nat}, (∀ x, x < n → S x = T x) → cnt S n = cnt T n
  | 0, _ => rfl
  | n + 1, h => by
    show cnt S n + _ = cnt T n + _
    rw [cnt_congr (n := n) fun x hx => h x (by omega), h n (by omega)]
/-- intervals that are apart and make up the set count its addresses -/
theorem cnt_ivs {S : Nat → Bool} : ∀ {l : List (Nat × Nat)} {lo N : Nat}, l.Pairwise (fun x y => x.2 ≤ y.1) → (∀ x ∈ l, lo ≤ x.1 ∧ x.1 ≤ x.2 ∧ x.2 ≤ N) → (∀ x ∈ l, ∀ y, x.1 ≤ y → y < x.2 → S y = true) →
    (∀ y, lo ≤ y → y < N → S y = true → ∃ x ∈ l, x.1 ≤ y ∧ y < x.2) → lo ≤ N → cnt S N = cnt S lo + (l.map (fun x => x.2 - x.1)).sum
  | [], lo, N, _, _, _, h, hl => by
    have := cnt_none (S := S) (a := lo) (m := N - lo) fun x h1 h2 => by
      cases hs : S x
      · rfl
      · obtain ⟨_, hx, _⟩ := h x h1 (by omega) hs; cases hx
    rw [show lo + (N - lo) = N by omega] at this
    simpa using this
  | x :: l, lo, N, ha, hb, hf, h, hl => by
    obtain ⟨ha1, ha2⟩ := List.pairwise_cons.1 ha
    obtain ⟨b1, b2, b3⟩ := hb x (by simp)
    have c1 := cnt_none (S := S) (a := lo) (m := x.1 - lo) fun y h1 h2 => by
      cases hs : S y
      · rfl
      · obtain ⟨z, hz, h3, h4⟩ := h y h1 (by omega) hs
        rcases List.mem_cons.1 hz with rfl | hz
        · omega
        · have := ha1 z hz; omega
    have c2 := cnt_full (S := S) (a := x.1) (m := x.2 - x.1) fun y h1 h2 => hf x (by simp) y h1 (by omega)
    have ih := cnt_ivs (S := S) (l := l) (lo := x.2) (N := N) ha2 (fun z hz => ⟨ha1 z hz, (hb z (by simp [hz])).2⟩) (fun z hz => hf z (by simp [hz])) (fun y h1 h2 h3 => by
      obtain ⟨z, hz, h4, h5⟩ := h y (by omega) h2 h3
      rcases List.mem_cons.1 hz with rfl | hz
      · omega
      · exact ⟨z, hz, h4, h5⟩) b3
    rw [show lo + (x.1 - lo) = x.1 by omega] at c1
    rw [show x.1 + (x.2 - x.1) = x.2 by omega] at c2
    rw [ih, c2, c1, List.map_cons, List.sum_cons]
    omega
/-- the blocks of a normal list count its addresses -/
theorem Nrm.count {S : Nat → Bool} {l : List (Nat × Nat)} {N : Nat} (h : Nrm S l) (hN : ∀ y, S y = true → y < N) : cnt S N = (l.map (fun x => 2 ^ x.2)).sum := by
  have := cnt_ivs (S := S) (l := l.map (fun x => (x.1, x.1 + 2 ^ x.2))) (lo := 0) (N := N)
    (by rw [List.pairwise_map]; exact h.asc)
    (fun y hy => by
      obtain ⟨x, hx, rfl⟩ := List.mem_map.1 hy
      have hp := pow_pos' x.2
      have := hN _ (h.fl x hx (x.1 + 2 ^ x.2 - 1) (by omega) (by omega))
      dsimp only
      omega)
    (fun y hy => by
      obtain ⟨x, hx, rfl⟩ := List.mem_map.1 hy
      exact h.fl x hx)
    (fun y _ _ hs => by
      obtain ⟨x, hx, h1, h2⟩ := h.all y hs
      exact ⟨_, List.mem_map.2 ⟨x, hx, rfl⟩, h1, h2⟩)
    (Nat.zero_le _)
  rw [this, List.map_map]
  show 0 + _ = _
  rw [Nat.zero_add]
  congr 1
  apply List.map_congr_left
  intro x _
  exact Nat.add_sub_cancel_left _ _

/-- intervals that ascend and do not touch, and the set that they make up -/
structure Sep (S : Nat → Bool) (l : List (Nat × Nat)) : Prop where
  asc : l.Pairwise (fun x y => x.2 < y.1)
  ne : ∀ x ∈ l, x.1 < x.2
  mem : ∀ y, S y = true ↔ ∃ x ∈ l, x.1 ≤ y ∧ y < x.2
/-- one more interval, that begins at or behind the beginnings of all -/
def mstep (l : List (Nat × Nat)) (s : Nat × Nat) : List (Nat × Nat) :=
  match l.getLast? with
  | none => if s.1 < s.2 then [s] else []
  | some t => if s.1 ≤ t.2 then l.dropLast ++ [(t.1, max t.2 s.2)] else if s.1 < s.2 then l ++ [s] else l
theorem Sep.step {S : Nat → Bool} {l : List (Nat × Nat)} {s : Nat × Nat} (h : Sep S l) (hs : ∀ x ∈ l, x.1 ≤ s.1) : Sep (fun y => S y || (decide (s.1 ≤ y) && decide (y < s.2))) (mstep l s) := by
  have hor : ∀ y, (S y || (decide (s.1 ≤ y) && decide (y < s.2))) = true ↔ S y = true ∨ (s.1 ≤ y ∧ y < s.2) := fun y => by simp
  unfold mstep
  rcases List.eq_nil_or_concat l with rfl | ⟨i, t, rfl⟩
  · simp only [List.getLast?_nil]
    split
    · refine ⟨List.pairwise_singleton _ _, fun x hx => by rw [List.mem_singleton] at hx; subst hx; assumption, fun y => ?_⟩
      rw [hor, h.mem]
      simp
    · refine ⟨List.Pairwise.nil, fun x hx => (by cases hx), fun y => ?_⟩
      rw [hor, h.mem]
      constructor
      · rintro (⟨_, h1, _⟩ | h1)
        · cases h1
        · omega
      · rintro ⟨_, h1, _⟩; cases h1
  · rw [List.concat_eq_append] at h hs ⊢
    rw [List.getLast?_concat, List.dropLast_concat]
    obtain ⟨a1, a2, a3⟩ := List.pairwise_append.1 h.asc
    have ht := h.ne t (by simp)
    have hts := hs t (by simp)
    dsimp only
    split
    · rename_i hle
      refine ⟨?_, ?_, ?_⟩
      · rw [List.pairwise_append]
        refine ⟨a1, List.pairwise_singleton _ _, fun x hx y hy => ?_⟩
        rw [List.mem_singleton] at hy; subst hy
        exact a3 x hx t (by simp)
      · intro x hx
        rcases List.mem_append.1 hx with hx | hx
        · exact h.ne x (by simp [hx])
        · rw [List.mem_singleton] at hx; subst hx; dsimp only; omega
      · intro y
        rw [hor, h.mem]
        constructor
        · rintro (⟨x, hx, h1, h2⟩ | ⟨h1, h2⟩)
          · rcases List.mem_append.1 hx with hx | hx
            · exact ⟨x, by simp [hx], h1, h2⟩
            · rw [List.mem_singleton] at hx; subst hx
              exact ⟨(x.1, max x.2 s.2), by simp, h1, by dsimp only; omega⟩
          · exact ⟨(t.1, max t.2 s.2), by simp, by dsimp only; omega, by dsimp only; omega⟩
        · rintro ⟨x, hx, h1, h2⟩
          rcases List.mem_append.1 hx with hx | hx
          · exact .inl ⟨x, by simp [hx], h1, h2⟩
          · rw [List.mem_singleton] at hx; subst hx
            dsimp only at h1 h2
            by_cases hy : y < t.2
            · exact .inl ⟨t, by simp, h1, hy⟩
            · exact .inr ⟨by omega, by omega⟩
    · rename_i hgt
      split
      · rename_i hne
        refine ⟨?_, ?_, ?_⟩
        · rw [List.pairwise_append]
          refine ⟨h.asc, List.pairwise_singleton _ _, fun x hx y hy => ?_⟩
          rw [List.mem_singleton] at hy; subst hy
          rcases List.mem_append.1 hx with hx | hx
          · have := a3 x hx t (by simp); omega
          · rw [List.mem_singleton] at hx; subst hx; omega
        · intro x hx
          rcases List.mem_append.1 hx with hx | hx
          · exact h.ne x hx
          · rw [List.mem_singleton] at hx; subst hx; exact hne
        · intro y
          rw [hor, h.mem]
          constructor
          · rintro (⟨x, hx, h1⟩ | h1)
            · exact ⟨x, List.mem_append_left _ hx, h1⟩
            · exact ⟨s, by simp, h1⟩
          · rintro ⟨x, hx, h1⟩
            rcases List.mem_append.1 hx with hx | hx
            · exact .inl ⟨x, hx, h1⟩
            · rw [List.mem_singleton] at hx; subst hx; exact .inr h1
      · rename_i hne
        refine ⟨h.asc, h.ne, fun y => ?_⟩
        rw [hor, h.mem]
        constructor
        · rintro (h1 | h1)
          · exact h1
          · omega
        · exact .inl
/-- what a step keeps: all beginnings are at or before the new one's -/
theorem mstep_lo {l : List (Nat × Nat)} {s : Nat × Nat} (hs : ∀ x ∈ l, x.1 ≤ s.1) : ∀ x ∈ mstep l s, x.1 ≤ s.1 := by
  unfold mstep
  rcases List.eq_nil_or_concat l with rfl | ⟨i, t, rfl⟩
  · simp only [List.getLast?_nil]
    split
    · intro x hx; rw [List.mem_singleton] at hx; subst hx; exact Nat.le_refl _
    · intro x hx; cases hx
  · rw [List.concat_eq_append] at hs ⊢
    rw [List.getLast?_concat, List.dropLast_concat]
    dsimp only
    split
    · intro x hx
      rcases List.mem_append.1 hx with hx | hx
      · exact hs x (by simp [hx])
      · rw [List.mem_singleton] at hx; subst hx; exact hs t (by simp)
    · split
      · intro x hx
        rcases List.mem_append.1 hx with hx | hx
        · exact hs x hx
        · rw [List.mem_singleton] at hx; subst hx; exact Nat.le_refl _
      · exact hs
end Go.Proofs.Ytegponbmelgngaa.CM
