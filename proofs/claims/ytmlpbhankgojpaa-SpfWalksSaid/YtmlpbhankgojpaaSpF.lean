/-
  Shortest paths as mathematics: distances between all nodes, one more node allowed between at a time.
-/
import Derived.Test.YtmlpbhankgojpaaSpM
namespace Go.Proofs.Ytmlpbhankgojpaa.SP
open GM Classical
set_option linter.unusedVariables false
set_option linter.unusedSimpArgs false

/-- a way with nodes below m between -/
inductive WI (l : List E) (m : Int) : Int → Int → Int → Prop
  | nil {i : Int} : WI l m i i 0
  | edge {i k c : Int} (he : (i, k, c) ∈ l) : WI l m i k c
  | cat {i j k a b : Int} (h : WI l m i j a) (g : WI l m j k b) (hj : j < m) : WI l m i k (a + b)
section
variable {R N : Int} {l : List E} (hv : Valid R N l)
include hv
theorem WI.nonneg {m i k c : Int} (h : WI l m i k c) : 0 ≤ c := by
  induction h with
  | nil => omega
  | edge he => have := SP.edge hv he; omega
  | cat h g hj ih1 ih2 => omega
theorem WI.node {m i k c : Int} (h : WI l m i k c) (hn : 0 ≤ i ∧ i < R + N) : 0 ≤ k ∧ k < R + N := by
  induction h with
  | nil => exact hn
  | edge he => have := SP.edge hv he; omega
  | cat h g hj ih1 ih2 => exact ih2 (ih1 hn)
omit hv in
theorem WI.way {m i k c : Int} (h : WI l m i k c) : W l i k c := by
  induction h with
  | nil => exact W.nil
  | edge he => have := W.step W.nil he; rwa [Int.zero_add] at this
  | cat h g hj ih1 ih2 => exact ih1.trans ih2
theorem WI.of {i k c : Int} (h : W l i k c) : WI l (R + N) i k c := by
  induction h with
  | nil => exact WI.nil
  | step h he ih => exact WI.cat ih (WI.edge he) (SP.edge hv he).2.1
/-- one more node between -/
theorem WI.more {m i k c : Int} (h : WI l (m + 1) i k c) : (∃ d, WI l m i k d ∧ d ≤ c) ∨ ∃ a b, WI l m i m a ∧ WI l m m k b ∧ a + b ≤ c := by
  induction h with
  | nil => exact .inl ⟨0, WI.nil, Int.le_refl _⟩
  | edge he => exact .inl ⟨_, WI.edge he, Int.le_refl _⟩
  | cat h g hj ih1 ih2 =>
    rename_i i j k a b
    by_cases e : j = m
    · subst e
      obtain ⟨a1, h1, h2⟩ : ∃ a1, WI l j i j a1 ∧ a1 ≤ a := by
        rcases ih1 with ⟨d, h1, h2⟩ | ⟨x, y, h1, h2, h3⟩
        · exact ⟨d, h1, h2⟩
        · have := h2.nonneg hv; exact ⟨x, h1, by omega⟩
      obtain ⟨b1, h3, h4⟩ : ∃ b1, WI l j j k b1 ∧ b1 ≤ b := by
        rcases ih2 with ⟨d, h1, h2⟩ | ⟨x, y, h1, h2, h3⟩
        · exact ⟨d, h1, h2⟩
        · have := h1.nonneg hv; exact ⟨y, h2, by omega⟩
      exact .inr ⟨a1, b1, h1, h3, by omega⟩
    · have hjm : j < m := by omega
      rcases ih1 with ⟨d, h1, h2⟩ | ⟨x, y, h1, h2, h3⟩
      · rcases ih2 with ⟨d', h1', h2'⟩ | ⟨x', y', h1', h2', h3'⟩
        · exact .inl ⟨d + d', WI.cat h1 h1' hjm, by omega⟩
        · exact .inr ⟨d + x', y', WI.cat h1 h1' hjm, h2', by omega⟩
      · rcases ih2 with ⟨d', h1', h2'⟩ | ⟨x', y', h1', h2', h3'⟩
        · exact .inr ⟨x, y + d', h1, WI.cat h2 h1' hjm, by omega⟩
        · have := h2.nonneg hv
          have := h1'.nonneg hv
          exact .inr ⟨x, y', h1, h2', by omega⟩
end
/-- no entry is better than a way -/
def GoodA (R N : Int) (l : List E) (D : Int → Int → Int) : Prop := ∀ i k, 0 ≤ i → i < R + N → 0 ≤ k → k < R + N → (0 ≤ D i k ∧ W l i k (D i k)) ∨ D i k = -1
/-- an entry is as good as every way with nodes below m between -/
def AtM (l : List E) (m : Int) (D : Int → Int → Int) (i k : Int) : Prop := ∀ c, WI l m i k c → 0 ≤ D i k ∧ D i k ≤ c
def put2 (D : Int → Int → Int) (i k x : Int) : Int → Int → Int := fun a b => if a = i ∧ b = k then x else D a b
def start2 (l : List E) : Int → Int → Int := fun i k => if i = k then 0 else match l.find? (fun e => decide (e.1 = i ∧ e.2.1 = k)) with
  | none => -1
  | some e => e.2.2
section
variable {R N : Int} {l : List E} (hv : Valid R N l) {D : Int → Int → Int} {m i k : Int}
include hv
omit hv in
theorem GoodA.put (h : GoodA R N l D) (hi : 0 ≤ i ∧ i < R + N) (hm : 0 ≤ m ∧ m < R + N) (hk : 0 ≤ k ∧ k < R + N) (h1 : 0 ≤ D i m) (h2 : 0 ≤ D m k) : GoodA R N l (put2 D i k (D i m + D m k)) := fun a b a0 a1 b0 b1 => by
  unfold put2
  split
  · rename_i e
    obtain ⟨rfl, rfl⟩ := e
    rcases h a m a0 a1 hm.1 hm.2 with ⟨_, h3⟩ | h3
    · rcases h m b hm.1 hm.2 b0 b1 with ⟨_, h4⟩ | h4
      · exact .inl ⟨by omega, h3.trans h4⟩
      · omega
    · omega
  · exact h a b a0 a1 b0 b1
omit hv in
theorem AtM.put {m' : Int} {a b x : Int} (h : AtM l m' D a b) (hx : 0 ≤ x) (hb : D i k < 0 ∨ x < D i k) : AtM l m' (put2 D i k x) a b := fun c hc => by
  have := h c hc
  unfold put2
  split
  · rename_i e
    obtain ⟨rfl, rfl⟩ := e
    omega
  · exact this
/-- behind a round an entry is as good as with one more node between -/
theorem AtM.next (h : AtM l m D i k) (h1 : AtM l m D i m) (h2 : AtM l m D m k) (hs : 0 ≤ D i m → 0 ≤ D m k → 0 ≤ D i k ∧ D i k ≤ D i m + D m k) : AtM l (m + 1) D i k := fun c hc => by
  rcases hc.more hv with ⟨d, h3, h4⟩ | ⟨a, b, h3, h4, h5⟩
  · have := h d h3; omega
  · have a1 := h1 a h3
    have a2 := h2 b h4
    have := hs a1.1 a2.1
    omega
theorem AtM.nextPut (h : AtM l m D i k) (h1 : AtM l m D i m) (h2 : AtM l m D m k) (p1 : 0 ≤ D i m) (p2 : 0 ≤ D m k) (hb : D i k < 0 ∨ D i m + D m k < D i k) : AtM l (m + 1) (put2 D i k (D i m + D m k)) i k := fun c hc => by
  have e : put2 D i k (D i m + D m k) i k = D i m + D m k := by unfold put2; rw [if_pos ⟨rfl, rfl⟩]
  rw [e]
  rcases hc.more hv with ⟨d, h3, h4⟩ | ⟨a, b, h3, h4, h5⟩
  · have := h d h3; omega
  · have a1 := h1 a h3
    have a2 := h2 b h4
    omega
omit hv in
theorem find_edge {i k : Int} : (∃ c, (i, k, c) ∈ l ∧ l.find? (fun e => decide (e.1 = i ∧ e.2.1 = k)) = some (i, k, c)) ∨ ((∀ c, (i, k, c) ∉ l) ∧ l.find? (fun e => decide (e.1 = i ∧ e.2.1 = k)) = none) := by
  cases hf : l.find? (fun e => decide (e.1 = i ∧ e.2.1 = k)) with
  | none =>
    refine .inr ⟨fun c hc => ?_, rfl⟩
    have := List.find?_eq_none.1 hf _ hc
    simp at this
  | some e =>
    have h1 := List.find?_some hf
    have h2 := List.mem_of_find?_eq_some hf
    simp at h1
    obtain ⟨a, b, c⟩ := e
    obtain ⟨rfl, rfl⟩ := h1
    exact .inl ⟨c, h2, rfl⟩
theorem edge_one {i k c d : Int} (h1 : (i, k, c) ∈ l) (h2 : (i, k, d) ∈ l) : c = d := by
  obtain ⟨p, hp⟩ := List.getElem?_of_mem h1
  obtain ⟨q, hq⟩ := List.getElem?_of_mem h2
  obtain ⟨p1, p2⟩ := List.getElem?_eq_some_iff.1 hp
  obtain ⟨q1, q2⟩ := List.getElem?_eq_some_iff.1 hq
  have irr : ∀ a b : Int, ¬ bef (i, k, a) (i, k, b) = true := fun a b h => by rw [bef_iff] at h; dsimp only at h; omega
  rcases Nat.lt_trichotomy p q with e | e | e
  · have := List.pairwise_iff_getElem.1 hv.asc p q p1 q1 e
    rw [p2, q2] at this; exact absurd this (irr _ _)
  · subst e; rw [hp] at hq; cases hq; rfl
  · have := List.pairwise_iff_getElem.1 hv.asc q p q1 p1 e
    rw [p2, q2] at this; exact absurd this (irr _ _)
theorem start_good : GoodA R N l (start2 l) := fun i k i0 i1 k0 k1 => by
  unfold start2
  by_cases e : i = k
  · subst e; rw [if_pos rfl]; exact .inl ⟨Int.le_refl _, W.nil⟩
  · rw [if_neg e]
    rcases find_edge (i := i) (k := k) with ⟨c, h1, h2⟩ | ⟨h1, h2⟩
    · rw [h2]
      have := W.step W.nil h1
      rw [Int.zero_add] at this
      exact .inl ⟨(edge hv h1).2.2.2.2.2.1, this⟩
    · rw [h2]; exact .inr rfl
theorem WI.zero {i k c : Int} (h : WI l 0 i k c) (hi : 0 ≤ i ∧ i < R + N) : (i = k ∧ c = 0) ∨ (i, k, c) ∈ l := by
  induction h with
  | nil => exact .inl ⟨rfl, rfl⟩
  | edge he => exact .inr he
  | cat h g hj ih1 ih2 => have := WI.node hv h hi; omega
theorem start_at (i k : Int) (hi : 0 ≤ i ∧ i < R + N) : AtM l 0 (start2 l) i k := fun c hc => by
  unfold start2
  rcases hc.zero hv hi with ⟨rfl, rfl⟩ | h
  · rw [if_pos rfl]; exact ⟨Int.le_refl _, Int.le_refl _⟩
  · have hed := edge hv h
    rw [if_neg hed.2.2.2.2.1]
    rcases find_edge (i := i) (k := k) with ⟨c', h1, h2⟩ | ⟨h1, h2⟩
    · rw [h2, edge_one hv h h1]
      exact ⟨(edge hv h1).2.2.2.2.2.1, Int.le_refl _⟩
    · exact absurd h (h1 c)
theorem dist_of (h : GoodA R N l D) (ha : ∀ i k, 0 ≤ i → i < R + N → 0 ≤ k → k < R + N → AtM l (R + N) D i k) {i k : Int} (i0 : 0 ≤ i) (i1 : i < R + N) (k0 : 0 ≤ k) (k1 : k < R + N) : D i k = T l i k := by
  rcases h i k i0 i1 k0 k1 with ⟨h1, h2⟩ | h1
  · exact (T_of ⟨h2, fun e he => (ha i k i0 i1 k0 k1 e (WI.of hv he)).2⟩).symm
  · rcases T_cases hv i k with ⟨h2, _⟩ | ⟨h2, h3⟩
    · omega
    · have := ha i k i0 i1 k0 k1 _ (WI.of hv h3.1); omega
end
end Go.Proofs.Ytmlpbhankgojpaa.SP
