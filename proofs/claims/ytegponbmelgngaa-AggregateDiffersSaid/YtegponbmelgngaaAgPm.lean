/-
  Rows that are turned in one segment only: mathematics of the library's sort.
-/
import Derived.Test.YtegponbmelgngaaMgM
namespace Go.Proofs.Ytegponbmelgngaa
set_option linter.unusedSimpArgs false
set_option linter.unusedVariables false

/-- the same elements, and outside of [a, b) the same places -/
def SegP (a b : Nat) (l0 l : List Nat) : Prop := l.Perm l0 ∧ ∀ k, (k < a ∨ b ≤ k) → l[k]? = l0[k]?
theorem SegP.refl (a b : Nat) (l : List Nat) : SegP a b l l := ⟨List.Perm.refl _, fun _ _ => rfl⟩
theorem SegP.trans {a b : Nat} {l0 l1 l2 : List Nat} (h : SegP a b l0 l1) (g : SegP a b l1 l2) : SegP a b l0 l2 := ⟨g.1.trans h.1, fun k hk => (g.2 k hk).trans (h.2 k hk)⟩
theorem SegP.wide {a b a' b' : Nat} {l0 l : List Nat} (h : SegP a b l0 l) (ha : a' ≤ a) (hb : b ≤ b') : SegP a' b' l0 l := ⟨h.1, fun k hk => h.2 k (by omega)⟩
theorem SegP.len {a b : Nat} {l0 l : List Nat} (h : SegP a b l0 l) : l.length = l0.length := h.1.length_eq
theorem swap_at {l : List Nat} {i j x y k : Nat} (hi : l[i]? = some x) (hj : l[j]? = some y) : ((l.set i y).set j x)[k]? = if k = j then some x else if k = i then some y else l[k]? := by
  have h1 := (List.getElem?_eq_some_iff.1 hi).1
  have h2 := (List.getElem?_eq_some_iff.1 hj).1
  by_cases e : k = j
  · subst e; rw [if_pos rfl, List.getElem?_set_self (by rw [List.length_set]; exact h2)]
  · rw [if_neg e, List.getElem?_set_ne (Ne.symm e)]
    by_cases e2 : k = i
    · subst e2; rw [if_pos rfl, List.getElem?_set_self h1]
    · rw [if_neg e2, List.getElem?_set_ne (Ne.symm e2)]
theorem swapP_perm {l : List Nat} {i j x y : Nat} (hi : l[i]? = some x) (hj : l[j]? = some y) : ((l.set i y).set j x).Perm l := by
  obtain ⟨h1, e1⟩ := List.getElem?_eq_some_iff.1 hi
  obtain ⟨h2, e2⟩ := List.getElem?_eq_some_iff.1 hj
  have := List.set_set_perm (i := i) (j := j) h1 h2
  rw [e1, e2] at this
  exact this
theorem SegP.swap {a b : Nat} {l0 l : List Nat} (h : SegP a b l0 l) {i j x y : Nat} (hi : a ≤ i ∧ i < b) (hj : a ≤ j ∧ j < b) (hx : l[i]? = some x) (hy : l[j]? = some y) : SegP a b l0 ((l.set i y).set j x) :=
  ⟨(swapP_perm hx hy).trans h.1, fun k hk => by rw [swap_at hx hy, if_neg (by omega), if_neg (by omega)]; exact h.2 k hk⟩
theorem take_same {l0 l : List Nat} {a : Nat} (h : ∀ k, k < a → l[k]? = l0[k]?) : l.take a = l0.take a := by
  apply List.ext_getElem?
  intro k
  rw [List.getElem?_take, List.getElem?_take]
  split
  · rename_i g; exact h k g
  · rfl
theorem drop_same {l0 l : List Nat} {b : Nat} (h : ∀ k, b ≤ k → l[k]? = l0[k]?) : l.drop b = l0.drop b := by
  apply List.ext_getElem?
  intro k
  rw [List.getElem?_drop, List.getElem?_drop]
  exact h _ (by omega)
/-- the segment holds the same elements -/
theorem SegP.seg {a b : Nat} {l0 l : List Nat} (h : SegP a b l0 l) (hab : a ≤ b) : ((l.drop a).take (b - a)).Perm ((l0.drop a).take (b - a)) := by
  have e : ∀ m : List Nat, m = m.take a ++ ((m.drop a).take (b - a) ++ m.drop b) := fun m => by
    have h1 := (List.take_append_drop (b - a) (m.drop a)).symm
    rw [List.drop_drop, show a + (b - a) = b by omega] at h1
    conv => lhs; rw [← List.take_append_drop a m, h1]
  have hp := h.1
  rw [e l, e l0, take_same (fun k hk => h.2 k (.inl hk)), drop_same (fun k hk => h.2 k (.inr hk))] at hp
  exact (List.perm_append_right_iff _).1 ((List.perm_append_left_iff _).1 hp)
theorem seg_mem {l : List Nat} {a b x : Nat} (hab : a ≤ b) : x ∈ (l.drop a).take (b - a) ↔ ∃ k, a ≤ k ∧ k < b ∧ l[k]? = some x := by
  rw [List.mem_iff_getElem?]
  constructor
  · rintro ⟨k, hk⟩
    rw [List.getElem?_take] at hk
    split at hk
    · rw [List.getElem?_drop] at hk
      exact ⟨a + k, by omega, by omega, hk⟩
    · cases hk
  · rintro ⟨k, h1, h2, hk⟩
    refine ⟨k - a, ?_⟩
    rw [List.getElem?_take, if_pos (by omega), List.getElem?_drop, show a + (k - a) = k by omega]
    exact hk
theorem SegP.mem {a b : Nat} {l0 l : List Nat} (h : SegP a b l0 l) {k x : Nat} (h1 : a ≤ k) (h2 : k < b) (hx : l[k]? = some x) : ∃ j, a ≤ j ∧ j < b ∧ l0[j]? = some x :=
  (seg_mem (by omega)).1 ((h.seg (by omega)).subset ((seg_mem (by omega)).2 ⟨k, h1, h2, hx⟩))
/-- in order from a to b -/
def SrtSeg (a b : Nat) (l : List Nat) : Prop := ∀ p q x y, a ≤ p → p < q → q < b → l[p]? = some x → l[q]? = some y → x ≤ y
theorem SrtSeg.all {l : List Nat} (h : SrtSeg 0 l.length l) : l.Pairwise (· ≤ ·) := by
  rw [List.pairwise_iff_getElem]
  intro p q hp hq hpq
  exact h p q _ _ (Nat.zero_le _) hpq hq (List.getElem?_eq_getElem hp) (List.getElem?_eq_getElem hq)
end Go.Proofs.Ytegponbmelgngaa
