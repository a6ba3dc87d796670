/-
  Repeated passes over the edges mark just the nodes that can be reached.
-/
import Derived.Test.YtiodpgannelgpaaGrRM
namespace Go.Proofs.Ytiodpgannelgpaa
namespace GM
set_option linter.unusedVariables false
set_option linter.unusedSimpArgs false

/-- in the midst of a pass: the edges before place i are followed -/
structure Pas (l : List E) (a : Nat) (m0 m1 : List Bool) (i : Nat) : Prop where
  len : m1.length = m0.length
  sub : ∀ y, mkd m0 y = true → mkd m1 y = true
  fol : ∀ k e, l[k]? = some e → k < i → mkd m0 e.1.toNat = true → mkd m1 e.2.1.toNat = true
  rch : ∀ y : Nat, mkd m1 y = true → Rch l a y
theorem Pas.start {l : List E} {a : Nat} {m : List Bool} (h : ∀ y : Nat, mkd m y = true → Rch l a y) : Pas l a m m 0 := ⟨rfl, fun _ h => h, fun _ _ _ h => by omega, h⟩
theorem Pas.no {l : List E} {a : Nat} {m0 m1 : List Bool} {i : Nat} {e : E} (h : Pas l a m0 m1 i) (he : l[i]? = some e) (hm : mkd m1 e.1.toNat = false) : Pas l a m0 m1 (i + 1) where
  len := h.len
  sub := h.sub
  fol := fun k f hf hk h0 => by
    rcases (by omega : k < i ∨ k = i) with h1 | h1
    · exact h.fol k f hf h1 h0
    · subst h1
      rw [he] at hf; cases hf
      rw [h.sub _ h0] at hm; cases hm
  rch := h.rch
theorem Pas.yes {n : Nat} {l : List E} {a : Nat} {m0 m1 : List Bool} {i : Nat} {e : E} (hi : Inside n l) (hn : m1.length = n) (h : Pas l a m0 m1 i) (he : l[i]? = some e) (hm : mkd m1 e.1.toNat = true) : Pas l a m0 (m1.set e.2.1.toNat true) (i + 1) := by
  have hin := hi e (List.mem_of_getElem? he)
  have hlt : e.2.1.toNat < m1.length := by omega
  refine ⟨by rw [List.length_set]; exact h.len, fun y hy => ?_, fun k f hf hk h0 => ?_, fun y hy => ?_⟩
  · rw [mk_set hlt]; split
    · rfl
    · exact h.sub y hy
  · rw [mk_set hlt]
    rcases (by omega : k < i ∨ k = i) with h1 | h1
    · split
      · rfl
      · exact h.fol k f hf h1 h0
    · subst h1
      rw [he] at hf; cases hf
      rw [if_pos rfl]
  · rw [mk_set hlt] at hy
    split at hy
    · rename_i e1
      have h1 := h.rch _ hm
      rw [Int.toNat_of_nonneg hin.1.1] at h1
      have h2 := Rch.step h1 (List.mem_of_getElem? he)
      rw [← e1, Int.toNat_of_nonneg hin.2.1]; exact h2
    · exact h.rch y hy
theorem sub_eq : ∀ {m m' : List Bool}, m'.length = m.length → (∀ y, mkd m y = true → mkd m' y = true) → m.count false ≤ m'.count false → m' = m
  | [], [], _, _, _ => rfl
  | [], _ :: _, h, _, _ => by simp at h
  | _ :: _, [], h, _, _ => by simp at h
  | a :: m, b :: m', h, k, hc => by
    have hl : m'.length = m.length := by simpa using h
    have hs : ∀ y, mkd m y = true → mkd m' y = true := fun y hy => by have := k (y + 1) (by simpa [mkd] using hy); simpa [mkd] using this
    have h0 := k 0
    have hle := count_sub hl hs
    cases a <;> cases b
    · rw [sub_eq hl hs (by simp [List.count_cons] at hc; omega)]
    · simp [List.count_cons] at hc; omega
    · simp [mkd] at h0
    · rw [sub_eq hl hs (by simp [List.count_cons] at hc; omega)]
/-- behind k passes -/
structure Psd (l : List E) (a n k : Nat) (m : List Bool) : Prop where
  len : m.length = n
  here : mkd m a = true
  rch : ∀ y : Nat, mkd m y = true → Rch l a y
  prog : (∀ e ∈ l, mkd m e.1.toNat = true → mkd m e.2.1.toNat = true) ∨ m.count false + k < n
theorem Psd.next {l : List E} {a n k : Nat} {m m' : List Bool} (hi : Inside n l) (h : Psd l a n k m) (hp : Pas l a m m' l.length) : Psd l a n (k + 1) m' where
  len := hp.len.trans h.len
  here := hp.sub _ h.here
  rch := hp.rch
  prog := by
    rcases Nat.lt_or_ge (m'.count false) (m.count false) with hc | hc
    · rcases h.prog with h1 | h1
      · left
        intro e he hm
        have hr : IsReach n l a m := ⟨h.len, h.here, h1, h.rch⟩
        have h2 := hp.rch _ hm
        rw [Int.toNat_of_nonneg (hi e he).1.1] at h2
        exact hp.sub _ (hr.all hi (Rch.step h2 he))
      · right; omega
    · left
      have e1 := sub_eq hp.len hp.sub hc
      intro e he hm
      obtain ⟨i, hlt, hei⟩ := List.getElem_of_mem he
      rw [e1] at hm
      exact hp.fol i e (by rw [List.getElem?_eq_getElem hlt, hei]) hlt hm
theorem Psd.final {l : List E} {a n : Nat} {m : List Bool} (h : Psd l a n n m) : IsReach n l a m := ⟨h.len, h.here, h.prog.resolve_right (by omega), h.rch⟩
theorem Psd.start {l : List E} {a n : Nat} (ha : a < n) : Psd l a n 0 ((List.replicate n false).set a true) where
  len := by simp
  here := by rw [mk_set (by simpa using ha)]; simp
  rch := fun y hy => by
    rw [mk_set (by simpa using ha)] at hy
    split at hy
    · rename_i e; subst e; exact .refl
    · exfalso
      unfold mkd at hy
      simp only [List.getD, List.getElem?_replicate] at hy
      split at hy <;> simp at hy
  prog := by
    right
    have h0 : mkd (List.replicate n false) a = false := by unfold mkd; simp only [List.getD, List.getElem?_replicate]; split <;> rfl
    have := count_set (m := List.replicate n false) (x := a) (by simpa using ha) h0
    simp at this ⊢; omega
end GM
end Go.Proofs.Ytiodpgannelgpaa
