/-
  Reached nodes: sets of nodes as lists of truth values, what a visit does, uniqueness.
-/
import Derived.Test.YtiodpgannelgpaaGrMath
namespace Go.Proofs.Ytiodpgannelgpaa
namespace GM
set_option linter.unusedVariables false
set_option linter.unusedSimpArgs false

def mkd (m : List Bool) (i : Nat) : Bool := m.getD i false
theorem mk_get {m : List Bool} {i : Nat} (h : i < m.length) : m[i]? = some (mkd m i) := by unfold mkd; simp [List.getD, h]
theorem mk_lt {m : List Bool} {i : Nat} (h : mkd m i = true) : i < m.length := by
  unfold mkd at h
  rcases Nat.lt_or_ge i m.length with h1 | h1
  · exact h1
  · simp [List.getD, List.getElem?_eq_none h1] at h
theorem mk_set {m : List Bool} {i j : Nat} (h : i < m.length) : mkd (m.set i true) j = if i = j then true else mkd m j := by
  unfold mkd
  simp only [List.getD, List.getElem?_set]
  split
  · rename_i e; subst e; simp [h]
  · rfl
inductive Rch (l : List E) (a : Int) : Int → Prop
  | refl : Rch l a a
  | step {e : E} : Rch l a e.1 → e ∈ l → Rch l a e.2.1
theorem Rch.trans {l : List E} {a b c : Int} (h : Rch l a b) (k : Rch l b c) : Rch l a c := by
  induction k with
  | refl => exact h
  | step _ hm ih => exact .step ih hm
/-- the edges lead between nodes -/
def Inside (n : Nat) (l : List E) : Prop := ∀ e ∈ l, (0 ≤ e.1 ∧ e.1 < (n : Int)) ∧ 0 ≤ e.2.1 ∧ e.2.1 < (n : Int)
theorem rch_in {n : Nat} {l : List E} {a x : Int} (hi : Inside n l) (ha : 0 ≤ a ∧ a < (n : Int)) (h : Rch l a x) : 0 ≤ x ∧ x < (n : Int) := by
  induction h with
  | refl => exact ha
  | step _ hm _ => exact (hi _ hm).2
/-- what a visit does -/
structure Vis (l : List E) (x : Nat) (m m' : List Bool) : Prop where
  len : m'.length = m.length
  sub : ∀ y, mkd m y = true → mkd m' y = true
  here : mkd m' x = true
  cl : ∀ e ∈ l, mkd m' e.1.toNat = true → mkd m e.1.toNat = false → mkd m' e.2.1.toNat = true
  rch : ∀ y : Nat, mkd m' y = true → mkd m y = false → Rch l x y
theorem Vis.stay {l : List E} {x : Nat} {m : List Bool} (h : mkd m x = true) : Vis l x m m := ⟨rfl, fun _ h => h, h, fun e _ h1 h2 => (by rw [h1] at h2; cases h2), fun y h1 h2 => (by rw [h1] at h2; cases h2)⟩
/-- in the midst of a visit: m0 is where it began with x marked, the edges of x at places i to j are followed -/
structure Mid (l : List E) (x : Nat) (m0 m1 : List Bool) (i j : Nat) : Prop where
  len : m1.length = m0.length
  sub : ∀ y, mkd m0 y = true → mkd m1 y = true
  cl : ∀ e ∈ l, mkd m1 e.1.toNat = true → mkd m0 e.1.toNat = false → mkd m1 e.2.1.toNat = true
  rch : ∀ y : Nat, mkd m1 y = true → mkd m0 y = false → Rch l x y
  done : ∀ k e, l[k]? = some e → i ≤ k → k < j → e.1 = (x : Int) ∧ mkd m1 e.2.1.toNat = true
theorem Mid.start {l : List E} {x : Nat} {m0 : List Bool} {i : Nat} : Mid l x m0 m0 i i := ⟨rfl, fun _ h => h, fun e _ h1 h2 => (by rw [h1] at h2; cases h2), fun y h1 h2 => (by rw [h1] at h2; cases h2), fun k e _ h1 h2 => by omega⟩
theorem Mid.next {n : Nat} {l : List E} {x : Nat} {m0 m1 m2 : List Bool} {i j : Nat} {e : E} (hi : Inside n l) (h : Mid l x m0 m1 i j) (he : l[j]? = some e) (hx : e.1 = (x : Int)) (hv : Vis l e.2.1.toNat m1 m2) : Mid l x m0 m2 i (j + 1) where
  len := hv.len.trans h.len
  sub := fun y hy => hv.sub y (h.sub y hy)
  cl := fun f hf h1 h2 => by
    cases h3 : mkd m1 f.1.toNat
    · exact hv.cl f hf h1 h3
    · exact hv.sub _ (h.cl f hf h3 h2)
  rch := fun y h1 h2 => by
    cases h3 : mkd m1 y
    · have h4 := hv.rch y h1 h3
      have h5 := hi e (List.mem_of_getElem? he)
      rw [Int.toNat_of_nonneg h5.2.1] at h4
      exact Rch.trans (.step (by rw [hx]; exact .refl) (List.mem_of_getElem? he)) h4
    · exact h.rch y h3 h2
  done := fun k f hf h1 h2 => by
    rcases (by omega : k < j ∨ k = j) with h3 | h3
    · have := h.done k f hf h1 h3
      exact ⟨this.1, hv.sub _ this.2⟩
    · subst h3
      rw [he] at hf; cases hf
      exact ⟨hx, hv.here⟩
theorem Mid.finish {l : List E} {x : Nat} {m m1 : List Bool} {i j : Nat} (hx : x < m.length) (h : Mid l x (m.set x true) m1 i j) (hall : ∀ k e, l[k]? = some e → e.1 = (x : Int) → i ≤ k ∧ k < j) (hn : ∀ e ∈ l, 0 ≤ e.1) : Vis l x m m1 where
  len := by rw [h.len]; simp
  sub := fun y hy => h.sub y (by rw [mk_set hx]; split <;> simp_all)
  here := h.sub x (by rw [mk_set hx]; simp)
  cl := fun e he h1 h2 => by
    by_cases hq : e.1.toNat = x
    · obtain ⟨k, hk, e1⟩ := List.getElem_of_mem he
      have h3 : l[k]? = some e := by rw [List.getElem?_eq_getElem hk, e1]
      have h4 : e.1 = (x : Int) := by have := hn e he; omega
      have h5 := hall k e h3 h4
      exact (h.done k e h3 h5.1 h5.2).2
    · exact h.cl e he h1 (by rw [mk_set hx, if_neg (fun e => hq e.symm)]; exact h2)
  rch := fun y h1 h2 => by
    by_cases hq : x = y
    · subst hq; exact .refl
    · exact h.rch y h1 (by rw [mk_set hx, if_neg hq]; exact h2)
theorem count_sub : ∀ {m m' : List Bool}, m'.length = m.length → (∀ y, mkd m y = true → mkd m' y = true) → m'.count false ≤ m.count false
  | [], [], _, _ => Nat.le_refl _
  | [], _ :: _, h, _ => by simp at h
  | _ :: _, [], h, _ => by simp at h
  | a :: m, b :: m', h, k => by
    have ih := count_sub (m := m) (m' := m') (by simpa using h) (fun y hy => by have := k (y + 1) (by simpa [mkd] using hy); simpa [mkd] using this)
    have h0 := k 0
    cases a <;> cases b <;> simp_all [mkd, List.count_cons] <;> omega
theorem count_set : ∀ {m : List Bool} {x : Nat}, x < m.length → mkd m x = false → (m.set x true).count false + 1 = m.count false
  | [], x, h, _ => by simp at h
  | a :: m, 0, _, h => by
    have : a = false := by simpa [mkd] using h
    subst this
    simp [List.count_cons]
  | a :: m, x + 1, hx, h => by
    have ih := count_set (m := m) (x := x) (by simpa using hx) (by simpa [mkd] using h)
    simp only [List.set_cons_succ, List.count_cons]
    omega
theorem count_zero {m : List Bool} (h : m.count false = 0) {x : Nat} (hx : x < m.length) : mkd m x = true := by
  cases hm : mkd m x
  · have := count_set hx hm; omega
  · rfl
/-- the nodes that can be reached -/
structure IsReach (n : Nat) (l : List E) (a : Nat) (m : List Bool) : Prop where
  len : m.length = n
  here : mkd m a = true
  cl : ∀ e ∈ l, mkd m e.1.toNat = true → mkd m e.2.1.toNat = true
  rch : ∀ y : Nat, mkd m y = true → Rch l a y
theorem IsReach.of_vis {n : Nat} {l : List E} {a : Nat} {m : List Bool} (h : Vis l a (List.replicate n false) m) : IsReach n l a m := by
  have h0 : ∀ y, mkd (List.replicate n false) y = false := fun y => by unfold mkd; simp [List.getD, List.getElem?_replicate]; split <;> rfl
  exact ⟨by rw [h.len]; simp, h.here, fun e he h1 => h.cl e he h1 (h0 _), fun y h1 => h.rch y h1 (h0 y)⟩
theorem IsReach.all {n : Nat} {l : List E} {a : Nat} {m : List Bool} (hi : Inside n l) (h : IsReach n l a m) {x : Int} (hr : Rch l a x) : mkd m x.toNat = true := by
  induction hr with
  | refl => exact h.here
  | step _ hm ih => exact h.cl _ hm ih
theorem IsReach.unique {n : Nat} {l : List E} {a : Nat} {m m' : List Bool} (hi : Inside n l) (h : IsReach n l a m) (k : IsReach n l a m') : m = m' := by
  refine List.ext_getElem? fun i => ?_
  rcases Nat.lt_or_ge i n with hn | hn
  · rw [mk_get (by rw [h.len]; exact hn), mk_get (by rw [k.len]; exact hn)]
    congr 1
    cases h1 : mkd m i
    · cases h2 : mkd m' i
      · rfl
      · have := h.all hi (k.rch i h2); simp at this; rw [this] at h1; cases h1
    · have := k.all hi (h.rch i h1); simp at this; rw [this]
  · rw [List.getElem?_eq_none (by rw [h.len]; exact hn), List.getElem?_eq_none (by rw [k.len]; exact hn)]
theorem valid_inside {R N : Int} {l : List E} (h : Valid R N l) : Inside (R + N).toNat l := fun e he => by
  have := alw_cases.1 (h.al e he)
  have h1 := h.r
  have h2 := h.n
  omega
end GM
end Go.Proofs.Ytiodpgannelgpaa
