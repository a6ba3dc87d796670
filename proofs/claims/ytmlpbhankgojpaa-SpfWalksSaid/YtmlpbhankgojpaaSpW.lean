/-
  Shortest paths as mathematics: nodes on a shortest path to a node, and those that follow.
-/
import Derived.Test.YtmlpbhankgojpaaSpC
namespace Go.Proofs.Ytmlpbhankgojpaa.SP
open GM HM Classical
set_option linter.unusedVariables false
set_option linter.unusedSimpArgs false

/-- v lies on a shortest path from s to z -/
def On (l : List E) (s z v : Int) : Prop := 0 ≤ T l s v ∧ 0 ≤ T l v z ∧ T l s v + T l v z = T l s z
theorem W.front {l : List E} {u z d : Int} (h : W l u z d) : (u = z ∧ d = 0) ∨ ∃ v c e, (u, v, c) ∈ l ∧ W l v z e ∧ d = c + e := by
  induction h with
  | nil => exact .inl ⟨rfl, rfl⟩
  | step h he ih =>
    rename_i a b c d
    rcases ih with ⟨rfl, rfl⟩ | ⟨v, c', e, h1, h2, h3⟩
    · exact .inr ⟨_, _, 0, he, W.nil, by omega⟩
    · exact .inr ⟨v, c', e + c, h1, h2.step he, by omega⟩
section
variable {R N : Int} {l : List E} (hv : Valid R N l) {s z : Int}
include hv
theorem On.end_ (h : 0 ≤ T l s z) : On l s z z := by
  have := T_self hv z
  exact ⟨h, by omega, by omega⟩
theorem On.start (h : 0 ≤ T l s z) : On l s z s := by
  have := T_self hv s
  exact ⟨by omega, h, by omega⟩
theorem On.back {v u : Int} (h : On l s z v) (hp : Par l s v u) : On l s z u := by
  obtain ⟨c, h1, h2, h3⟩ := hp
  have h4 := T_le hv ((W.step W.nil h1).trans (T_way hv h.2.1).1)
  rw [Int.zero_add] at h4
  have h5 := T_tri hv h2 h4.1
  obtain ⟨_, h6, h7⟩ := h
  exact ⟨h2, h4.1, by omega⟩
theorem On.fwd {u : Int} (h : On l s z u) (hne : u ≠ z) : ∃ v, On l s z v ∧ Par l s v u := by
  rcases (T_way hv h.2.1).1.front with ⟨h1, _⟩ | ⟨v, c, e, h1, h2, h3⟩
  · exact absurd h1 hne
  · have h4 := T_edge hv h.1 h1
    have h5 := T_le hv h2
    have h6 := T_tri hv h4.1 h5.1
    have h7 := h.2.2
    exact ⟨v, ⟨h4.1, h5.1, by omega⟩, c, h1, h.1, by omega⟩
theorem On.turn {u v : Int} (hp : Par l s v u) : tr R u (T l s u) < tr R v (T l s v) := by
  obtain ⟨c, h1, h2, h3⟩ := hp
  have := tr_edge hv h1 (T l s u)
  rwa [h3] at this
theorem On.last {v : Int} (h : On l s z v) : ¬ Par l s v z := fun hp => by
  have h1 := On.turn hv hp
  have h2 := tr_way hv (T_way hv h.2.1).1 (T l s v)
  rw [h.2.2] at h2
  omega
theorem On.node {v : Int} (hs : 0 ≤ s ∧ s < R + N) (h : On l s z v) : 0 ≤ v ∧ v < R + N := (T_way hv h.1).1.node hv hs
end
/-- the nodes that were reached from the end, the first k of them followed, of the last one the parents before place j -/
structure Nx (l : List E) (s z : Int) (q : List Int) (k : Nat) (next : Int → List Int) : Prop where
  nd : q.Nodup
  hd : q[0]? = some z
  on : ∀ v ∈ q, On l s z v
  nx : ∀ p, next p = (q.take k).filter (fun v => decide (Par l s v p))
  inq : ∀ p, p ∈ q ↔ p = z ∨ next p ≠ []
/-- the parents of v before place j have v behind them -/
structure Nj (l : List E) (s z : Int) (v : Int) (ps : List Int) (j : Nat) (q : List Int) (k : Nat) (next : Int → List Int) : Prop where
  nd : q.Nodup
  hd : q[0]? = some z
  on : ∀ v ∈ q, On l s z v
  kv : q[k]? = some v
  nx : ∀ p, next p = (q.take k).filter (fun u => decide (Par l s u p)) ++ (if p ∈ ps.take j then [v] else [])
  inq : ∀ p, p ∈ q ↔ p = z ∨ next p ≠ []
section
variable {R N : Int} {l : List E} (hv : Valid R N l) {s z : Int} {q : List Int} {k : Nat} {next : Int → List Int}
omit hv in
theorem Nx.go (h : Nx l s z q k next) {v : Int} (hk : q[k]? = some v) (ps : List Int) : Nj l s z v ps 0 q k next :=
  ⟨h.nd, h.hd, h.on, hk, fun p => by rw [h.nx p]; simp, h.inq⟩
theorem Nj.last {v : Int} {ps : List Int} (hp : RowI (Par l s v) ps) (h : Nj l s z v ps ps.length q k next) : Nx l s z q (k + 1) next :=
  ⟨h.nd, h.hd, h.on, fun p => by
    have e : q.take (k + 1) = q.take k ++ [v] := by rw [List.take_add_one, h.kv]; rfl
    rw [h.nx p, e, List.filter_append, List.take_length]
    congr 1
    by_cases hpp : p ∈ ps
    · rw [if_pos hpp]; simp [(hp.2 p).1 hpp]
    · rw [if_neg hpp]; have : ¬ Par l s v p := fun h' => hpp ((hp.2 p).2 h'); simp [this], h.inq⟩
include hv
/-- one parent more -/
theorem Nj.step {v p : Int} {ps : List Int} {j : Nat} (hp : RowI (Par l s v) ps) (hj : ps[j]? = some p) (h : Nj l s z v ps j q k next) :
    Nj l s z v ps (j + 1) (if next p = [] then q ++ [p] else q) k (fun u => if u = p then next p ++ [v] else next u) := by
  have hpar : Par l s v p := (hp.2 p).1 (List.mem_of_getElem? hj)
  have hvq : v ∈ q := List.mem_of_getElem? h.kv
  have hon := (h.on v hvq).back hv hpar
  have hpz : p ≠ z := fun e => (h.on v hvq).last hv (e ▸ hpar)
  have hkl := (List.getElem?_eq_some_iff.1 h.kv).1
  have hjl := (List.getElem?_eq_some_iff.1 hj).1
  have hpj : p ∉ ps.take j := fun hm => by
    obtain ⟨i, hi⟩ := List.getElem?_of_mem hm
    have hil := (List.getElem?_eq_some_iff.1 hi).1
    rw [List.getElem?_take] at hi
    have hij : i < j := by simp at hil; omega
    rw [if_pos hij] at hi
    obtain ⟨h1, h2⟩ := List.getElem?_eq_some_iff.1 hi
    obtain ⟨h3, h4⟩ := List.getElem?_eq_some_iff.1 hj
    have := List.pairwise_iff_getElem.1 hp.1 i j h1 h3 hij
    rw [h2, h4] at this
    omega
  have tk : ∀ _u : Int, (if next p = [] then q ++ [p] else q).take k = q.take k := fun _ => by
    split
    · rw [List.take_append_of_le_length (by omega)]
    · rfl
  have ej : ps.take (j + 1) = ps.take j ++ [p] := by rw [List.take_add_one, hj]; rfl
  refine ⟨?_, ?_, ?_, ?_, fun u => ?_, fun u => ?_⟩
  · split
    · rename_i hn
      refine List.nodup_append.2 ⟨h.nd, by simp, fun a ha b hb => ?_⟩
      simp at hb; subst hb
      rintro rfl
      rcases (h.inq a).1 ha with h1 | h1
      · exact hpz h1
      · exact h1 hn
    · exact h.nd
  · split
    · rw [List.getElem?_append_left (by omega)]; exact h.hd
    · exact h.hd
  · intro u hu
    split at hu
    · rcases List.mem_append.1 hu with hu | hu
      · exact h.on u hu
      · simp at hu; subst hu; exact hon
    · exact h.on u hu
  · split
    · rw [List.getElem?_append_left (by omega)]; exact h.kv
    · exact h.kv
  · rw [tk u, ej]
    by_cases e : u = p
    · subst e
      rw [if_pos rfl, h.nx u, if_neg hpj, if_pos (by simp), List.append_nil]
    · rw [if_neg e, h.nx u]
      simp [e]
  · by_cases e : u = p
    · subst e
      rw [if_pos rfl]
      simp
      split
      · simp
      · rename_i hn; exact (h.inq u).2 (.inr hn)
    · rw [if_neg e]
      split
      · rw [List.mem_append]; simp [e]; exact h.inq u
      · exact h.inq u
omit hv in
theorem Nx.start (hv : Valid R N l) (h : 0 ≤ T l s z) : Nx l s z [z] 0 (fun _ => []) :=
  ⟨by simp, rfl, fun v hm => by simp at hm; subst hm; exact On.end_ hv h, fun p => by simp, fun p => by simp⟩
/-- when all are followed, behind a node stand those that follow it on a shortest path -/
theorem Nx.all (h : Nx l s z q q.length next) (u v : Int) : v ∈ next u ↔ On l s z v ∧ Par l s v u := by
  have key : ∀ m : Nat, ∀ u, On l s z u → (tr R z (T l s z) - tr R u (T l s u)).toNat ≤ m → u ∈ q := by
    intro m
    induction m with
    | zero =>
      intro u hu hm
      by_cases e : u = z
      · exact (h.inq u).2 (.inl e)
      · obtain ⟨v, h1, h2⟩ := hu.fwd hv e
        have h3 := On.turn hv h2
        have h4 := tr_way hv (T_way hv h1.2.1).1 (T l s v)
        rw [h1.2.2] at h4
        omega
    | succ m ih =>
      intro u hu hm
      by_cases e : u = z
      · exact (h.inq u).2 (.inl e)
      · obtain ⟨v, h1, h2⟩ := hu.fwd hv e
        have h3 := On.turn hv h2
        have h4 := tr_way hv (T_way hv h1.2.1).1 (T l s v)
        rw [h1.2.2] at h4
        have hq := ih v h1 (by omega)
        refine (h.inq u).2 (.inr ?_)
        rw [h.nx u, List.take_length]
        intro hn
        have : v ∈ q.filter (fun v => decide (Par l s v u)) := List.mem_filter.2 ⟨hq, by simpa using h2⟩
        rw [hn] at this; cases this
  rw [h.nx u, List.take_length, List.mem_filter]
  simp only [decide_eq_true_eq]
  exact ⟨fun ⟨a, b⟩ => ⟨h.on v a, b⟩, fun ⟨a, b⟩ => ⟨key _ v a (Nat.le_refl _), b⟩⟩
end
/-- the least node that follows -/
def Nxt (l : List E) (s z u v : Int) : Prop := (On l s z v ∧ Par l s v u) ∧ ∀ y, On l s z y → Par l s y u → v ≤ y
/-- the least shortest path from s, so far -/
inductive Way (l : List E) (s z : Int) : List Int → Int → Prop
  | one : Way l s z [s] s
  | more {p : List Int} {u v : Int} (h : Way l s z p u) (hu : u ≠ z) (hn : Nxt l s z u v) : Way l s z (p ++ [v]) v
section
variable {R N : Int} {l : List E} (hv : Valid R N l) {s z : Int}
include hv
theorem Way.on (hz : 0 ≤ T l s z) {p : List Int} {u : Int} (h : Way l s z p u) : On l s z u := by
  cases h with
  | one => exact On.start hv hz
  | more h hu hn => exact hn.1.1
omit hv in
theorem Way.pos {p : List Int} {u : Int} (h : Way l s z p u) : 0 < p.length := by cases h <;> simp
omit hv in
theorem Nxt.unique {u v v' : Int} (h : Nxt l s z u v) (h' : Nxt l s z u v') : v = v' := Int.le_antisymm (h.2 v' h'.1.1 h'.1.2) (h'.2 v h.1.1 h.1.2)
omit hv in
theorem Way.unique_len {p q : List Int} {u v : Int} (h : Way l s z p u) (h' : Way l s z q v) (e : p.length = q.length) : p = q ∧ u = v := by
  induction h generalizing q v with
  | one =>
    cases h' with
    | one => exact ⟨rfl, rfl⟩
    | more h' _ _ => have := h'.pos; rw [List.length_append, List.length_singleton, List.length_singleton] at e; omega
  | more h hu hn ih =>
    cases h' with
    | one => have := h.pos; rw [List.length_append, List.length_singleton, List.length_singleton] at e; omega
    | more h' hu' hn' =>
      obtain ⟨rfl, rfl⟩ := ih h' (by simpa using e)
      have := hn.unique hn'
      subst this; exact ⟨rfl, rfl⟩
omit hv in
/-- the part of a path up to a place is a path that has not come to its end -/
theorem Way.part {p : List Int} {u : Int} (h : Way l s z p u) {m : Nat} (h0 : 0 < m) (hm : m < p.length) : ∃ v, Way l s z (p.take m) v ∧ v ≠ z := by
  induction h with
  | one => simp at hm; omega
  | more h hu hn ih =>
    rename_i p a b
    by_cases e : m = p.length
    · subst e; rw [List.take_left']
      · exact ⟨_, h, hu⟩
      · rfl
    · simp at hm
      rw [List.take_append_of_le_length (by omega)]
      exact ih (by omega)
omit hv in
theorem Way.unique {p q : List Int} (h : Way l s z p z) (h' : Way l s z q z) : p = q := by
  rcases Nat.lt_trichotomy p.length q.length with e | e | e
  · obtain ⟨v, h1, h2⟩ := h'.part h.pos e
    have := (h.unique_len h1 (by rw [List.length_take]; omega)).2
    exact absurd this.symm h2
  · exact (h.unique_len h' e).1
  · obtain ⟨v, h1, h2⟩ := h.part h'.pos e
    have := (h'.unique_len h1 (by rw [List.length_take]; omega)).2
    exact absurd this.symm h2
/-- how far it is still -/
theorem Nxt.turn {u v : Int} (h : Nxt l s z u v) : tr R u (T l s u) < tr R v (T l s v) ∧ tr R v (T l s v) ≤ tr R z (T l s z) := by
  refine ⟨On.turn hv h.1.2, ?_⟩
  have h4 := tr_way hv (T_way hv h.1.1.2.1).1 (T l s v)
  rwa [h.1.1.2.2] at h4
theorem Nxt.ex {u : Int} (hs : 0 ≤ s ∧ s < R + N) (h : On l s z u) (hu : u ≠ z) : ∃ v, Nxt l s z u v := by
  obtain ⟨v, h1, h2⟩ := h.fwd hv hu
  have key : ∀ m : Nat, ∀ v, On l s z v → Par l s v u → v.toNat ≤ m → ∃ y, Nxt l s z u y := by
    intro m
    induction m with
    | zero =>
      intro v h1 h2 hm
      have := h1.node hv hs
      exact ⟨v, ⟨h1, h2⟩, fun y hy _ => by have := hy.node hv hs; omega⟩
    | succ m ih =>
      intro v h1 h2 hm
      by_cases hy : ∃ y, On l s z y ∧ Par l s y u ∧ y < v
      · obtain ⟨y, h3, h4, h5⟩ := hy
        have := h3.node hv hs
        exact ih y h3 h4 (by omega)
      · exact ⟨v, ⟨h1, h2⟩, fun y h3 h4 => Int.not_lt.1 fun h5 => hy ⟨y, h3, h4, h5⟩⟩
  exact key _ v h1 h2 (Nat.le_refl _)
end
end Go.Proofs.Ytmlpbhankgojpaa.SP
