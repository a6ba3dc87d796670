/-
  Mathematics of the laws: every reached node has a parent and a first hop; fewer edges, greater distances.
  Mathematics of the walk along a path: the sum of the costs is the distance, the first router is a first hop.
-/
import Derived.Test.YtmlpbhankgojpaaSpI
import Derived.Test.YtmlpbhankgojpaaSpW
namespace Go.Proofs.Ytmlpbhankgojpaa.SP
open GM HM Classical
set_option linter.unusedVariables false
set_option linter.unusedSimpArgs false
section
variable {R N : Int} {l : List E} (hv : Valid R N l) {s : Int}
include hv
theorem last_edge {v : Int} (hvs : v ≠ s) (hT : 0 ≤ T l s v) : ∃ u c, (u, v, c) ∈ l ∧ 0 ≤ T l s u ∧ T l s u + c = T l s v := by
  have hw := (T_way hv hT).1
  generalize hq : T l s v = q at *
  cases hw with
  | nil => exact absurd rfl hvs
  | step hw he =>
    rename_i u c d
    have a1 := T_le hv hw
    have a2 := T_edge hv a1.1 he
    exact ⟨u, c, he, a1.1, by omega⟩
theorem Par.ex {v : Int} (hvs : v ≠ s) (hT : 0 ≤ T l s v) : ∃ u, Par l s v u := by
  obtain ⟨u, c, he, h1, h2⟩ := last_edge hv hvs hT
  exact ⟨u, c, he, h1, h2⟩
theorem Hop.ex (hs : s < R) {v : Int} (hvs : v ≠ s) (hT : 0 ≤ T l s v) : ∃ h, Hop R l s v h := by
  have key : ∀ {v d : Int}, W l s v d → d = T l s v → v ≠ s → ∃ h, Hop R l s v h := by
    intro v d hw
    induction hw with
    | nil => intro _ h; exact absurd rfl h
    | step hw he ih =>
      rename_i u v c d
      intro hd hne
      have a1 := T_le hv hw
      have a2 := T_edge hv a1.1 he
      have e1 : d = T l s u := by omega
      by_cases hu : u = s
      · exact ⟨v, (hop_rec hv hs hne a2.1).2 ⟨u, c, he, a1.1, by omega, .inl ⟨hu, rfl⟩⟩⟩
      · obtain ⟨k, hk⟩ := ih e1 hu
        exact ⟨_, (hop_rec hv hs hne a2.1).2 ⟨u, c, he, a1.1, by omega, .inr ⟨k, hk, rfl⟩⟩⟩
  exact key (T_way hv hT).1 rfl hvs
theorem Par.reached {v u : Int} (hs : s < R) (h : Par l s v u) : v ≠ s ∧ 0 ≤ T l s v := by
  refine ⟨fun e => ?_, ?_⟩
  · subst e; exact Par.self hv u hs h
  · obtain ⟨c, he, h1, h2⟩ := h
    exact (T_edge hv h1 he).1
theorem Tree.par_ne {n : Nat} {dist : List Int} {hops pars : List (List Int)} (hs : s < R) (h : Tree R N l s n dist hops pars) {v : Nat} (hvn : v < n) : gL pars v ≠ [] ↔ ((v : Int) ≠ s ∧ 0 ≤ gI dist v) := by
  rw [h.d v hvn]
  constructor
  · intro hne
    obtain ⟨u, hu⟩ := List.exists_mem_of_ne_nil _ hne
    exact Par.reached hv hs (((h.p v hvn).2 u).1 hu)
  · rintro ⟨h1, h2⟩
    obtain ⟨u, hu⟩ := Par.ex hv h1 h2
    exact List.ne_nil_of_mem (((h.p v hvn).2 u).2 hu)
theorem Tree.hop_ne {n : Nat} {dist : List Int} {hops pars : List (List Int)} (hs : s < R) (h : Tree R N l s n dist hops pars) {v : Nat} (hvn : v < n) : gL hops v ≠ [] ↔ ((v : Int) ≠ s ∧ 0 ≤ gI dist v) := by
  rw [h.d v hvn]
  constructor
  · intro hne
    obtain ⟨u, hu⟩ := List.exists_mem_of_ne_nil _ hne
    have := ((h.h v hvn).2 u).1 hu
    exact ⟨this.1, this.2.1⟩
  · rintro ⟨h1, h2⟩
    obtain ⟨u, hu⟩ := Hop.ex hv hs h1 h2
    exact List.ne_nil_of_mem (((h.h v hvn).2 u).2 hu)
/-- a graph without some of the edges is a graph -/
theorem valid_sub {l' : List E} (h : l'.Sublist l) : Valid R N l' :=
  ⟨hv.r, hv.n, hv.s, Nat.le_trans h.length_le hv.len, fun e he => hv.al e (h.subset he), hv.asc.sublist h⟩
omit hv in
theorem W.sub {l' : List E} (h : ∀ e ∈ l', e ∈ l) {v d : Int} (hw : W l' s v d) : W l s v d := by
  induction hw with
  | nil => exact .nil
  | step hw he ih => exact ih.step (h _ he)
theorem T_sub {l' : List E} (h : l'.Sublist l) {v : Int} (hT : 0 ≤ T l' s v) : 0 ≤ T l s v ∧ T l s v ≤ T l' s v :=
  T_le hv ((T_way (valid_sub hv h) hT).1.sub (fun e he => h.subset he))
end
theorem cut_sub {α : Type} (l : List α) (k : Nat) : (l.take k ++ l.drop (k + 1)).Sublist l := by
  have : (l.take k ++ l.drop (k + 1)).Sublist (l.take k ++ l.drop k) := List.Sublist.append_left ((List.drop_sublist_drop_left l (Nat.le_succ k))) _
  rwa [List.take_append_drop] at this
end Go.Proofs.Ytmlpbhankgojpaa.SP
namespace Go.Proofs.Ytmlpbhankgojpaa.SP
open GM HM Classical
set_option linter.unusedVariables false
set_option linter.unusedSimpArgs false
/-- the first router so far of a walk that has come to u -/
def FstJ (R : Int) (l : List E) (s u f : Int) : Prop := (f = -1 ∧ (u = s ∨ (R ≤ u ∧ Hop R l s u u))) ∨ (0 ≤ f ∧ f < R ∧ Hop R l s u f)
section
variable {R N : Int} {l : List E} (hv : Valid R N l) {s : Int}
include hv
theorem FstJ.step (hs : 0 ≤ s ∧ s < R) {u v f : Int} (h : FstJ R l s u f) (hp : Par l s v u) : FstJ R l s v (if f < 0 ∧ v < R then v else f) := by
  obtain ⟨hvs, hT⟩ := Par.reached hv hs.2 hp
  have hvn := (T_way hv hT).1.node hv (by have := hv.n; omega)
  obtain ⟨c, he, h1, h2⟩ := hp
  have hed := edge hv he
  have mk : ∀ h, Con R s u v h (Hop R l s u) → Hop R l s v h := fun h hc => (hop_rec hv hs.2 hvs hT).2 ⟨u, c, he, h1, h2, hc⟩
  rcases h with ⟨rfl, hu | ⟨hu, hh⟩⟩ | ⟨f0, f1, hh⟩
  · have hm := mk v (.inl ⟨hu, rfl⟩)
    by_cases hvR : v < R
    · rw [if_pos ⟨by omega, hvR⟩]; exact .inr ⟨hvn.1, hvR, hm⟩
    · rw [if_neg (by omega)]; exact .inl ⟨rfl, .inr ⟨by omega, hm⟩⟩
  · have hvR : v < R := (hed.2.2.2.2.2.2.2.2 hu).2
    rw [if_pos ⟨by omega, hvR⟩]
    exact .inr ⟨hvn.1, hvR, mk v (.inr ⟨u, hh, by rw [if_pos hu]⟩)⟩
  · rw [if_neg (by omega)]
    exact .inr ⟨f0, f1, mk f (.inr ⟨f, hh, by rw [if_neg (by omega)]⟩)⟩
/-- the reference's choice of the next node is a step of a shortest path -/
theorem next_iff {z u v : Int} (hu : 0 ≤ T l s u) : (On l s z v ∧ Par l s v u) ↔ ∃ c, (u, v, c) ∈ l ∧ 0 ≤ T l v z ∧ T l s u + c + T l v z = T l s z := by
  constructor
  · rintro ⟨⟨h1, h2, h3⟩, c, he, h4, h5⟩
    exact ⟨c, he, h2, by omega⟩
  · rintro ⟨c, he, h1, h2⟩
    have a1 := T_edge hv hu he
    have a2 := T_tri hv a1.1 h1
    exact ⟨⟨a1.1, h1, by omega⟩, c, he, hu, by omega⟩
end
theorem Way.get {l : List E} {s z : Int} {p : List Int} {u : Int} (h : Way l s z p u) : p[0]? = some s ∧ p[p.length - 1]? = some u ∧ ∀ i a b, p[i]? = some a → p[i + 1]? = some b → Nxt l s z a b := by
  induction h with
  | one => exact ⟨rfl, rfl, fun i a b h1 h2 => by simp at h2⟩
  | more h hu hn ih =>
    rename_i p u v
    have hp := h.pos
    obtain ⟨i1, i2, i3⟩ := ih
    refine ⟨by rw [List.getElem?_append_left hp]; exact i1, by simp, fun i a b h1 h2 => ?_⟩
    by_cases hi : i + 1 < p.length
    · rw [List.getElem?_append_left (by omega)] at h1 h2
      exact i3 i a b h1 h2
    · have hlt := (List.getElem?_eq_some_iff.1 h2).1
      simp at hlt
      have e : i = p.length - 1 := by omega
      subst e
      rw [List.getElem?_append_left (by omega), i2] at h1
      rw [show p.length - 1 + 1 = p.length by omega] at h2
      simp at h2
      cases h1; subst h2
      exact hn
end Go.Proofs.Ytmlpbhankgojpaa.SP
