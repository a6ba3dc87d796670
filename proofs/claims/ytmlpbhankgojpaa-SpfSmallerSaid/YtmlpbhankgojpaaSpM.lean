/-
  Shortest paths as mathematics: ways, distances, first hops, and what a search by turns knows.
-/
import Derived.Test.YtmlpbhankgojpaaGrMath
namespace Go.Proofs.Ytmlpbhankgojpaa.SP
open GM Classical
set_option linter.unusedVariables false
set_option linter.unusedSimpArgs false

/-- a way from s to a node, and its cost -/
inductive W (l : List E) (s : Int) : Int → Int → Prop
  | nil : W l s s 0
  | step {u v c d : Int} (h : W l s u d) (he : (u, v, c) ∈ l) : W l s v (d + c)
theorem edge {R N : Int} {l : List E} (hv : Valid R N l) {u v c : Int} (he : (u, v, c) ∈ l) : 0 ≤ u ∧ u < R + N ∧ 0 ≤ v ∧ v < R + N ∧ u ≠ v ∧ 0 ≤ c ∧ c ≤ 65535 ∧ (u < R → 1 ≤ c) ∧ (R ≤ u → c = 0 ∧ v < R) := by
  have h := alw_cases.1 (hv.al _ he)
  obtain ⟨h1, h2, h3, h4, h5⟩ := h
  dsimp only at h1 h2 h3 h4
  unfold costOK at h5
  dsimp only at h5
  by_cases hR : R ≤ u
  · rw [if_pos hR] at h5
    have := of_decide_eq_true h5
    exact ⟨h1.1, h1.2, h2.1, h2.2, h3, by omega, by omega, (fun _ => by omega), fun _ => ⟨this, by omega⟩⟩
  · rw [if_neg hR] at h5
    have := of_decide_eq_true h5
    exact ⟨h1.1, h1.2, h2.1, h2.2, h3, by omega, by omega, (fun _ => by omega), fun h => absurd h hR⟩
section
variable {R N : Int} {l : List E} (hv : Valid R N l)
include hv
theorem W.nonneg {s v d : Int} (h : W l s v d) : 0 ≤ d := by
  induction h with
  | nil => omega
  | step h he ih => have := edge hv he; omega
omit hv in
theorem W.trans {s u v d e : Int} (h : W l s u d) (g : W l u v e) : W l s v (d + e) := by
  induction g with
  | nil => rw [Int.add_zero]; exact h
  | step g he ih => rw [← Int.add_assoc]; exact ih.step he
theorem W.node {s v d : Int} (hs : 0 ≤ s ∧ s < R + N) (h : W l s v d) : 0 ≤ v ∧ v < R + N := by
  cases h with
  | nil => exact hs
  | step h he => have := edge hv he; omega
end
/-- the distance -/
def IsT (l : List E) (s v d : Int) : Prop := W l s v d ∧ ∀ e, W l s v e → d ≤ e
noncomputable def T (l : List E) (s v : Int) : Int := if h : ∃ d, IsT l s v d then Classical.choose h else -1
theorem IsT.unique {l : List E} {s v d e : Int} (h : IsT l s v d) (g : IsT l s v e) : d = e := Int.le_antisymm (h.2 e g.1) (g.2 d h.1)
theorem T_of {l : List E} {s v d : Int} (h : IsT l s v d) : T l s v = d := by
  unfold T
  rw [dif_pos ⟨d, h⟩]
  exact (Classical.choose_spec (⟨d, h⟩ : ∃ d, IsT l s v d)).unique h
section
variable {R N : Int} {l : List E} (hv : Valid R N l)
include hv
theorem ex_min {s v : Int} (h : ∃ d, W l s v d) : ∃ d, IsT l s v d := by
  have key : ∀ n : Nat, ∀ d, W l s v d → d.toNat ≤ n → ∃ e, IsT l s v e := by
    intro n
    induction n with
    | zero =>
      intro d hd hn
      have := hd.nonneg hv
      exact ⟨d, hd, fun e he => by have := he.nonneg hv; omega⟩
    | succ n ih =>
      intro d hd hn
      by_cases hm : ∃ e, W l s v e ∧ e < d
      · obtain ⟨e, he, hlt⟩ := hm
        have := he.nonneg hv
        exact ih e he (by omega)
      · exact ⟨d, hd, fun e he => Int.not_lt.1 fun hlt => hm ⟨e, he, hlt⟩⟩
  obtain ⟨d, hd⟩ := h
  exact key _ d hd (Nat.le_refl _)
theorem T_cases (s v : Int) : (T l s v = -1 ∧ ¬ ∃ d, W l s v d) ∨ (0 ≤ T l s v ∧ IsT l s v (T l s v)) := by
  by_cases h : ∃ d, W l s v d
  · obtain ⟨d, hd⟩ := ex_min hv h
    rw [T_of hd]
    exact .inr ⟨hd.1.nonneg hv, hd⟩
  · refine .inl ⟨?_, h⟩
    unfold T
    rw [dif_neg]
    rintro ⟨d, hd⟩
    exact h ⟨d, hd.1⟩
theorem T_way {s v : Int} (h : 0 ≤ T l s v) : IsT l s v (T l s v) := by
  rcases T_cases hv s v with ⟨h1, _⟩ | h1
  · omega
  · exact h1.2
theorem T_le {s v d : Int} (h : W l s v d) : 0 ≤ T l s v ∧ T l s v ≤ d := by
  rcases T_cases hv s v with ⟨_, h1⟩ | h1
  · exact absurd ⟨d, h⟩ h1
  · exact ⟨h1.1, h1.2.2 d h⟩
theorem T_self (s : Int) : T l s s = 0 := by
  have := T_le hv (W.nil (l := l) (s := s))
  omega
theorem T_edge {s u v c : Int} (h : 0 ≤ T l s u) (he : (u, v, c) ∈ l) : 0 ≤ T l s v ∧ T l s v ≤ T l s u + c := T_le hv ((T_way hv h).1.step he)
theorem T_no {s v : Int} (h : T l s v < 0) : T l s v = -1 ∧ ∀ d, ¬ W l s v d := by
  rcases T_cases hv s v with ⟨h1, h2⟩ | h1
  · exact ⟨h1, fun d hd => h2 ⟨d, hd⟩⟩
  · omega
theorem T_tri {s u v : Int} (h1 : 0 ≤ T l s u) (h2 : 0 ≤ T l u v) : 0 ≤ T l s v ∧ T l s v ≤ T l s u + T l u v := T_le hv ((T_way hv h1).1.trans (T_way hv h2).1)
end
/-- the turn of a node at a distance -/
def tr (R v d : Int) : Int := if v < R then 2 * d + 1 else 2 * d
theorem tr_mono {R v d e : Int} (h : d ≤ e) : tr R v d ≤ tr R v e := by unfold tr; split <;> omega
theorem tr_lt {R v d e : Int} : tr R v d < tr R v e ↔ d < e := by unfold tr; split <;> omega
theorem tr_le {R v d e : Int} : tr R v d ≤ tr R v e ↔ d ≤ e := by unfold tr; split <;> omega
theorem tr_dist {R x y d e : Int} (h : tr R x d ≤ tr R y e) : d ≤ e := by unfold tr at h; split at h <;> split at h <;> omega
theorem tr_edge {R N : Int} {l : List E} (hv : Valid R N l) {u v c : Int} (he : (u, v, c) ∈ l) (d : Int) : tr R u d < tr R v (d + c) := by
  obtain ⟨_, _, _, _, _, h1, _, h2, h3⟩ := edge hv he
  unfold tr
  by_cases hu : u < R
  · have := h2 hu
    rw [if_pos hu]; split <;> omega
  · have := h3 (by omega)
    rw [if_neg hu, if_pos this.2]; omega
theorem tr_way {R N : Int} {l : List E} (hv : Valid R N l) {y v e : Int} (h : W l y v e) (d : Int) : tr R y d ≤ tr R v (d + e) := by
  induction h with
  | nil => rw [Int.add_zero]; exact Int.le_refl _
  | step h he ih =>
    rename_i u v c e
    have := tr_edge hv he (d + e); rw [Int.add_assoc] at this; exact Int.le_trans ih (Int.le_of_lt this)
/-- where a way leaves a set -/
theorem leave {l : List E} {s v d : Int} {S : Int → Prop} (hs : S s) (h : W l s v d) : S v ∨ ∃ u y c d1 d2, S u ∧ ¬ S y ∧ (u, y, c) ∈ l ∧ W l s u d1 ∧ W l y v d2 ∧ d = d1 + c + d2 := by
  induction h with
  | nil => exact .inl hs
  | step h he ih =>
    rename_i u v c d
    rcases ih with ih | ⟨u1, y, c1, d1, d2, h1, h2, h3, h4, h5, h6⟩
    · by_cases hS : S v
      · exact .inl hS
      · exact .inr ⟨u, v, c, d, 0, ih, hS, he, h, W.nil, by omega⟩
    · exact .inr ⟨u1, y, c1, d1, d2 + c, h1, h2, h3, h4, h5.step he, by omega⟩
/-- what a search knows: settled nodes, edges that were followed, distances -/
structure Inv (R N : Int) (l : List E) (s : Int) (S : Int → Prop) (X : E → Prop) (D : Int → Int) : Prop where
  root : S s ∧ D s = 0
  best : ∀ v, 0 ≤ v → v < R + N → v ≠ s → (D v = -1 ∧ ∀ e, X e → e.2.1 ≠ v) ∨ ((∃ e, X e ∧ e.2.1 = v ∧ T l s e.1 + e.2.2 = D v) ∧ ∀ e, X e → e.2.1 = v → D v ≤ T l s e.1 + e.2.2)
  sub : ∀ e, X e → e ∈ l ∧ S e.1
  set : ∀ v, S v → (0 ≤ v ∧ v < R + N) ∧ D v = T l s v ∧ 0 ≤ T l s v
  far : ∀ v y, S v → 0 ≤ y → y < R + N → ¬ S y → 0 ≤ D y → tr R v (T l s v) ≤ tr R y (D y)
def Full (l : List E) (S : Int → Prop) (X : E → Prop) : Prop := ∀ e, e ∈ l → S e.1 → X e
section
variable {R N : Int} {l : List E} (hv : Valid R N l) {s : Int} {S : Int → Prop} {X : E → Prop} {D : Int → Int}
include hv
theorem Inv.way (h : Inv R N l s S X D) {v : Int} (hn : 0 ≤ v ∧ v < R + N) (hd : 0 ≤ D v) : W l s v (D v) := by
  by_cases e : v = s
  · subst e; rw [h.root.2]; exact W.nil
  · rcases h.best v hn.1 hn.2 e with ⟨h1, _⟩ | ⟨⟨x, h1, h2, h3⟩, _⟩
    · omega
    · obtain ⟨h4, h5⟩ := h.sub x h1
      have h6 := (T_way hv (h.set _ h5).2.2).1
      rw [← h3]
      subst h2
      exact h6.step (by rcases x with ⟨a, b, c⟩; exact h4)
theorem Inv.ge (h : Inv R N l s S X D) {v : Int} (hn : 0 ≤ v ∧ v < R + N) (hd : 0 ≤ D v) : 0 ≤ T l s v ∧ T l s v ≤ D v := T_le hv (h.way hv hn hd)
theorem Inv.out (h : Inv R N l s S X D) (hf : Full l S X) {v d : Int} (hw : W l s v d) (hS : ¬ S v) : ∃ y, (0 ≤ y ∧ y < R + N) ∧ ¬ S y ∧ 0 ≤ D y ∧ tr R y (D y) ≤ tr R v d ∧ D y ≤ d := by
  rcases leave h.root.1 hw with h1 | ⟨u, y, c, d1, d2, h1, h2, h3, h4, h5, h6⟩
  · exact absurd h1 hS
  · have hx := hf _ h3 h1
    have he := edge hv h3
    have hys : y ≠ s := fun e => h2 (e ▸ h.root.1)
    rcases h.best y he.2.2.1 he.2.2.2.1 hys with ⟨_, h7⟩ | ⟨⟨x, h7, h8, h9⟩, h10⟩
    · exact absurd rfl (h7 _ hx)
    · have h11 := h10 _ hx rfl
      dsimp only at h11
      have h12 := (T_le hv h4).2
      have h13 := h5.nonneg hv
      have h14 := tr_way hv h5 (D y)
      have h15 : 0 ≤ D y := by
        obtain ⟨h16, h17⟩ := h.sub x h7
        have := (h.set _ h17).2.2
        have := edge hv (u := x.1) (v := x.2.1) (c := x.2.2) h16
        omega
      exact ⟨y, ⟨he.2.2.1, he.2.2.2.1⟩, h2, h15, Int.le_trans h14 (tr_mono (by omega)), by omega⟩
/-- the next node has its distance, and all its parents are settled -/
theorem Inv.pop (h : Inv R N l s S X D) (hf : Full l S X) {x : Int} (hn : 0 ≤ x ∧ x < R + N) (hx : ¬ S x) (hd : 0 ≤ D x) (hm : ∀ y, 0 ≤ y → y < R + N → ¬ S y → 0 ≤ D y → tr R x (D x) ≤ tr R y (D y)) :
    D x = T l s x ∧ 0 ≤ T l s x ∧ ∀ u c, (u, x, c) ∈ l → 0 ≤ T l s u → T l s u + c = T l s x → S u := by
  have h1 := h.ge hv hn hd
  obtain ⟨y, hy1, hy2, hy3, hy4, hy5⟩ := h.out hv hf (T_way hv h1.1).1 hx
  have h2 := tr_dist (hm y hy1.1 hy1.2 hy2 hy3)
  have hDT : D x = T l s x := by omega
  refine ⟨hDT, h1.1, fun u c he hu ht => Classical.byContradiction fun hS => ?_⟩
  obtain ⟨z, hz1, hz2, hz3, hz4, hz5⟩ := h.out hv hf (T_way hv hu).1 hS
  have h3 := hm z hz1.1 hz1.2 hz2 hz3
  have h4 := tr_edge hv he (T l s u)
  rw [ht, ← hDT] at h4
  omega
theorem Inv.end_ (h : Inv R N l s S X D) (hf : Full l S X) (hm : ∀ y, 0 ≤ y → y < R + N → ¬ S y → ¬ 0 ≤ D y) : ∀ v, 0 ≤ v → v < R + N → D v = T l s v := fun v h0 h1 => by
  by_cases hS : S v
  · exact (h.set v hS).2.1
  · have h2 := hm v h0 h1 hS
    have h3 : T l s v = -1 := by
      rcases T_cases hv s v with ⟨h4, _⟩ | ⟨h4, h5⟩
      · exact h4
      · obtain ⟨y, hy1, hy2, hy3, _⟩ := h.out hv hf h5.1 hS
        exact absurd hy3 (hm y hy1.1 hy1.2 hy2)
    rcases h.best v h0 h1 (fun e => hS (e ▸ h.root.1)) with ⟨h4, _⟩ | ⟨⟨x, h7, h8, h9⟩, _⟩
    · omega
    · obtain ⟨h16, h17⟩ := h.sub x h7
      have := (h.set _ h17).2.2
      have := edge hv (u := x.1) (v := x.2.1) (c := x.2.2) h16
      omega
/-- a node is settled -/
theorem Inv.add (h : Inv R N l s S X D) (hf : Full l S X) {x : Int} (hn : 0 ≤ x ∧ x < R + N) (hx : ¬ S x) (hd : 0 ≤ D x) (hm : ∀ y, 0 ≤ y → y < R + N → ¬ S y → 0 ≤ D y → tr R x (D x) ≤ tr R y (D y)) : Inv R N l s (fun v => S v ∨ v = x) X D := by
  obtain ⟨p1, p2, p3⟩ := h.pop hv hf hn hx hd hm
  refine ⟨⟨.inl h.root.1, h.root.2⟩, h.best, fun e he => ⟨(h.sub e he).1, .inl (h.sub e he).2⟩, fun v hS => ?_, fun v y hS h0 h1 hy hdy => ?_⟩
  · rcases hS with hS | rfl
    · exact h.set v hS
    · exact ⟨hn, p1, p2⟩
  · have hy1 : ¬ S y := fun e => hy (.inl e)
    rcases hS with hS | rfl
    · exact h.far v y hS h0 h1 hy1 hdy
    · rw [← p1]; exact hm y h0 h1 hy1 hdy
/-- an edge of a settled node to a settled one is longer -/
theorem Inv.longer (h : Inv R N l s S X D) {x v c : Int} (hx : S x) (hS : S v) (he : (x, v, c) ∈ l) (hle : tr R v (T l s v) ≤ tr R x (T l s x)) : T l s v < T l s x + c := by
  have := tr_edge hv he (T l s x)
  exact tr_lt.1 (Int.lt_of_le_of_lt hle this)
end
/-- the next distance behind an edge -/
def nd (D : Int → Int) (v d : Int) : Int → Int := fun y => if y = v then d else D y
section
variable {R N : Int} {l : List E} (hv : Valid R N l) {s : Int} {S : Int → Prop} {X : E → Prop} {D : Int → Int}
include hv
omit hv in
/-- an edge that is longer changes nothing -/
theorem Inv.skip (h : Inv R N l s S X D) {x v c : Int} (hx : S x) (he : (x, v, c) ∈ l) (hd : 0 ≤ D v) (hlt : D v < T l s x + c) : Inv R N l s S (fun e => X e ∨ e = (x, v, c)) D := by
  refine ⟨h.root, fun y h0 h1 hy => ?_, fun e hX => ?_, h.set, h.far⟩
  · rcases h.best y h0 h1 hy with ⟨h2, h3⟩ | ⟨⟨z, h2, h3, h4⟩, h5⟩
    · refine .inl ⟨h2, fun e hX => ?_⟩
      rcases hX with hX | rfl
      · exact h3 e hX
      · intro e; dsimp only at e; subst e; omega
    · refine .inr ⟨⟨z, .inl h2, h3, h4⟩, fun e hX hey => ?_⟩
      rcases hX with hX | rfl
      · exact h5 e hX hey
      · dsimp only at hey ⊢; subst hey; omega
  · rcases hX with hX | rfl
    · exact h.sub e hX
    · exact ⟨he, hx⟩
/-- an edge of the same length -/
theorem Inv.same (h : Inv R N l s S X D) {x v c : Int} (hx : S x) (he : (x, v, c) ∈ l) (hd : D v = T l s x + c) : Inv R N l s S (fun e => X e ∨ e = (x, v, c)) D := by
  refine ⟨h.root, fun y h0 h1 hy => ?_, fun e hX => ?_, h.set, h.far⟩
  · have hed := edge hv he
    have hTx := (h.set x hx).2.2
    rcases h.best y h0 h1 hy with ⟨h2, h3⟩ | ⟨⟨z, h2, h3, h4⟩, h5⟩
    · refine .inl ⟨h2, fun e hX => ?_⟩
      rcases hX with hX | rfl
      · exact h3 e hX
      · intro e; dsimp only at e; subst e; omega
    · refine .inr ⟨⟨z, .inl h2, h3, h4⟩, fun e hX hey => ?_⟩
      rcases hX with hX | rfl
      · exact h5 e hX hey
      · dsimp only at hey ⊢; subst hey; omega
  · rcases hX with hX | rfl
    · exact h.sub e hX
    · exact ⟨he, hx⟩
/-- an edge that is shorter, or the first one -/
theorem Inv.less (h : Inv R N l s S X D) {x v c : Int} (hx : S x) (hS : ¬ S v) (he : (x, v, c) ∈ l) (hd : D v < 0 ∨ T l s x + c < D v) (hfar : ∀ u, S u → tr R u (T l s u) ≤ tr R x (T l s x)) : Inv R N l s S (fun e => X e ∨ e = (x, v, c)) (nd D v (T l s x + c)) := by
  have hed := edge hv he
  have hTx := (h.set x hx).2.2
  have hvs : v ≠ s := fun e => hS (e ▸ h.root.1)
  refine ⟨⟨h.root.1, by unfold nd; rw [if_neg (Ne.symm hvs)]; exact h.root.2⟩, fun y h0 h1 hy => ?_, fun e hX => ?_, fun u hu => ?_, fun u y hu h0 h1 hy hdy => ?_⟩
  · unfold nd
    by_cases e : y = v
    · subst e
      rw [if_pos rfl]
      refine .inr ⟨⟨(x, y, c), .inr rfl, rfl, rfl⟩, fun e hX hey => ?_⟩
      rcases hX with hX | rfl
      · rcases h.best y h0 h1 hy with ⟨h2, h3⟩ | ⟨⟨z, h2, h3, h4⟩, h5⟩
        · exact absurd hey (h3 e hX)
        · have := h5 e hX hey
          have : 0 ≤ D y := by
            obtain ⟨h16, h17⟩ := h.sub z h2
            have := (h.set _ h17).2.2
            have := edge hv (u := z.1) (v := z.2.1) (c := z.2.2) h16
            omega
          omega
      · exact Int.le_refl _
    · rw [if_neg e]
      rcases h.best y h0 h1 hy with ⟨h2, h3⟩ | ⟨⟨z, h2, h3, h4⟩, h5⟩
      · refine .inl ⟨h2, fun e' hX => ?_⟩
        rcases hX with hX | rfl
        · exact h3 e' hX
        · exact fun e2 => e e2.symm
      · refine .inr ⟨⟨z, .inl h2, h3, h4⟩, fun e' hX hey => ?_⟩
        rcases hX with hX | rfl
        · exact h5 e' hX hey
        · exact absurd hey.symm e
  · rcases hX with hX | rfl
    · exact h.sub e hX
    · exact ⟨he, hx⟩
  · unfold nd
    rw [if_neg (show ¬ u = v from fun e => hS (e ▸ hu))]
    exact h.set u hu
  · unfold nd at hdy ⊢
    by_cases e : y = v
    · subst e
      rw [if_pos rfl]
      exact Int.le_of_lt (Int.lt_of_le_of_lt (hfar u hu) (tr_edge hv he _))
    · rw [if_neg e] at hdy ⊢
      exact h.far u y hu h0 h1 hy hdy
end
/-- a first router or network -/
def First (R : Int) (l : List E) (s h : Int) : Prop := h ≠ s ∧ 0 ≤ T l s h ∧ ((s, h, T l s h) ∈ l ∨ (h < R ∧ ∃ w, R ≤ w ∧ (s, w, T l s w) ∈ l ∧ T l s w = T l s h ∧ (w, h, 0) ∈ l))
def Hop (R : Int) (l : List E) (s v h : Int) : Prop := v ≠ s ∧ 0 ≤ T l s v ∧ First R l s h ∧ (h = v ∨ (h < R ∧ 0 ≤ T l h v ∧ T l s h + T l h v = T l s v))
/-- what a parent passes on -/
def Con (R s u v h : Int) (K : Int → Prop) : Prop := (u = s ∧ h = v) ∨ ∃ k, K k ∧ h = if R ≤ k then v else k
theorem hop_rec {R N : Int} {l : List E} (hv : Valid R N l) {s : Int} (hs : s < R) {v h : Int} (hvs : v ≠ s) (hT : 0 ≤ T l s v) :
    Hop R l s v h ↔ ∃ u c, (u, v, c) ∈ l ∧ 0 ≤ T l s u ∧ T l s u + c = T l s v ∧ Con R s u v h (Hop R l s u) := by
  have hss := T_self hv s
  constructor
  · rintro ⟨_, _, hF, hh⟩
    by_cases e : h = v
    · subst e
      rcases hF.2.2 with h1 | ⟨h1, w, h2, h3, h4, h5⟩
      · exact ⟨s, _, h1, by omega, by omega, .inl ⟨rfl, rfl⟩⟩
      · have hw : 0 ≤ T l s w := by omega
        refine ⟨w, 0, h5, hw, by omega, .inr ⟨w, ⟨by omega, hw, ⟨by omega, hw, .inl h3⟩, .inl rfl⟩, by rw [if_pos h2]⟩⟩
    · rcases hh with h1 | ⟨hR, h1, h2⟩
      · exact absurd h1 e
      · have hw := (T_way hv h1).1
        generalize hq : T l h v = q at *
        cases hw with
        | nil => exact absurd rfl e
        | step hw he =>
          rename_i u c d
          have hTh := hF.2.1
          have a1 := T_le hv hw
          have a2 := T_le hv ((T_way hv hTh).1.trans hw)
          have a3 := T_edge hv a2.1 he
          have a4 := T_tri hv hTh a1.1
          have hus : u ≠ s := by
            rintro rfl
            have hz : T l u h = 0 := by omega
            rcases hF.2.2 with h3 | ⟨_, w, h4, h3, h5, _⟩
            · have := (edge hv h3).2.2.2.2.2.2.2.1 hs; omega
            · have := (edge hv h3).2.2.2.2.2.2.2.1 hs; omega
          refine ⟨u, c, he, a2.1, by omega, .inr ⟨h, ⟨hus, a2.1, hF, .inr ⟨hR, a1.1, by omega⟩⟩, by rw [if_neg (by omega)]⟩⟩
  · rintro ⟨u, c, he, hu, hc, h1⟩
    have hed := edge hv he
    rcases h1 with ⟨rfl, rfl⟩ | ⟨k, ⟨hus, _, hF, hk⟩, rfl⟩
    · rw [hss] at hc
      have : c = T l u h := by omega
      subst this
      exact ⟨hvs, hT, ⟨hvs, hT, .inl he⟩, .inl rfl⟩
    · by_cases hkR : R ≤ k
      · rw [if_pos hkR]
        have hku : k = u := by rcases hk with h2 | h2 <;> omega
        subst hku
        obtain ⟨rfl, hvR⟩ := hed.2.2.2.2.2.2.2.2 hkR
        rcases hF.2.2 with h3 | ⟨h3, _⟩
        · exact ⟨hvs, hT, ⟨hvs, hT, .inr ⟨hvR, k, hkR, h3, by omega, he⟩⟩, .inl rfl⟩
        · omega
      · rw [if_neg hkR]
        have hTk := hF.2.1
        have hku : 0 ≤ T l k u ∧ T l s k + T l k u = T l s u := by
          rcases hk with rfl | ⟨_, h2, h3⟩
          · have := T_self hv k; omega
          · exact ⟨h2, h3⟩
        have a1 := T_edge hv hku.1 he
        have a2 := T_tri hv hTk a1.1
        exact ⟨hvs, hT, hF, .inr ⟨by omega, a1.1, by omega⟩⟩
end Go.Proofs.Ytmlpbhankgojpaa.SP
