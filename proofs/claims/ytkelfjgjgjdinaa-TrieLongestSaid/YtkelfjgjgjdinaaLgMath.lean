/-
  Plain facts on the longest prefix: the last of the entries above an address is the best one of the list.
-/
import Derived.Test.YtkelfjgjgjdinaaTwN
namespace Go.Proofs.Ytkelfjgjgjdinaa
set_option linter.unusedSimpArgs false
set_option linter.unusedVariables false

theorem vld_32 (a : Nat) : vld a 32 = true := by
  unfold vld; simp; rw [low_in (by decide) (by decide)]; exact M.keepN_all a
theorem C_con {p : PP} (a : Nat) (h : V p = true) : C p (a, 32) = con p.1 p.2 a := by
  have i := (V_iff p).1 h
  unfold C; exact cov_in (vld_32 a) i.2.1
theorem filter_ins_no {l : List En} {x : En} {f : PP → Bool} (h : f x.1 = false) (ha : AscE l) : (insE l x).filter (fun y => f y.1) = l.filter (fun y => f y.1) := by
  refine asc_ext (asc_filter _ (asc_insE x ha)) (asc_filter _ ha) fun y => ?_
  rw [List.mem_filter, List.mem_filter, mem_insE]
  constructor
  · rintro ⟨rfl | ⟨h1, h2⟩, h3⟩
    · rw [h] at h3; cases h3
    · exact ⟨h1, h3⟩
  · rintro ⟨h1, h3⟩
    exact ⟨.inr ⟨h1, fun e => by rw [e, h] at h3; cases h3⟩, h3⟩
theorem filter_ins_yes {l : List En} {x : En} {f : PP → Bool} (h : f x.1 = true) (ha : AscE l) : (insE l x).filter (fun y => f y.1) = insE (l.filter (fun y => f y.1)) x := by
  refine asc_ext (asc_filter _ (asc_insE x ha)) (asc_insE x (asc_filter _ ha)) fun y => ?_
  rw [List.mem_filter, mem_insE, mem_insE, List.mem_filter]
  constructor
  · rintro ⟨rfl | ⟨h1, h2⟩, h3⟩
    · exact .inl rfl
    · exact .inr ⟨⟨h1, h3⟩, h2⟩
  · rintro (rfl | ⟨⟨h1, h3⟩, h2⟩)
    · exact ⟨.inl rfl, h⟩
    · exact ⟨.inr ⟨h1, h2⟩, h3⟩
theorem last_of {l : List En} (ha : AscE l) {x : En} (hx : x ∈ l) (hm : ∀ y ∈ l, y = x ∨ ltP y.1 x.1) : lastOf l = x := by
  rcases lastOf_max ha x hx with h | h
  · exact h.symm
  · have hne : l.isEmpty = false := by cases l; cases hx; rfl
    rcases hm _ (lastOf_mem hne) with h2 | h2
    · exact h2
    · exact absurd (ltP_trans h h2) (ltP_irrefl _)
def stepB (a : Nat) (s : En × Bool) (x : En) : En × Bool := if con x.1.1 x.1.2 a = true ∧ (s.2 = false ∨ s.1.1.2 ≤ x.1.2) then (x, true) else s
def bestOf (a : Nat) (l : List En) : En × Bool := l.foldl (stepB a) (((0, 0), 0), false)
theorem bestOf_snoc (a : Nat) (l : List En) (x : En) : bestOf a (l ++ [x]) = stepB a (bestOf a l) x := by unfold bestOf; rw [List.foldl_append]; rfl
def upon (a : Nat) (l : List En) : List En := (foldE l).filter (fun x => C x.1 (a, 32))
theorem foldE_mem_V {l : List En} (h : allV l = true) : ∀ x ∈ foldE l, V x.1 = true := by
  have key : ∀ (l out : List En), (∀ x ∈ l, V x.1 = true) → (∀ x ∈ out, V x.1 = true) → ∀ x ∈ l.foldl insE out, V x.1 = true := by
    intro l
    induction l with
    | nil => exact fun out _ h => h
    | cons y r ih => exact fun out h1 h2 => ih _ (fun x hx => h1 x (by simp [hx])) (fun x hx => by
        rcases mem_insE.1 hx with rfl | ⟨hx, _⟩
        · exact h1 x (by simp)
        · exact h2 x hx)
  exact key l [] (fun x hx => List.all_eq_true.1 h x hx) (fun x hx => by cases hx)
theorem bestOf_step {a : Nat} {l : List En} {x : En} (hV : allV (l ++ [x]) = true) (ih : bestOf a l = (lastOf (upon a l), !(upon a l).isEmpty)) : bestOf a (l ++ [x]) = (lastOf (upon a (l ++ [x])), !(upon a (l ++ [x])).isEmpty) := by
  have hx : V x.1 = true := List.all_eq_true.1 hV x (by simp)
  have hl : allV l = true := List.all_eq_true.2 fun y hy => List.all_eq_true.1 hV y (by simp [hy])
  have ha := foldE_asc l
  have hF : AscE (upon a l) := asc_filter _ ha
  rw [bestOf_snoc, ih]
  unfold stepB
  have hcc := C_con a hx
  cases hc : con x.1.1 x.1.2 a
  · rw [if_neg (by simp)]
    have : upon a (l ++ [x]) = upon a l := by unfold upon; rw [foldE_snoc]; exact filter_ins_no (f := fun p => C p (a, 32)) (by rw [hcc, hc]) ha
    rw [this]
  · have e : upon a (l ++ [x]) = insE (upon a l) x := by unfold upon; rw [foldE_snoc]; exact filter_ins_yes (f := fun p => C p (a, 32)) (by rw [hcc, hc]) ha
    have hne : (upon a (l ++ [x])).isEmpty = false := by
      rw [e]; unfold insE; cases (upon a l).filter (fun y => decide (ltP y.1 x.1)) <;> rfl
    have hxm : x ∈ upon a (l ++ [x]) := by rw [e]; exact mem_insE.2 (.inl rfl)
    have hasc : AscE (upon a (l ++ [x])) := by rw [e]; exact asc_insE x hF
    have hCx : C x.1 (a, 32) = true := by rw [hcc, hc]
    cases hemp : (upon a l).isEmpty
    · have hb := lastOf_mem hemp
      have hbC : C (lastOf (upon a l)).1 (a, 32) = true := (List.mem_filter.1 hb).2
      by_cases hlen : (lastOf (upon a l)).1.2 ≤ x.1.2
      · rw [if_pos ⟨rfl, .inr hlen⟩, hne]
        have hcov : C (lastOf (upon a l)).1 x.1 = true := by
          rcases C_nest hbC hCx with h | h
          · exact h
          · have := (C_V h).2.2.1
            rw [C_len h (by omega)]; exact C_refl ((C_V h).2.1)
        have : lastOf (upon a (l ++ [x])) = x := last_of hasc hxm fun y hy => by
          rw [e] at hy
          rcases mem_insE.1 hy with rfl | ⟨hy, hny⟩
          · exact .inl rfl
          · right
            have h1 : y.1 = (lastOf (upon a l)).1 ∨ ltP y.1 (lastOf (upon a l)).1 := (lastOf_max hF y hy).imp (congrArg Prod.fst) id
            have h2 : (lastOf (upon a l)).1 = x.1 ∨ ltP (lastOf (upon a l)).1 x.1 := by
              by_cases hh : (lastOf (upon a l)).1 = x.1
              · exact .inl hh
              · exact .inr (C_lt hcov (C_strict hcov hh))
            rcases h1 with h1 | h1 <;> rcases h2 with h2 | h2
            · exact absurd (h1.trans h2) hny
            · rw [h1]; exact h2
            · rw [← h2]; exact h1
            · exact ltP_trans h1 h2
        rw [this]; rfl
      · rw [if_neg (by rintro ⟨_, h | h⟩; cases h; exact hlen h), hne]
        have hcov : C x.1 (lastOf (upon a l)).1 = true := by
          rcases C_nest hbC hCx with h | h
          · have := (C_V h).2.2.1; omega
          · exact h
        have hlt : ltP x.1 (lastOf (upon a l)).1 := C_lt hcov (by omega)
        have : lastOf (upon a (l ++ [x])) = lastOf (upon a l) := last_of hasc (by rw [e]; exact mem_insE.2 (.inr ⟨hb, fun h => ltP_ne hlt h.symm⟩)) fun y hy => by
          rw [e] at hy
          rcases mem_insE.1 hy with rfl | ⟨hy, _⟩
          · exact .inr hlt
          · exact lastOf_max hF y hy
        rw [this]
    · rw [if_pos ⟨rfl, .inl rfl⟩, hne]
      have hnil : upon a l = [] := List.isEmpty_iff.1 hemp
      have : lastOf (upon a (l ++ [x])) = x := by rw [e, hnil]; rfl
      rw [this]; rfl
theorem bestOf_eq (a : Nat) (l : List En) : ∀ k, allV (l.take k) = true → bestOf a (l.take k) = (lastOf (upon a (l.take k)), !(upon a (l.take k)).isEmpty)
  | 0, _ => rfl
  | k + 1, h => by
    cases hx : l[k]? with
    | none =>
      have hle := List.getElem?_eq_none_iff.1 hx
      rw [List.take_of_length_le (by omega)] at h ⊢
      have := bestOf_eq a l k (by rw [List.take_of_length_le hle]; exact h)
      rwa [List.take_of_length_le hle] at this
    | some x =>
      rw [take_snoc hx] at h ⊢
      exact bestOf_step h (bestOf_eq a l k (List.all_eq_true.2 fun y hy => List.all_eq_true.1 h y (by simp [hy])))
end Go.Proofs.Ytkelfjgjgjdinaa
