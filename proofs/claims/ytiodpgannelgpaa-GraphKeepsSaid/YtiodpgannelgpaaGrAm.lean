/-
  What changes do to the edges of a valid graph.
-/
import Derived.Test.YtiodpgannelgpaaGrPt
import Derived.Test.YtiodpgannelgpaaGrX
import Derived.Test.YtiodpgannelgpaaGrDl
namespace Go.Proofs.Ytiodpgannelgpaa
namespace GM
set_option linter.unusedVariables false
set_option linter.unusedSimpArgs false

/-- between the nodes of c -/
def sm (c x : E) : Bool := decide (x.1 = c.1 ∧ x.2.1 = c.2.1)
theorem sm_iff {c x : E} : sm c x = true ↔ x.1 = c.1 ∧ x.2.1 = c.2.1 := by unfold sm; rw [decide_eq_true_eq]
theorem sm_no {c x : E} : sm c x = false ↔ ¬ (x.1 = c.1 ∧ x.2.1 = c.2.1) := by rw [← sm_iff]; simp
def has (l : List E) (c : E) : Bool := l.any (sm c)
theorem has_iff {l : List E} {c : E} : has l c = true ↔ ∃ x ∈ l, x.1 = c.1 ∧ x.2.1 = c.2.1 := by
  unfold has; rw [List.any_eq_true]
  exact ⟨fun ⟨x, h1, h2⟩ => ⟨x, h1, sm_iff.1 h2⟩, fun ⟨x, h1, h2⟩ => ⟨x, h1, sm_iff.2 h2⟩⟩
theorem has_no {l : List E} {c : E} : has l c = false ↔ ∀ x ∈ l, ¬ (x.1 = c.1 ∧ x.2.1 = c.2.1) := by
  constructor
  · intro h x hx hs
    rw [has_iff.2 ⟨x, hx, hs⟩] at h; cases h
  · intro h
    cases hh : has l c
    · rfl
    · obtain ⟨x, h1, h2⟩ := has_iff.1 hh
      exact absurd h2 (h x h1)
/-- the edges without those between the nodes of c -/
def wo (l : List E) (c : E) : List E := l.filter (fun x => !sm c x)
theorem mem_wo {l : List E} {c x : E} : x ∈ wo l c ↔ x ∈ l ∧ ¬ (x.1 = c.1 ∧ x.2.1 = c.2.1) := by
  unfold wo
  rw [List.mem_filter]
  refine and_congr_right fun _ => ?_
  rw [← sm_no]; simp
theorem wo_asc {l : List E} {c : E} (h : AscE l) : AscE (wo l c) := h.filter _
theorem wo_no {l : List E} {c : E} (h : has l c = false) : wo l c = l := by
  unfold wo
  rw [List.filter_eq_self]
  intro x hx
  rw [sm_no.2 (has_no.1 h x hx)]; rfl
theorem wo_len {l : List E} {c : E} (h : has l c = true) : (wo l c).length + 1 ≤ l.length := by
  unfold wo
  have h1 : (l.filter (fun x => !sm c x)).length < l.length := by
    refine List.length_filter_lt_length_iff_exists.2 ?_
    obtain ⟨x, h1, h2⟩ := has_iff.1 h
    exact ⟨x, h1, by rw [sm_iff.2 h2]; simp⟩
  omega
/-- the edges behind a change that is accepted -/
def nxt (l : List E) (c : E) : List E := if c.2.2 < 0 then wo l c else putE c (wo l c)
theorem nxt_asc {l : List E} {c : E} (h : AscE l) : AscE (nxt l c) := by
  unfold nxt
  split
  · exact wo_asc h
  · exact putE_asc (wo_asc h) (fun y hy => (mem_wo.1 hy).2)
theorem mem_nxt {l : List E} {c x : E} : x ∈ nxt l c ↔ (x ∈ l ∧ ¬ (x.1 = c.1 ∧ x.2.1 = c.2.1)) ∨ (¬ c.2.2 < 0 ∧ x = c) := by
  unfold nxt
  split
  · rename_i h
    rw [mem_wo]
    exact ⟨.inl, fun h1 => h1.elim id (fun h2 => absurd h h2.1)⟩
  · rename_i h
    rw [mem_putE, mem_wo]
    exact ⟨fun h1 => h1.elim (fun e => .inr ⟨h, e⟩) .inl, fun h1 => h1.elim .inr (fun h2 => .inl h2.2)⟩
/-- the error of a change -/
def ape (R N : Int) (l : List E) (c : E) : Int :=
  if isN R N c.1 = true ∧ isN R N c.2.1 = true then
    if c.2.2 < 0 then (if has l c = true then 0 else 6)
    else if alw R N c ≠ 0 then alw R N c
    else if has l c = false ∧ 1024 ≤ l.length then 4 else 0
  else 5
theorem nxt_valid {R N : Int} {l : List E} {c : E} (h : Valid R N l) (hq : ape R N l c = 0) : Valid R N (nxt l c) := by
  unfold ape at hq
  split at hq
  · split at hq
    · rename_i hneg
      refine ⟨h.r, h.n, h.s, ?_, fun e he => ?_, nxt_asc h.asc⟩
      · unfold nxt; rw [if_pos hneg]
        exact Nat.le_trans (List.length_filter_le _ _) h.len
      · rcases mem_nxt.1 he with h1 | h1
        · exact h.al e h1.1
        · exact absurd hneg h1.1
    · rename_i hneg
      split at hq
      · rename_i ha; exact absurd hq ha
      · rename_i ha
        split at hq
        · omega
        · rename_i hfull
          refine ⟨h.r, h.n, h.s, ?_, fun e he => ?_, nxt_asc h.asc⟩
          · unfold nxt; rw [if_neg hneg, putE_len]
            cases hh : has l c
            · rw [wo_no hh]
              have : ¬ 1024 ≤ l.length := fun h1 => hfull ⟨hh, h1⟩
              omega
            · have := wo_len hh; have := h.len; omega
          · rcases mem_nxt.1 he with h1 | h1
            · exact h.al e h1.1
            · rw [h1.2]; simpa using ha
  · omega
theorem nxt_eq {l m : List E} {c : E} (h : AscE l) (hm : AscE m) (hx : ∀ x, x ∈ m ↔ (x ∈ l ∧ ¬ (x.1 = c.1 ∧ x.2.1 = c.2.1)) ∨ (¬ c.2.2 < 0 ∧ x = c)) : m = nxt l c :=
  ascE_ext hm (nxt_asc h) fun x => (hx x).trans mem_nxt.symm
theorem asc_at {l : List E} (h : AscE l) {i j : Nat} {x y : E} (hi : l[i]? = some x) (hj : l[j]? = some y) (hij : i < j) : bef x y = true := by
  obtain ⟨a1, a2⟩ := List.getElem?_eq_some_iff.1 hi
  obtain ⟨b1, b2⟩ := List.getElem?_eq_some_iff.1 hj
  have := List.pairwise_iff_getElem.1 h i j a1 b1 hij
  rwa [a2, b2] at this
theorem asc_same {l : List E} (h : AscE l) {i j : Nat} {x y : E} (hi : l[i]? = some x) (hj : l[j]? = some y) (h1 : x.1 = y.1) (h2 : x.2.1 = y.2.1) : i = j := by
  rcases Nat.lt_trichotomy i j with g | g | g
  · have := asc_at h hi hj g; rw [bef_iff] at this; omega
  · exact g
  · have := asc_at h hj hi g; rw [bef_iff] at this; omega
theorem mem_delE {l : List E} {k : Nat} {x : E} : x ∈ delE l k ↔ ∃ j, j ≠ k ∧ l[j]? = some x := by
  unfold delE
  rw [List.mem_append]
  constructor
  · rintro (h | h)
    · obtain ⟨j, hj, e⟩ := List.getElem_of_mem h
      rw [List.length_take] at hj
      rw [List.getElem_take] at e
      exact ⟨j, by omega, by rw [List.getElem?_eq_getElem (by omega), e]⟩
    · obtain ⟨j, hj, e⟩ := List.getElem_of_mem h
      rw [List.length_drop] at hj
      rw [List.getElem_drop] at e
      exact ⟨k + 1 + j, by omega, by rw [List.getElem?_eq_getElem (by omega), e]⟩
  · rintro ⟨j, hj, e⟩
    obtain ⟨h1, h2⟩ := List.getElem?_eq_some_iff.1 e
    rcases Nat.lt_or_ge j k with g | g
    · left
      exact List.mem_of_getElem? (i := j) (by rw [List.getElem?_take, if_pos g]; exact e)
    · right
      refine List.mem_of_getElem? (i := j - (k + 1)) ?_
      rw [List.getElem?_drop, show k + 1 + (j - (k + 1)) = j by omega]; exact e
theorem delE_sub {l : List E} {k : Nat} : (delE l k).Sublist l := by
  unfold delE
  have : l = l.take k ++ l.drop k := (List.take_append_drop k l).symm
  conv => rhs; rw [this]
  exact List.Sublist.append (List.Sublist.refl _) (by rw [← List.drop_drop]; exact List.drop_sublist _ _)
theorem del_wo {l : List E} {c e : E} {k : Nat} (h : AscE l) (he : l[k]? = some e) (hs : e.1 = c.1 ∧ e.2.1 = c.2.1) : delE l k = wo l c :=
  ascE_ext (h.sublist delE_sub) (wo_asc h) fun x => by
    rw [mem_delE, mem_wo]
    constructor
    · rintro ⟨j, hj, hx⟩
      exact ⟨List.mem_of_getElem? hx, fun h1 => hj (asc_same h hx he (by omega) (by omega))⟩
    · rintro ⟨hx, hn⟩
      obtain ⟨j, hj, e1⟩ := List.getElem_of_mem hx
      refine ⟨j, ?_, by rw [List.getElem?_eq_getElem hj, e1]⟩
      rintro rfl
      rw [List.getElem?_eq_getElem hj, e1] at he
      cases he
      exact hn hs
open Go.Proofs.Ytiodpgannelgpaa in
/-- the place that the search finds -/
theorem hit_yes {l : List E} {a b : Int} {i : Nat} (h : hit (a, b, 0) l i = true) : ∃ e, l[i]? = some e ∧ e.1 = a ∧ e.2.1 = b := by
  unfold hit at h
  cases hx : l[i]? with
  | none => rw [hx] at h; cases h
  | some x =>
    rw [hx] at h
    have := ordC_zero.1 (of_decide_eq_true h)
    exact ⟨x, rfl, this⟩
open Go.Proofs.Ytiodpgannelgpaa in
theorem hit_no {l : List E} {a b : Int} {i : Nat} (ha : AscE l) (hb : BsE (a, b, 0) l i i) (h : hit (a, b, 0) l i = false) : ∀ x ∈ l, ¬ (x.1 = a ∧ x.2.1 = b) := by
  intro x hx hs
  obtain ⟨k, hk, e⟩ := List.getElem_of_mem hx
  have hkx : l[k]? = some x := by rw [List.getElem?_eq_getElem hk, e]
  rcases Nat.lt_trichotomy k i with g | g | g
  · have := hb.2.2.1 k x hkx g
    rw [bef_iff] at this; dsimp only at this; omega
  · subst g
    unfold hit at h
    rw [hkx] at h
    have := of_decide_eq_false h
    exact this (ordC_zero.2 hs)
  · obtain ⟨y, hy⟩ : ∃ y, l[i]? = some y := ⟨_, List.getElem?_eq_getElem (by omega)⟩
    have h1 := asc_at ha hy hkx g
    have h2 := hb.2.2.2 i y hy (Nat.le_refl _)
    have h3 : ¬ bef y (a, b, 0) = true := by rw [h2]; simp
    rw [bef_iff] at h1 h3
    dsimp only at h3
    omega
theorem set_nxt {l : List E} {c e : E} {k : Nat} (h : AscE l) (he : l[k]? = some e) (hs : e.1 = c.1 ∧ e.2.1 = c.2.1) (hc : ¬ c.2.2 < 0) : l.set k c = nxt l c := by
  refine nxt_eq h (h.set he hs.1 hs.2) fun x => ?_
  obtain ⟨hk, hke⟩ := List.getElem?_eq_some_iff.1 he
  constructor
  · intro hx
    obtain ⟨j, hj0, e1⟩ := List.getElem_of_mem hx
    have hj : j < l.length := by simpa using hj0
    rw [List.getElem_set] at e1
    split at e1
    · exact .inr ⟨hc, e1.symm⟩
    · rename_i hjk
      have hxl : l[j]? = some x := by rw [List.getElem?_eq_getElem hj, e1]
      exact .inl ⟨List.mem_of_getElem? hxl, fun h1 => hjk (asc_same h he hxl (by omega) (by omega))⟩
  · rintro (⟨hx, hn⟩ | ⟨_, rfl⟩)
    · obtain ⟨j, hj, e1⟩ := List.getElem_of_mem hx
      have hjk : k ≠ j := by
        rintro rfl
        rw [e1] at hke; subst hke; exact hn hs
      exact List.mem_of_getElem? (i := j) (by rw [List.getElem?_set, if_neg hjk, List.getElem?_eq_getElem hj, e1])
    · exact List.mem_of_getElem? (i := k) (by rw [List.getElem?_set, if_pos rfl, if_pos hk])
open Go.Proofs.Ytiodpgannelgpaa in
theorem ins_nxt {l : List E} {c : E} {i : Nat} (h : AscE l) (hb : BsE (c.1, c.2.1, 0) l i i) (hno : ∀ x ∈ l, ¬ (x.1 = c.1 ∧ x.2.1 = c.2.1)) (hc : ¬ c.2.2 < 0) : insE l i c = nxt l c := by
  refine nxt_eq h ?_ fun x => ?_
  · unfold insE
    have hlow : ∀ x ∈ l.take i, bef x c = true := fun x hx => by
      obtain ⟨j, hj, e⟩ := List.getElem_of_mem hx
      rw [List.length_take] at hj
      rw [List.getElem_take] at e
      have := hb.2.2.1 j x (by rw [List.getElem?_eq_getElem (by omega), e]) (by omega)
      rw [bef_iff] at this ⊢; exact this
    have hhigh : ∀ x ∈ l.drop i, bef c x = true := fun x hx => by
      obtain ⟨j, hj, e⟩ := List.getElem_of_mem hx
      rw [List.length_drop] at hj
      rw [List.getElem_drop] at e
      have hx' : l[i + j]? = some x := by rw [List.getElem?_eq_getElem (by omega), e]
      have h1 := hb.2.2.2 (i + j) x hx' (by omega)
      have h2 : bef x c = false := by
        have h3 : ¬ bef x (c.1, c.2.1, 0) = true := by rw [h1]; simp
        cases h4 : bef x c
        · rfl
        · rw [bef_iff] at h3 h4; exact absurd h4 h3
      exact bef_conn h2 (hno x (List.mem_of_getElem? hx'))
    rw [AscE, List.pairwise_append]
    refine ⟨h.sublist (List.take_sublist _ _), List.pairwise_cons.2 ⟨hhigh, h.sublist (List.drop_sublist _ _)⟩, fun x hx y hy => ?_⟩
    rcases List.mem_cons.1 hy with rfl | hy
    · exact hlow x hx
    · exact bef_trans (hlow x hx) (hhigh y hy)
  · unfold insE
    have hmem : x ∈ l ↔ x ∈ l.take i ∨ x ∈ l.drop i := by rw [← List.mem_append, List.take_append_drop]
    rw [List.mem_append, List.mem_cons]
    constructor
    · rintro (h1 | rfl | h1)
      · have := hmem.2 (.inl h1); exact .inl ⟨this, hno x this⟩
      · exact .inr ⟨hc, rfl⟩
      · have := hmem.2 (.inr h1); exact .inl ⟨this, hno x this⟩
    · rintro (⟨h1, _⟩ | ⟨_, rfl⟩)
      · rcases hmem.1 h1 with h2 | h2
        · exact .inl h2
        · exact .inr (.inr h2)
      · exact .inr (.inl rfl)
/-- the changes, in order -/
def apF (R N : Int) : List E → List E → Int × List E
  | l, [] => (0, l)
  | l, c :: r => if ape R N l c = 0 then apF R N (nxt l c) r else (ape R N l c, [])
theorem apF_go {R N : Int} {l cs : List E} {k : Nat} {c : E} (hc : cs[k]? = some c) : apF R N l (cs.drop k) = if ape R N l c = 0 then apF R N (nxt l c) (cs.drop (k + 1)) else (ape R N l c, []) := by
  obtain ⟨hk, he⟩ := List.getElem?_eq_some_iff.1 hc
  rw [List.drop_eq_getElem_cons hk, he, apF]
theorem apF_end {R N : Int} {l cs : List E} : apF R N l (cs.drop cs.length) = (0, l) := by rw [List.drop_length]; rfl
theorem apF_valid {R N : Int} : ∀ {cs l : List E}, Valid R N l → (apF R N l cs).1 = 0 → Valid R N (apF R N l cs).2
  | [], l, h, _ => h
  | c :: r, l, h, hq => by
    unfold apF at hq ⊢
    split at hq
    · rename_i h0
      rw [if_pos h0]
      exact apF_valid (nxt_valid h h0) hq
    · rename_i h0; exact absurd hq h0
theorem valid_fit {R N : Int} {l : List E} (h : Valid R N l) : ∀ x ∈ l, (-9223372036854775808 ≤ x.1 ∧ x.1 ≤ 9223372036854775807) ∧ (-9223372036854775808 ≤ x.2.1 ∧ x.2.1 ≤ 9223372036854775807) ∧ (-9223372036854775808 ≤ x.2.2 ∧ x.2.2 ≤ 9223372036854775807) := by
  intro x hx
  have h1 := alw_cases.1 (h.al x hx)
  have h2 := h.r
  have h3 := h.n
  have h4 := h.s
  have h5 := h1.2.2.2.2
  unfold costOK at h5
  split at h5
  · have := of_decide_eq_true h5; omega
  · have := of_decide_eq_true h5; omega
end GM
end Go.Proofs.Ytiodpgannelgpaa
