/-
  Putting an edge in its place; the cheapest edges of a growing list.
-/
import Derived.Test.YtiodpgannelgpaaGrV
namespace Go.Proofs.Ytiodpgannelgpaa
namespace GM
set_option linter.unusedVariables false
set_option linter.unusedSimpArgs false

/-- x in front of the first that it stands before -/
def putE (x : E) : List E → List E
  | [] => [x]
  | y :: r => if bef x y = true then x :: y :: r else y :: putE x r
theorem mem_putE {x y : E} : ∀ {l : List E}, y ∈ putE x l ↔ y = x ∨ y ∈ l
  | [] => by simp [putE]
  | z :: r => by
    unfold putE
    split
    · simp
    · simp only [List.mem_cons, mem_putE (l := r)]
      constructor
      · rintro (h | h | h)
        · exact .inr (.inl h)
        · exact .inl h
        · exact .inr (.inr h)
      · rintro (h | h | h)
        · exact .inr (.inl h)
        · exact .inl h
        · exact .inr (.inr h)
theorem putE_len {x : E} : ∀ {l : List E}, (putE x l).length = l.length + 1
  | [] => rfl
  | z :: r => by unfold putE; split <;> simp [putE_len (l := r)]
theorem bef_conn {a b : E} (h : bef a b = false) (k : ¬ (a.1 = b.1 ∧ a.2.1 = b.2.1)) : bef b a = true := by
  have h' : ¬ bef a b = true := by rw [h]; simp
  rw [bef_iff] at *; omega
theorem putE_asc {x : E} : ∀ {l : List E}, AscE l → (∀ y ∈ l, ¬ (y.1 = x.1 ∧ y.2.1 = x.2.1)) → AscE (putE x l)
  | [], _, _ => List.pairwise_singleton _ _
  | z :: r, h, k => by
    obtain ⟨h1, h2⟩ := List.pairwise_cons.1 h
    unfold putE
    split
    · rename_i hb
      refine List.pairwise_cons.2 ⟨fun y hy => ?_, h⟩
      rcases List.mem_cons.1 hy with rfl | hy
      · exact hb
      · exact bef_trans hb (h1 y hy)
    · rename_i hb
      refine List.pairwise_cons.2 ⟨fun y hy => ?_, putE_asc h2 (fun y hy => k y (List.mem_cons_of_mem _ hy))⟩
      rcases mem_putE.1 hy with rfl | hy
      · exact bef_conn (by simpa using hb) (fun e => k z (by simp) ⟨e.1.symm, e.2.symm⟩)
      · exact h1 y hy
/-- in the midst of putting: i places are looked at -/
def PutI (x : E) (l : List E) (i : Nat) (d : Bool) (out : List E) : Prop := if d = true then putE x l = out ++ l.drop i else out = l.take i ∧ putE x l = l.take i ++ putE x (l.drop i)
theorem PutI.start {x : E} {l : List E} : PutI x l 0 false [] := by unfold PutI; simp
theorem PutI.on {x y : E} {l : List E} {i : Nat} {out : List E} (h : PutI x l i true out) (hy : l[i]? = some y) : PutI x l (i + 1) true (out ++ [y]) := by
  unfold PutI at *
  simp only [if_true] at *
  obtain ⟨hk, he⟩ := List.getElem?_eq_some_iff.1 hy
  rw [h, List.append_assoc, List.drop_eq_getElem_cons hk, he]; rfl
theorem PutI.skip {x y : E} {l : List E} {i : Nat} {out : List E} (h : PutI x l i false out) (hy : l[i]? = some y) (hb : bef x y = false) : PutI x l (i + 1) false (out ++ [y]) := by
  unfold PutI at *
  simp only [Bool.false_eq_true, if_false] at *
  obtain ⟨hk, he⟩ := List.getElem?_eq_some_iff.1 hy
  have e1 : l.take (i + 1) = l.take i ++ [y] := by rw [List.take_add_one, hy]; rfl
  rw [e1]
  refine ⟨by rw [h.1], ?_⟩
  rw [h.2, List.drop_eq_getElem_cons hk, he, putE, if_neg (by rw [hb]; simp), List.append_assoc]; rfl
theorem PutI.here {x y : E} {l : List E} {i : Nat} {out : List E} (h : PutI x l i false out) (hy : l[i]? = some y) (hb : bef x y = true) : PutI x l (i + 1) true (out ++ [x] ++ [y]) := by
  unfold PutI at *
  simp only [Bool.false_eq_true, if_false, if_true] at *
  obtain ⟨hk, he⟩ := List.getElem?_eq_some_iff.1 hy
  rw [h.2, List.drop_eq_getElem_cons hk, he, putE, if_pos hb, h.1]; simp
theorem PutI.end_yes {x : E} {l : List E} {out : List E} (h : PutI x l l.length true out) : out = putE x l := by
  unfold PutI at h; simp at h; exact h.symm
theorem PutI.end_no {x : E} {l : List E} {out : List E} (h : PutI x l l.length false out) : out ++ [x] = putE x l := by
  unfold PutI at h; simp [putE] at h; rw [h.2, h.1]
theorem Least.nil : Least [] [] := ⟨List.Pairwise.nil, fun x => by simp⟩
theorem Least.one {l o : List E} (h : Least l o) {x : E} (hx : x ∈ o) {y : E} (hy : y ∈ o) (h1 : x.1 = y.1) (h2 : x.2.1 = y.2.1) : x = y := by
  have a := (h.2 x).1 hx
  have b := (h.2 y).1 hy
  have c := a.2 y b.1 h1.symm h2.symm
  have d := b.2 x a.1 h1 h2
  exact Prod.ext h1 (Prod.ext h2 (by omega))
/-- of each pair of nodes there is a cheapest edge -/
theorem Least.has {l o : List E} (h : Least l o) : ∀ {x : E}, x ∈ l → ∃ y ∈ o, y.1 = x.1 ∧ y.2.1 = x.2.1 ∧ y.2.2 ≤ x.2.2 := by
  have key : ∀ (m : List E), (∀ z ∈ m, z ∈ l) → ∀ x ∈ m, ∃ y ∈ m, y.1 = x.1 ∧ y.2.1 = x.2.1 ∧ y.2.2 ≤ x.2.2 ∧ ∀ z ∈ m, z.1 = x.1 → z.2.1 = x.2.1 → y.2.2 ≤ z.2.2 := by
    intro m
    induction m with
    | nil => intro _ x hx; cases hx
    | cons a m ih =>
      intro hm x hx
      by_cases hin : ∃ u ∈ m, u.1 = x.1 ∧ u.2.1 = x.2.1
      · obtain ⟨u, hu, u1, u2⟩ := hin
        obtain ⟨y, hy, y1, y2, _, y4⟩ := ih (fun z hz => hm z (List.mem_cons_of_mem _ hz)) u hu
        by_cases ha : a.1 = x.1 ∧ a.2.1 = x.2.1 ∧ a.2.2 < y.2.2
        · refine ⟨a, by simp, ha.1, ha.2.1, ?_, ?_⟩
          · rcases List.mem_cons.1 hx with rfl | hx
            · omega
            · have := y4 x hx (by omega) (by omega); omega
          · intro z hz z1 z2
            rcases List.mem_cons.1 hz with rfl | hz
            · omega
            · have := y4 z hz (by omega) (by omega); omega
        · refine ⟨y, List.mem_cons_of_mem _ hy, by omega, by omega, ?_, ?_⟩
          · rcases List.mem_cons.1 hx with rfl | hx
            · omega
            · exact y4 x hx (by omega) (by omega)
          · intro z hz z1 z2
            rcases List.mem_cons.1 hz with rfl | hz
            · omega
            · exact y4 z hz (by omega) (by omega)
      · rcases List.mem_cons.1 hx with rfl | hx
        · refine ⟨x, by simp, rfl, rfl, by omega, ?_⟩
          intro z hz z1 z2
          rcases List.mem_cons.1 hz with rfl | hz
          · omega
          · exact absurd ⟨z, hz, z1, z2⟩ hin
        · exact absurd ⟨x, hx, rfl, rfl⟩ hin
  intro x hx
  obtain ⟨y, hy, y1, y2, y3, y4⟩ := key l (fun z hz => hz) x hx
  exact ⟨y, (h.2 y).2 ⟨hy, fun z hz z1 z2 => y4 z hz (by omega) (by omega)⟩, y1, y2, y3⟩
theorem Least.new {l o : List E} {x : E} (h : Least l o) (hn : ∀ y ∈ o, ¬ (y.1 = x.1 ∧ y.2.1 = x.2.1)) : Least (l ++ [x]) (putE x o) := by
  refine ⟨putE_asc h.1 hn, fun z => ?_⟩
  rw [mem_putE]
  simp only [List.mem_append, List.mem_singleton]
  constructor
  · rintro (rfl | hz)
    · refine ⟨.inr rfl, fun y hy y1 y2 => ?_⟩
      rcases hy with hy | rfl
      · obtain ⟨u, hu, u1, u2, u3⟩ := h.has hy
        exact absurd ⟨by omega, by omega⟩ (hn u hu)
      · exact Int.le_refl _
    · have := (h.2 z).1 hz
      refine ⟨.inl this.1, fun y hy y1 y2 => ?_⟩
      rcases hy with hy | rfl
      · exact this.2 y hy y1 y2
      · exact absurd ⟨y1.symm, y2.symm⟩ (hn z hz)
  · rintro ⟨hz | rfl, hm⟩
    · exact .inr ((h.2 z).2 ⟨hz, fun y hy => hm y (.inl hy)⟩)
    · exact .inl rfl
theorem Least.stay {l o : List E} {x e : E} (h : Least l o) (he : e ∈ o) (h1 : e.1 = x.1) (h2 : e.2.1 = x.2.1) (hc : e.2.2 ≤ x.2.2) : Least (l ++ [x]) o := by
  have hel := (h.2 e).1 he
  refine ⟨h.1, fun z => ?_⟩
  simp only [List.mem_append, List.mem_singleton]
  constructor
  · intro hz
    have := (h.2 z).1 hz
    refine ⟨.inl this.1, fun y hy y1 y2 => ?_⟩
    rcases hy with hy | rfl
    · exact this.2 y hy y1 y2
    · have := h.one hz he (by omega) (by omega)
      subst this; exact hc
  · rintro ⟨hz | rfl, hm⟩
    · exact (h.2 z).2 ⟨hz, fun y hy => hm y (.inl hy)⟩
    · have h3 := hm e (.inl hel.1) h1 h2
      have : z = e := Prod.ext h1.symm (Prod.ext h2.symm (by omega))
      rw [this]; exact he
theorem AscE.set {l : List E} {k : Nat} {e x : E} (h : AscE l) (he : l[k]? = some e) (h1 : e.1 = x.1) (h2 : e.2.1 = x.2.1) : AscE (l.set k x) := by
  rw [AscE, List.pairwise_iff_getElem]
  intro i j hi hj hij
  rw [List.length_set] at hi hj
  obtain ⟨hk, hek⟩ := List.getElem?_eq_some_iff.1 he
  have hp := List.pairwise_iff_getElem.1 h i j hi hj hij
  rw [List.getElem_set, List.getElem_set]
  split
  · split
    · omega
    · rename_i e1 _; subst e1; rw [hek, bef_iff] at hp; rw [bef_iff]; omega
  · split
    · rename_i _ e1; subst e1; rw [hek, bef_iff] at hp; rw [bef_iff]; omega
    · exact hp
theorem Least.cheaper {l o : List E} {k : Nat} {x e : E} (h : Least l o) (he : o[k]? = some e) (h1 : e.1 = x.1) (h2 : e.2.1 = x.2.1) (hc : x.2.2 < e.2.2) : Least (l ++ [x]) (o.set k x) := by
  have hem := List.mem_of_getElem? he
  have hel := (h.2 e).1 hem
  obtain ⟨hk, hek⟩ := List.getElem?_eq_some_iff.1 he
  refine ⟨h.1.set he h1 h2, fun z => ?_⟩
  simp only [List.mem_append, List.mem_singleton]
  constructor
  · intro hz
    obtain ⟨i, hi0, hzi⟩ := List.getElem_of_mem hz
    have hi : i < o.length := by simpa using hi0
    rw [List.getElem_set] at hzi
    split at hzi
    · subst hzi
      refine ⟨.inr rfl, fun y hy y1 y2 => ?_⟩
      rcases hy with hy | rfl
      · have := hel.2 y hy (by omega) (by omega); omega
      · exact Int.le_refl _
    · rename_i hik
      have hzo : z ∈ o := hzi ▸ List.getElem_mem hi
      have hzz := (h.2 z).1 hzo
      refine ⟨.inl hzz.1, fun y hy y1 y2 => ?_⟩
      rcases hy with hy | rfl
      · exact hzz.2 y hy y1 y2
      · exfalso
        have e1 := h.one hzo hem (by omega) (by omega)
        rcases Nat.lt_trichotomy i k with g | g | g
        · have := List.pairwise_iff_getElem.1 h.1 i k hi hk g
          rw [hzi, hek, e1, bef_irrefl] at this; cases this
        · exact hik g.symm
        · have := List.pairwise_iff_getElem.1 h.1 k i hk hi g
          rw [hzi, hek, e1, bef_irrefl] at this; cases this
  · rintro ⟨hz | rfl, hm⟩
    · have hzo : z ∈ o := (h.2 z).2 ⟨hz, fun y hy => hm y (.inl hy)⟩
      by_cases hzx : z.1 = x.1 ∧ z.2.1 = x.2.1
      · have h3 := hm x (.inr rfl) hzx.1.symm hzx.2.symm
        have := h.one hzo hem (by omega) (by omega)
        subst this; omega
      · obtain ⟨i, hi, hzi⟩ := List.getElem_of_mem hzo
        have hik : k ≠ i := by
          rintro rfl
          rw [hek] at hzi; subst hzi
          exact hzx ⟨h1, h2⟩
        have : (o.set k x)[i]'(by rw [List.length_set]; exact hi) = z := by rw [List.getElem_set, if_neg hik, hzi]
        rw [← this]; exact List.getElem_mem _
    · have : (o.set k z)[k]'(by rw [List.length_set]; exact hk) = z := by rw [List.getElem_set, if_pos rfl]
      have h5 := List.getElem_mem (l := o.set k z) (by rw [List.length_set]; exact hk)
      rw [this] at h5; exact h5
end GM
end Go.Proofs.Ytiodpgannelgpaa
