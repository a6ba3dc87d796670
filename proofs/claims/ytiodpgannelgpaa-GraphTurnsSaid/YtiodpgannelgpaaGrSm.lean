/-
  Stable sorting of edges by their nodes: what is kept, what is wanted, what merging in place does.
-/
import Derived.Test.YtiodpgannelgpaaGrAm
namespace Go.Proofs.Ytiodpgannelgpaa
namespace GM
set_option linter.unusedVariables false
set_option linter.unusedSimpArgs false

/-- in order; equal nodes may follow each other -/
abbrev SrtE (l : List E) : Prop := l.Pairwise (fun a b => bef b a = false)
/-- of each pair of nodes the same edges in the same order -/
def Stb (l m : List E) : Prop := ∀ c : E, m.filter (sm c) = l.filter (sm c)
theorem Stb.refl (l : List E) : Stb l l := fun _ => rfl
theorem Stb.trans {l m n : List E} (h : Stb l m) (k : Stb m n) : Stb l n := fun c => (k c).trans (h c)
theorem Stb.app {a a' b b' : List E} (h : Stb a a') (k : Stb b b') : Stb (a ++ b) (a' ++ b') := fun c => by rw [List.filter_append, List.filter_append, h c, k c]
theorem Stb.mem {l m : List E} (h : Stb l m) {x : E} : x ∈ m ↔ x ∈ l := by
  have hs : sm x x = true := sm_iff.2 ⟨rfl, rfl⟩
  have h1 := h x
  constructor
  · intro hx
    have : x ∈ m.filter (sm x) := List.mem_filter.2 ⟨hx, hs⟩
    rw [h1] at this
    exact (List.mem_filter.1 this).1
  · intro hx
    have : x ∈ l.filter (sm x) := List.mem_filter.2 ⟨hx, hs⟩
    rw [← h1] at this
    exact (List.mem_filter.1 this).1
theorem Stb.swap {u v : List E} (h : ∀ x ∈ u, ∀ y ∈ v, ¬ (x.1 = y.1 ∧ x.2.1 = y.2.1)) : Stb (u ++ v) (v ++ u) := fun c => by
  rw [List.filter_append, List.filter_append]
  by_cases hu : ∃ x ∈ u, sm c x = true
  · obtain ⟨x, hx, hsx⟩ := hu
    have : v.filter (sm c) = [] := by
      rw [List.filter_eq_nil_iff]
      intro y hy hsy
      have h1 := sm_iff.1 hsx
      have h2 := sm_iff.1 hsy
      exact h x hx y hy ⟨by omega, by omega⟩
    rw [this]; simp
  · have : u.filter (sm c) = [] := by
      rw [List.filter_eq_nil_iff]
      intro x hx hsx
      exact hu ⟨x, hx, hsx⟩
    rw [this]; simp
theorem bef_not_same {x y : E} (h : bef x y = true) : ¬ (y.1 = x.1 ∧ y.2.1 = x.2.1) := by rw [bef_iff] at h; omega
theorem srt_unique : ∀ {l m : List E}, SrtE l → SrtE m → Stb l m → l = m
  | [], [], _, _, _ => rfl
  | [], y :: m, _, _, h => by have := (h.mem (x := y)).1 (by simp); simp at this
  | x :: l, [], _, _, h => by have := (h.mem (x := x)).2 (by simp); simp at this
  | x :: l, y :: m, hl, hm, h => by
    obtain ⟨l1, l2⟩ := List.pairwise_cons.1 hl
    obtain ⟨m1, m2⟩ := List.pairwise_cons.1 hm
    have hxy : bef y x = false := by
      have := (h.mem (x := y)).1 (by simp)
      rcases List.mem_cons.1 this with e | h1
      · rw [e]; exact bef_irrefl x
      · exact l1 y h1
    have hyx : bef x y = false := by
      have := (h.mem (x := x)).2 (by simp)
      rcases List.mem_cons.1 this with e | h1
      · rw [e]; exact bef_irrefl y
      · exact m1 x h1
    have hs : y.1 = x.1 ∧ y.2.1 = x.2.1 := by
      by_cases e : y.1 = x.1 ∧ y.2.1 = x.2.1
      · exact e
      · rw [bef_conn hxy e] at hyx; cases hyx
    have hx := h x
    rw [List.filter_cons, List.filter_cons, if_pos (sm_iff.2 hs), if_pos (sm_iff.2 ⟨rfl, rfl⟩)] at hx
    have e : y = x := (List.cons.inj hx).1
    subst e
    rw [srt_unique l2 m2 fun c => by
      have hc := h c
      rw [List.filter_cons, List.filter_cons] at hc
      split at hc
      · exact (List.cons.inj hc).2
      · exact hc]
/-- a merge of u and v that keeps equals in order -/
structure MergeP (u v z : List E) : Prop where
  srt : SrtE z
  stb : Stb (u ++ v) z
  len : z.length = u.length + v.length
theorem MergeP.nil_right {u : List E} (h : SrtE u) : MergeP u [] u := ⟨h, by rw [List.append_nil]; exact Stb.refl _, by simp⟩
theorem MergeP.nil_left {v : List E} (h : SrtE v) : MergeP [] v v := ⟨h, Stb.refl _, by simp⟩
theorem MergeP.join {u1 u2 v1 v2 z1 z2 : List E} (hu : SrtE (u1 ++ u2)) (hv : SrtE (v1 ++ v2)) (h1 : ∀ x ∈ u1, ∀ y ∈ v2, bef y x = false) (h2 : ∀ y ∈ v1, ∀ x ∈ u2, bef y x = true) (hz1 : MergeP u1 v1 z1) (hz2 : MergeP u2 v2 z2) :
    MergeP (u1 ++ u2) (v1 ++ v2) (z1 ++ z2) where
  srt := by
    obtain ⟨_, _, hu3⟩ := List.pairwise_append.1 hu
    obtain ⟨_, _, hv3⟩ := List.pairwise_append.1 hv
    refine List.pairwise_append.2 ⟨hz1.srt, hz2.srt, fun x hx y hy => ?_⟩
    have hx' := hz1.stb.mem.1 hx
    have hy' := hz2.stb.mem.1 hy
    rw [List.mem_append] at hx' hy'
    rcases hx' with hx' | hx' <;> rcases hy' with hy' | hy'
    · exact hu3 x hx' y hy'
    · exact h1 x hx' y hy'
    · have := h2 x hx' y hy'
      cases h : bef y x
      · rfl
      · have h5 := bef_trans this h; rw [bef_irrefl] at h5; cases h5
    · exact hv3 x hx' y hy'
  stb := by
    have s1 : Stb ((u1 ++ v1) ++ (u2 ++ v2)) (z1 ++ z2) := hz1.stb.app hz2.stb
    have s2 : Stb ((u1 ++ u2) ++ (v1 ++ v2)) ((u1 ++ v1) ++ (u2 ++ v2)) := by
      have : Stb (u2 ++ v1) (v1 ++ u2) := Stb.swap fun x hx y hy => bef_not_same (h2 y hy x hx)
      have := (Stb.refl u1).app (this.app (Stb.refl v2))
      simpa [List.append_assoc] using this
    exact s2.trans s1
  len := by have := hz1.len; have := hz2.len; simp only [List.length_append]; omega
theorem MergeP.one_left {x : E} {v1 v2 : List E} (hv : SrtE (v1 ++ v2)) (h1 : ∀ y ∈ v1, bef y x = true) (h2 : ∀ y ∈ v2, bef y x = false) : MergeP [x] (v1 ++ v2) (v1 ++ x :: v2) := by
  obtain ⟨s1, s2, s3⟩ := List.pairwise_append.1 hv
  refine ⟨?_, ?_, by simp; omega⟩
  · refine List.pairwise_append.2 ⟨s1, List.pairwise_cons.2 ⟨h2, s2⟩, fun a ha b hb => ?_⟩
    rcases List.mem_cons.1 hb with rfl | hb
    · have := h1 a ha
      cases h : bef b a
      · rfl
      · have h5 := bef_trans this h; rw [bef_irrefl] at h5; cases h5
    · exact s3 a ha b hb
  · have : Stb ([x] ++ v1) (v1 ++ [x]) := Stb.swap fun a ha y hy => by
      rw [List.mem_singleton] at ha; subst ha
      exact bef_not_same (h1 y hy)
    have := this.app (Stb.refl v2)
    simpa [List.append_assoc] using this
theorem MergeP.one_right {x : E} {u1 u2 : List E} (hu : SrtE (u1 ++ u2)) (h1 : ∀ y ∈ u1, bef x y = false) (h2 : ∀ y ∈ u2, bef x y = true) : MergeP (u1 ++ u2) [x] (u1 ++ x :: u2) := by
  obtain ⟨s1, s2, s3⟩ := List.pairwise_append.1 hu
  refine ⟨?_, ?_, by simp; omega⟩
  · refine List.pairwise_append.2 ⟨s1, List.pairwise_cons.2 ⟨fun b hb => ?_, s2⟩, fun a ha b hb => ?_⟩
    · have := h2 b hb
      cases h : bef b x
      · rfl
      · have h5 := bef_trans this h; rw [bef_irrefl] at h5; cases h5
    · rcases List.mem_cons.1 hb with rfl | hb
      · exact h1 a ha
      · exact s3 a ha b hb
  · have : Stb (u2 ++ [x]) ([x] ++ u2) := Stb.swap fun a ha y hy => by
      rw [List.mem_singleton] at hy; subst hy
      exact bef_not_same (h2 a ha)
    have := (Stb.refl u1).app this
    simpa [List.append_assoc] using this
theorem le_of {a b c : E} (h : bef b a = false) (k : bef c b = false) : bef c a = false := by
  have h1 : ¬ bef b a = true := by rw [h]; simp
  have h2 : ¬ bef c b = true := by rw [k]; simp
  cases h3 : bef c a
  · rfl
  · rw [bef_iff] at h1 h2 h3; omega
theorem lt_le {a b c : E} (h : bef a b = true) (k : bef c b = false) : bef a c = true := by
  have h2 : ¬ bef c b = true := by rw [k]; simp
  rw [bef_iff] at *; omega
theorem le_lt {a b c : E} (h : bef b a = false) (k : bef b c = true) : bef a c = true := by
  have h2 : ¬ bef b a = true := by rw [h]; simp
  rw [bef_iff] at *; omega
/-- all up to the last one -/
theorem low_all {u : List E} {x : E} (hu : SrtE u) (h : ∀ y, u.getLast? = some y → bef x y = false) : ∀ y ∈ u, bef x y = false := by
  intro y hy
  obtain ⟨i, hi, e⟩ := List.getElem_of_mem hy
  have hl : u.getLast? = some (u[u.length - 1]'(by omega)) := by rw [List.getLast?_eq_getElem?, List.getElem?_eq_getElem (by omega)]
  have h1 := h _ hl
  rcases (by omega : i = u.length - 1 ∨ i < u.length - 1) with g | g
  · subst g; rw [e] at h1; exact h1
  · have h2 := List.pairwise_iff_getElem.1 hu i (u.length - 1) hi (by omega) g
    rw [e] at h2
    exact le_of h2 h1
theorem low_all' {u : List E} {x : E} (hu : SrtE u) (h : ∀ y, u.getLast? = some y → bef y x = true) : ∀ y ∈ u, bef y x = true := by
  intro y hy
  obtain ⟨i, hi, e⟩ := List.getElem_of_mem hy
  have hl : u.getLast? = some (u[u.length - 1]'(by omega)) := by rw [List.getLast?_eq_getElem?, List.getElem?_eq_getElem (by omega)]
  have h1 := h _ hl
  rcases (by omega : i = u.length - 1 ∨ i < u.length - 1) with g | g
  · subst g; rw [e] at h1; exact h1
  · have h2 := List.pairwise_iff_getElem.1 hu i (u.length - 1) hi (by omega) g
    rw [e] at h2
    exact le_lt h2 h1
theorem high_all {v : List E} {x : E} (hv : SrtE v) (h : ∀ y, v.head? = some y → bef y x = false) : ∀ y ∈ v, bef y x = false := by
  cases v with
  | nil => intro y hy; cases hy
  | cons z v =>
    have h1 := h z rfl
    intro y hy
    rcases List.mem_cons.1 hy with rfl | hy
    · exact h1
    · exact le_of h1 ((List.pairwise_cons.1 hv).1 y hy)
theorem high_all' {v : List E} {x : E} (hv : SrtE v) (h : ∀ y, v.head? = some y → bef x y = true) : ∀ y ∈ v, bef x y = true := by
  cases v with
  | nil => intro y hy; cases hy
  | cons z v =>
    have h1 := h z rfl
    intro y hy
    rcases List.mem_cons.1 hy with rfl | hy
    · exact h1
    · exact lt_le h1 ((List.pairwise_cons.1 hv).1 y hy)
/-- putting behind all that do not stand behind it is stable -/
theorem putE_srt {x : E} : ∀ {l : List E}, SrtE l → SrtE (putE x l) ∧ Stb (l ++ [x]) (putE x l)
  | [], _ => ⟨List.pairwise_singleton _ _, Stb.refl _⟩
  | y :: r, h => by
    obtain ⟨h1, h2⟩ := List.pairwise_cons.1 h
    unfold putE
    split
    · rename_i hb
      have hall : ∀ z ∈ y :: r, bef x z = true := fun z hz => by
        rcases List.mem_cons.1 hz with rfl | hz
        · exact hb
        · exact lt_le hb (h1 z hz)
      have := MergeP.one_right (u1 := []) (u2 := y :: r) h (fun z hz => by cases hz) hall
      exact ⟨by simpa using this.srt, by simpa using this.stb⟩
    · rename_i hb
      have hb' : bef x y = false := by simpa using hb
      have ih := putE_srt (x := x) h2
      refine ⟨List.pairwise_cons.2 ⟨fun z hz => ?_, ih.1⟩, ?_⟩
      · rcases mem_putE.1 hz with rfl | hz
        · exact hb'
        · exact h1 z hz
      · have := (Stb.refl [y]).app ih.2
        simpa using this
end GM
end Go.Proofs.Ytiodpgannelgpaa
