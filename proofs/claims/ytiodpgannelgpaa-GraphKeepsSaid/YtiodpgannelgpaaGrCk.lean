/-
  Stable sorting as mathematics: runs of one length, how they grow; the library's insertion sort is stable.
-/
import Derived.Test.YtiodpgannelgpaaGrSr
namespace Go.Proofs.Ytiodpgannelgpaa
open Go.RowKit GM Go.Sort Go.Lib
set_option linter.unusedSimpArgs false
set_option linter.unusedVariables false
set_option maxHeartbeats 4000000
set_option maxRecDepth 100000

/-- a list cut into ordered runs of k, the last one of at most k -/
inductive Chunks (k : Nat) : List E → Prop
  | last (l : List E) : SrtE l → l.length ≤ k → Chunks k l
  | cons (u l : List E) : SrtE u → u.length = k → Chunks k l → Chunks k (u ++ l)
theorem Chunks.two {k : Nat} {l : List E} (hk : 0 < k) (h : Chunks k l) (h2 : 2 * k ≤ l.length) : ∃ u v r, l = u ++ (v ++ r) ∧ u.length = k ∧ v.length = k ∧ SrtE u ∧ SrtE v ∧ Chunks k r := by
  cases h with
  | last _ h1 h3 => omega
  | cons u l' h1 h3 h4 =>
    rw [List.length_append] at h2
    cases h4 with
    | last _ h5 h6 => exact ⟨u, l', [], by simp, h3, by omega, h1, h5, .last [] List.Pairwise.nil (by simp)⟩
    | cons v r h5 h6 h7 => exact ⟨u, v, r, rfl, h3, h6, h1, h5, h7⟩
theorem Chunks.more {k : Nat} {l : List E} (hk : 0 < k) (h : Chunks k l) (h2 : l.length < 2 * k) (h3 : k < l.length) : ∃ u v, l = u ++ v ∧ u.length = k ∧ 0 < v.length ∧ SrtE u ∧ SrtE v := by
  cases h with
  | last _ h1 h3 => omega
  | cons u l' h1 h4 h5 =>
    rw [List.length_append] at h2 h3
    cases h5 with
    | last _ h5 h6 => exact ⟨u, l', rfl, h4, by omega, h1, h5⟩
    | cons v r h5 h6 h7 => rw [List.length_append] at h2; omega
theorem Chunks.one {k : Nat} {l : List E} (h : Chunks k l) (h2 : l.length ≤ k) : SrtE l := by
  cases h with
  | last _ h1 h3 => exact h1
  | cons u l' h1 h4 h5 =>
    rw [List.length_append] at h2
    have : l' = [] := List.length_eq_zero_iff.1 (by omega)
    subst this
    rw [List.append_nil]; exact h1
/-- what stands ahead of runs of k -/
def PreC (k : Nat) (A : List E) : Prop := ∀ T, Chunks k T → Chunks k (A ++ T)
theorem PreC.nil (k : Nat) : PreC k [] := fun _ h => h
theorem PreC.snoc {k : Nat} {A z : List E} (h : PreC k A) (h1 : SrtE z) (h2 : z.length = k) : PreC k (A ++ z) := fun T hT => by
  rw [List.append_assoc]; exact h _ (.cons z T h1 h2 hT)
theorem GM.MergeP.stb3 {A u v z C : List E} (h : MergeP u v z) : Stb (A ++ (u ++ (v ++ C))) (A ++ (z ++ C)) := by
  have := (Stb.refl A).app (h.stb.app (Stb.refl C))
  simpa [List.append_assoc] using this

/-- one exchange of neighbors out of order is stable -/
theorem swp_stb {d : Array E} {j : Nat} (hj : j + 1 < d.size) (h : bef d[j + 1]! d[j]! = true) : Stb d.toList (swp d (j + 1) j).toList := by
  have e1 : d[j]! = d.toList[j]'(by simp; omega) := by rw [getElem!_pos d j (by omega)]; simp
  have e2 : d[j + 1]! = d.toList[j + 1]'(by simpa using hj) := by rw [getElem!_pos d (j + 1) hj]; simp
  have hl : d.toList = d.toList.take j ++ d[j]! :: ([] ++ d[j + 1]! :: d.toList.drop (j + 2)) := by
    conv => lhs; rw [← List.take_append_drop j d.toList]
    rw [List.drop_eq_getElem_cons (by simp; omega), List.drop_eq_getElem_cons (by simpa using hj), ← e1, ← e2]
    rfl
  have hlen : (d.toList.take j).length = j := by rw [List.length_take]; simp; omega
  have hs := swp_list' (j := j + 1) hl hlen.symm (by rw [hlen]; simp)
  rw [hs]
  conv => lhs; rw [hl]
  refine (Stb.refl _).app ?_
  have : Stb ([d[j]!] ++ [d[j + 1]!]) ([d[j + 1]!] ++ [d[j]!]) := Stb.swap fun x hx y hy => by
    rw [List.mem_singleton] at hx hy
    subst hx hy
    have := bef_not_same h
    omega
  simpa using this.app (Stb.refl (d.toList.drop (j + 2)))
theorem insInner_stb (a : Nat) : ∀ (j : Nat) (d : Array E), j < d.size → Stb d.toList (insInner bef a j d).toList ∧ (insInner bef a j d).size = d.size
  | 0, d, _ => by unfold insInner; exact ⟨Stb.refl _, rfl⟩
  | j + 1, d, hj => by
    unfold insInner
    split
    · rename_i hc
      simp only [Bool.and_eq_true, decide_eq_true_eq] at hc
      have := insInner_stb a j (swp d (j + 1) j) (by rw [size_swp]; omega)
      exact ⟨(swp_stb hj hc.2).trans this.1, by rw [this.2, size_swp]⟩
    · exact ⟨Stb.refl _, rfl⟩
theorem insOuter_stb (a b : Nat) : ∀ (n i : Nat) (d : Array E), b - i = n → b ≤ d.size → Stb d.toList (insOuter bef a b i d).toList ∧ (insOuter bef a b i d).size = d.size
  | 0, i, d, h, hb => by rw [insOuter, if_neg (by omega)]; exact ⟨Stb.refl _, rfl⟩
  | n + 1, i, d, h, hb => by
    rw [insOuter, if_pos (by omega)]
    have h1 := insInner_stb a i d (by omega)
    have h2 := insOuter_stb a b n (i + 1) (insInner bef a i d) (by omega) (by omega)
    exact ⟨h1.1.trans h2.1, h2.2.trans h1.2⟩
theorem ltOf_ordC : ltOf ordC = bef := by
  funext a b
  unfold ltOf
  cases h : bef a b
  · rw [decide_eq_false]; rw [ordC_neg, h]; simp
  · rw [decide_eq_true]; rw [ordC_neg, h]
theorem bef_swo : SWO (bef : E → E → Bool) where
  irrefl x := bef_irrefl x
  trans x y z h1 h2 := bef_trans h1 h2
  ntrans x y z h1 h2 := le_of h2 h1
/-- the library's insertion sort of a part -/
theorem insertion_list {A u C : List E} {d : Array E} {a b : Nat} (hd : d.toList = A ++ (u ++ C)) (ha : a = A.length) (hb : b = a + u.length) :
    ∃ z : List E, (insertionSort bef d a b).toList = A ++ (z ++ C) ∧ SrtE z ∧ Stb u z ∧ z.length = u.length ∧ (insertionSort bef d a b).size = d.size := by
  have hl := arr_len hd
  simp only [List.length_append] at hl
  have h1 := insertionSort_holds (lt := bef) bef_swo d a b (by omega) (by omega)
  have h2 := insOuter_stb a b (b - (a + 1)) (a + 1) d rfl (by omega)
  generalize he : insertionSort bef d a b = d' at *
  have he' : insOuter bef a b (a + 1) d = d' := he
  rw [he'] at h2
  obtain ⟨⟨p1, p2, p3⟩, q⟩ := h1
  have hl' : d'.toList.length = d.toList.length := by simp [p1]
  have hget : ∀ i, i < d.size → (i < a ∨ b ≤ i) → d'.toList[i]? = d.toList[i]? := fun i hi hc => by
    have := p2 i hc
    rw [getElem!_pos d' i (by omega), getElem!_pos d i hi] at this
    rw [List.getElem?_eq_getElem (by simp; omega), List.getElem?_eq_getElem (by simpa using hi)]
    simpa using this
  have hA : d'.toList.take a = A := by
    apply List.ext_getElem?
    intro i
    rw [List.getElem?_take]
    split
    · rename_i hi
      rw [hget i (by omega) (.inl hi), hd, List.getElem?_append_left (by omega)]
    · rw [List.getElem?_eq_none (by omega)]
  have hC : d'.toList.drop b = C := by
    apply List.ext_getElem?
    intro i
    rw [List.getElem?_drop]
    by_cases hi : b + i < d.size
    · rw [hget (b + i) hi (.inr (by omega)), hd, List.getElem?_append_right (by omega), List.getElem?_append_right (by omega)]
      congr 1; omega
    · rw [List.getElem?_eq_none (by simp; omega), List.getElem?_eq_none (by omega)]
  have hall : d'.toList = A ++ ((d'.toList.drop a).take (b - a) ++ C) := by
    conv => lhs; rw [← List.take_append_drop a d'.toList, hA, ← List.take_append_drop (b - a) (d'.toList.drop a), List.drop_drop, show a + (b - a) = b by omega, hC]
  have hzl : ((d'.toList.drop a).take (b - a)).length = u.length := by simp; omega
  refine ⟨_, hall, ?_, ?_, hzl, p1⟩
  · refine List.pairwise_iff_getElem.2 fun i j hi hj hij => ?_
    have := q (a + i) (a + j) (by omega) (by omega) (by omega)
    rw [getElem!_pos d' (a + i) (by omega), getElem!_pos d' (a + j) (by omega)] at this
    simpa using this
  · intro c
    have := h2.1 c
    rw [hall, hd] at this
    simp only [List.filter_append] at this
    exact List.append_cancel_right (List.append_cancel_left this)
end Go.Proofs.Ytiodpgannelgpaa
