/-
  What the reference's Parse needs in mathematics: where a text of a rule begins, where its first word ends, what is tried.
-/
import Derived.Test.YtiiojkekcnmddaaDoorPlP
import Derived.Test.YtiiojkekcnmddaaDoorPlO
namespace Go.Proofs.YtiiojkekcnmddaaDoor
open Go.RowKit
set_option linter.unusedSimpArgs false
set_option linter.unusedVariables false
set_option maxHeartbeats 2000000
set_option maxRecDepth 100000

def prC (l : List UInt8) : Int := match pr l with
  | some (a, n) => bif vld a n then 0 else 1
  | none => 2
theorem prV_code (l : List UInt8) : prV (pr l) = .tuple #[.agg #[.int .u32 ((pV l).1 : Int), .int .i64 (pV l).2], .int .i64 (prC l)] := by
  unfold pV prC
  cases h : pr l with
  | none => rfl
  | some x =>
    obtain ⟨a, n⟩ := x
    cases hv : vld a n with
    | false => simp [prV, hv]
    | true => simp [prV, hv]
theorem prC_zero {l : List UInt8} (h : prC l = 0) : vld (pV l).1 (pV l).2 = true := by
  unfold prC at h
  unfold pV
  cases hp : pr l with
  | none => rw [hp] at h; simp at h
  | some x =>
    obtain ⟨a, n⟩ := x
    rw [hp] at h
    cases hv : vld a n with
    | false => simp [hv] at h
    | true => simp [hv]
theorem prC_text {a : Nat} {n : Int} (ha : a < 4294967296) (hv : vld a n = true) : prC (textT a n) = 0 := by
  have hn := vld_in hv
  have e : ((n.toNat : Nat) : Int) = n := by omega
  unfold prC
  rw [pr_text a ha n hn.1 hn.2.1]
  simp only [e, hv]
  rfl
/-- the parts of a text that is a rule's -/
theorem par_parts {l : List UInt8} {r : Ru} (h : parR l = some r) : l = wordR r.1 ++ 32 :: (textT r.2.1.1 r.2.1.2 ++ rngT r.2.1.2 r.2.2.1 r.2.2.2) ∧ vld r.2.1.1 r.2.1.2 = true ∧ r.2.1.1 < 4294967296 ∧ r.2.1.2 ≤ r.2.2.1 ∧ r.2.2.1 ≤ r.2.2.2 ∧ r.2.2.2 ≤ 32 := by
  obtain ⟨h0, h1, h2⟩ := par_some h
  obtain ⟨hv, z0, z1, z2, z3⟩ := chk_zero h0
  exact ⟨h1.symm, hv, h2.1, z1, z2, z3⟩
theorem rng_word (a : Nat) (n mn mx : Int) : T.wordC 32 (textT a n ++ rngT n mn mx) = textT a n := by
  unfold rngT
  split
  · rw [List.append_nil]; exact (T.word_none (text32 a n)).1
  · exact (T.word_of (text32 a n)).1
theorem text_pos (a : Nat) (n : Int) : 0 < (textT a n).length := by unfold textT; simp; omega
def permS : List UInt8 := [112, 101, 114, 109, 105, 116, 32]
def denyS : List UInt8 := [100, 101, 110, 121, 32]
theorem par_head {l : List UInt8} {r : Ru} (h : parR l = some r) : (r.1 = true ∧ l.take 7 = permS ∧ 7 < l.length) ∨ (r.1 = false ∧ l.take 5 = denyS ∧ 5 < l.length ∧ l.take 7 ≠ permS) := by
  obtain ⟨e, _⟩ := par_parts h
  have hp := text_pos r.2.1.1 r.2.1.2
  cases hb : r.1 with
  | true =>
    rw [hb] at e
    left
    refine ⟨rfl, by rw [e]; rfl, ?_⟩
    rw [e]; simp [wordR]; omega
  | false =>
    rw [hb] at e
    right
    refine ⟨rfl, by rw [e]; rfl, ?_, ?_⟩
    · rw [e]; simp [wordR]; omega
    · rw [e]
      intro h
      have := congrArg List.head? h
      simp [wordR, permS] at this
theorem par_none {l : List UInt8} (h : ∀ r, parR l ≠ some r) : parR l = none := by
  cases hp : parR l with
  | none => rfl
  | some r => exact absurd hp (h r)
/-- a text that begins as a rule's: what it permits, and the rest -/
theorem par_rest {l : List UInt8} {r : Ru} {pm : Bool} {rest : List UInt8} (h : parR l = some r) (hl : l = wordR pm ++ 32 :: rest) : r.1 = pm ∧ T.wordC 32 rest = textT r.2.1.1 r.2.1.2 := by
  obtain ⟨e, _⟩ := par_parts h
  have hw1 := (T.word_of (r := rest) (word32 pm))
  have hw2 := (T.word_of (r := textT r.2.1.1 r.2.1.2 ++ rngT r.2.1.2 r.2.2.1 r.2.2.2) (word32 r.1))
  rw [← hl] at hw1
  rw [← e] at hw2
  have e1 : wordR r.1 = wordR pm := hw2.1.symm.trans hw1.1
  have e2 : textT r.2.1.1 r.2.1.2 ++ rngT r.2.1.2 r.2.2.1 r.2.2.2 = rest := hw2.2.symm.trans hw1.2
  refine ⟨?_, by rw [← e2]; exact rng_word _ _ _ _⟩
  revert e1
  cases r.1 <;> cases pm <;> decide
theorem head_true {l : List UInt8} (h : l.take 7 = permS) : l = wordR true ++ 32 :: l.drop 7 := by
  have := List.take_append_drop 7 l
  rw [h] at this
  exact this.symm
theorem head_false {l : List UInt8} (h : l.take 5 = denyS) : l = wordR false ++ 32 :: l.drop 5 := by
  have := List.take_append_drop 5 l
  rw [h] at this
  exact this.symm
theorem no_head {l : List UInt8} (h7 : ¬ (7 < l.length ∧ l.take 7 = permS)) (h5 : ¬ (5 < l.length ∧ l.take 5 = denyS)) : parR l = none := par_none fun r h => by
  rcases par_head h with ⟨_, e1, e2⟩ | ⟨_, e1, e2, _⟩
  · exact h7 ⟨e2, e1⟩
  · exact h5 ⟨e2, e1⟩
theorem no_prefix {l rest : List UInt8} {pm : Bool} (hl : l = wordR pm ++ 32 :: rest) (h : prC (T.wordC 32 rest) ≠ 0) : parR l = none := par_none fun r hr => by
  obtain ⟨_, hv, ha, _⟩ := par_parts hr
  have := (par_rest hr hl).2
  rw [this] at h
  exact h (prC_text ha hv)
theorem no_range {l rest : List UInt8} {pm : Bool} {p : Nat × Int} (hl : l = wordR pm ++ 32 :: rest) (hp : pV (T.wordC 32 rest) = p) (h : ∀ mn mx : Int, p.2 ≤ mn → mn ≤ mx → mx ≤ 32 → rtxtL (pm, p, mn, mx) ≠ l) : parR l = none := par_none fun r hr => by
  obtain ⟨_, hv, ha, z1, z2, z3⟩ := par_parts hr
  obtain ⟨e1, e2⟩ := par_rest hr hl
  rw [e2, pV_text _ _ ha hv] at hp
  obtain ⟨q, ⟨a, n⟩, mn, mx⟩ := r
  subst hp
  subst e1
  exact h mn mx z1 z2 z3 (par_some hr).2.1
theorem yes_range {l : List UInt8} {pm : Bool} {p : Nat × Int} {mn mx : Int} (ha : p.1 < 4294967296) (hv : vld p.1 p.2 = true) (h1 : p.2 ≤ mn) (h2 : mn ≤ mx) (h3 : mx ≤ 32) (h : rtxtL (pm, p, mn, mx) = l) : parR l = some (pm, p, mn, mx) := by
  have hz : chkR (pm, p, mn, mx) = 0 := chk_mk hv h1 h2 h3
  have hn := vld_in hv
  rw [← h]
  have i1 : I64 p.2 := by constructor <;> omega
  have i2 : I64 mn := by constructor <;> omega
  have i3 : I64 mx := by constructor <;> omega
  exact par_text _ ⟨ha, i1, i2, i3⟩ hz
theorem word_no32 (l : List UInt8) : (32 : UInt8) ∉ T.wordC 32 l := by
  rcases T.split_word 32 l with ⟨h1, _, h3⟩ | ⟨_, h2⟩
  · rw [← h1]; exact h3
  · exact h2
theorem word_lt (R : ByteArray) (k : Nat) (h : k < (T.wordC 32 R.data.toList).length) : ∃ hk : k < R.size, ((R[k].toNat : Int) == 32) = false := by
  have hl := (word_len 32 R.data.toList).1
  rw [list_len] at hl
  have hk : k < R.size := by omega
  refine ⟨hk, ?_⟩
  have hm : (T.wordC 32 R.data.toList)[k]? = some R[k] := by
    rcases T.split_word 32 R.data.toList with ⟨h1, _, _⟩ | ⟨h1, _⟩
    · rw [← h1, List.getElem?_eq_getElem (by rw [list_len]; exact hk), list_get]
    · have : R.data.toList[k]? = some R[k] := by rw [List.getElem?_eq_getElem (by rw [list_len]; exact hk), list_get]
      rw [h1, List.getElem?_append_left h] at this
      exact this
  have hne : R[k] ≠ 32 := fun e => by
    have hmem := List.mem_of_getElem? hm
    rw [e] at hmem
    exact word_no32 _ hmem
  refine beq_false_of_ne fun e => hne (UInt8.toNat_inj.1 ?_)
  have : (R[k].toNat : Int) = ((32 : Nat) : Int) := e
  exact Int.ofNat.inj this
theorem word_end (R : ByteArray) : (T.wordC 32 R.data.toList).length = R.size ∨ ∃ hk : (T.wordC 32 R.data.toList).length < R.size, ((R[(T.wordC 32 R.data.toList).length].toNat : Int) == 32) = true := by
  rcases T.split_word 32 R.data.toList with ⟨h1, _, _⟩ | ⟨h1, _⟩
  · left; rw [← h1, list_len]
  · right
    have hl := congrArg List.length h1
    rw [list_len, List.length_append, List.length_cons] at hl
    have hk : (T.wordC 32 R.data.toList).length < R.size := by omega
    refine ⟨hk, ?_⟩
    have h2 : R.data.toList[(T.wordC 32 R.data.toList).length]? = some 32 := by
      have h5 : (T.wordC 32 R.data.toList ++ 32 :: T.restC 32 R.data.toList)[(T.wordC 32 R.data.toList).length]? = some 32 := by
        rw [List.getElem?_append_right (Nat.le_refl _), Nat.sub_self]; rfl
      rw [← h1] at h5
      exact h5
    have h4 : R.data.toList[(T.wordC 32 R.data.toList).length]? = some (R[(T.wordC 32 R.data.toList).length]'hk) := by
      rw [List.getElem?_eq_getElem (by rw [list_len]; exact hk), list_get R _ hk]
    have e : R[(T.wordC 32 R.data.toList).length]'hk = 32 := Option.some.inj (h4.symm.trans h2)
    rw [e]; rfl
theorem eq_perm (l : List UInt8) : ((bs (l.take 7)).toList == [112, 101, 114, 109, 105, 116, 32]) = decide (l.take 7 = permS) := by
  have e : (bs (l.take 7)).toList = l.take 7 := by rw [ByteArray.toList_eq, bs_list]
  rw [e]
  by_cases h : l.take 7 = permS
  · rw [h]; rfl
  · rw [decide_eq_false h]
    exact beq_false_of_ne h
theorem eq_deny (l : List UInt8) : ((bs (l.take 5)).toList == [100, 101, 110, 121, 32]) = decide (l.take 5 = denyS) := by
  have e : (bs (l.take 5)).toList = l.take 5 := by rw [ByteArray.toList_eq, bs_list]
  rw [e]
  by_cases h : l.take 5 = denyS
  · rw [h]; rfl
  · rw [decide_eq_false h]
    exact beq_false_of_ne h
theorem Five.set0 {w : World} {g : Nat} {c0 c1 c2 c3 c4 : Value} (h : Five w g c0 c1 c2 c3 c4) (u : Value) : Five (w.setCell ⟨g, 0, none⟩ u) g u c1 c2 c3 c4 := heap_set_eq h
theorem Five.set1 {w : World} {g : Nat} {c0 c1 c2 c3 c4 : Value} (h : Five w g c0 c1 c2 c3 c4) (u : Value) : Five (w.setCell ⟨g, 1, none⟩ u) g c0 u c2 c3 c4 := heap_set_eq h
theorem Five.set2 {w : World} {g : Nat} {c0 c1 c2 c3 c4 : Value} (h : Five w g c0 c1 c2 c3 c4) (u : Value) : Five (w.setCell ⟨g, 2, none⟩ u) g c0 c1 u c3 c4 := heap_set_eq h
theorem Five.set3 {w : World} {g : Nat} {c0 c1 c2 c3 c4 : Value} (h : Five w g c0 c1 c2 c3 c4) (u : Value) : Five (w.setCell ⟨g, 3, none⟩ u) g c0 c1 c2 u c4 := heap_set_eq h
theorem Five.set4 {w : World} {g : Nat} {c0 c1 c2 c3 c4 : Value} (h : Five w g c0 c1 c2 c3 c4) (u : Value) : Five (w.setCell ⟨g, 4, none⟩ u) g c0 c1 c2 c3 u := heap_set_eq h
theorem Five.other {w : World} {g g' o : Nat} {c0 c1 c2 c3 c4 u : Value} (h : Five w g c0 c1 c2 c3 c4) (hn : g ≠ g') : Five (w.setCell ⟨g', o, none⟩ u) g c0 c1 c2 c3 c4 := (heap_set_ne hn).trans h
end Go.Proofs.YtiiojkekcnmddaaDoor
