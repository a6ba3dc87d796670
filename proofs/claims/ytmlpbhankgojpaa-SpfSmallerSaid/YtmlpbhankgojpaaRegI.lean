/-
  A region whose order is drawn, by one invariant over what has been done.
-/
import Derived.Deep.RegionHeld
namespace Go.Proofs.Ytmlpbhankgojpaa
set_option linter.unusedSimpArgs false
set_option linter.unusedVariables false
section
variable {P : Program} {ops : Array Oper} {Q : Exit → Act → World → Prop}
def updB (f : Nat → Bool) (i : Nat) : Nat → Bool := fun j => if j = i then true else f j
theorem updB_same (f : Nat → Bool) (i : Nat) : updB f i i = true := by unfold updB; rw [if_pos rfl]
theorem updB_ne (f : Nat → Bool) {i j : Nat} (h : j ≠ i) : updB f i j = f j := by unfold updB; rw [if_neg h]
def bitsOf (l : Array Bool) : Nat → Bool := fun i => l.getD i false
def leftN (l : Array Bool) : Nat := l.toList.countP (fun b => !b)
theorem bitsOf_set {l : Array Bool} {i : Nat} (hi : i < l.size) : bitsOf (l.setIfInBounds i true) = updB (bitsOf l) i := by
  funext j
  unfold bitsOf updB
  simp only [Array.getD_eq_getD_getElem?]
  rw [Array.getElem?_setIfInBounds]
  by_cases h : i = j
  · subst h; rw [if_pos rfl, if_pos rfl, if_pos hi]; rfl
  · rw [if_neg h, if_neg (fun e => h e.symm)]
theorem countP_set_true : ∀ (l : List Bool) (i : Nat), l[i]? = some false → (l.set i true).countP (fun b => !b) + 1 = l.countP (fun b => !b)
  | [], i, h => by simp at h
  | b :: l, 0, h => by simp at h; subst h; simp
  | b :: l, i + 1, h => by
    have := countP_set_true l i (by simpa using h)
    rw [List.set_cons_succ, List.countP_cons, List.countP_cons]; omega
theorem leftN_set {l : Array Bool} {i : Nat} (h : l[i]? = some false) : leftN (l.setIfInBounds i true) + 1 = leftN l := by
  unfold leftN
  rw [Array.toList_setIfInBounds]
  exact countP_set_true _ _ (by simpa using h)
theorem ord_of (h : (List.range ops.size).all (fun i => ((ops[i]?).map (fun o => o.after.all (fun e => decide (e.on < i)))).getD true) = true) : ∀ (i : Nat) (o : Oper), ops[i]? = some o → ∀ e ∈ o.after, e.on < i := fun i o ho e he => by
  have hi := (Array.getElem?_eq_some_iff.1 ho).1
  have := List.all_eq_true.1 h i (List.mem_range.2 hi)
  rw [ho] at this
  simp only [Option.map_some, Option.getD_some, Array.all_eq_true_iff_forall_mem, decide_eq_true_eq] at this
  exact this e he
theorem inv_any (hord : ∀ (i : Nat) (o : Oper), ops[i]? = some o → ∀ e ∈ o.after, e.on < i) (I : (Nat → Bool) → Act → World → Prop)
    (step : ∀ (f : Nat → Bool) (a : Act) (w : World) (i : Nat) (o : Oper), ops[i]? = some o → I f a w → f i = false → (∀ e ∈ o.after, Region.binds .any e = true → f e.on = true) → wpOp P ops Q i (I (updB f i)) a w)
    (fin : ∀ f a w, I f a w → (∀ i, i < ops.size → f i = true) → Q .normal a w) :
    ∀ (fuel : Nat) (l : Array Bool) (a : Act) (w : World), l.size = ops.size → I (bitsOf l) a w → leftN l ≤ fuel → wpAny P .any ops Q fuel l a w := by
  have hend : ∀ l a w, l.size = ops.size → I (bitsOf l) a w → Region.ready .any ops l = [] → Q .normal a w := fun l a w hl hI hr => by
    refine fin _ a w hI fun i hi => ?_
    have key : ∀ n, ∀ i, i ≤ n → i < ops.size → bitsOf l i = true := by
      intro n
      induction n with
      | zero =>
        intro i hin hi
        cases hb : bitsOf l i with
        | true => rfl
        | false =>
          obtain ⟨o, ho⟩ : ∃ o, ops[i]? = some o := ⟨_, Array.getElem?_eq_getElem hi⟩
          have : i ∈ Region.ready .any ops l := mem_ready.2 ⟨by unfold bitsOf at hb; rw [Array.getD_eq_getD_getElem?] at hb ⊢; rw [Array.getElem?_eq_getElem (by omega)] at hb ⊢; exact hb, o, ho, fun e he _ => by have := hord i o ho e he; omega⟩
          rw [hr] at this; cases this
      | succ n ih =>
        intro i hin hi
        cases hb : bitsOf l i with
        | true => rfl
        | false =>
          obtain ⟨o, ho⟩ : ∃ o, ops[i]? = some o := ⟨_, Array.getElem?_eq_getElem hi⟩
          have : i ∈ Region.ready .any ops l := mem_ready.2 ⟨by unfold bitsOf at hb; rw [Array.getD_eq_getD_getElem?] at hb ⊢; rw [Array.getElem?_eq_getElem (by omega)] at hb ⊢; exact hb, o, ho, fun e he _ => by have := hord i o ho e he; exact ih e.on (by omega) (by omega)⟩
          rw [hr] at this; cases this
    exact key i i (Nat.le_refl _) hi
  intro fuel
  induction fuel with
  | zero =>
    intro l a w hl hI h0
    have hr : Region.ready .any ops l = [] := by
      rw [List.eq_nil_iff_forall_not_mem]
      intro i hi
      obtain ⟨h1, o, ho, _⟩ := mem_ready.1 hi
      have hio := (Array.getElem?_eq_some_iff.1 ho).1
      have hm : false ∈ l.toList := by
        rw [Array.getD_eq_getD_getElem?, Array.getElem?_eq_getElem (by omega)] at h1
        simp at h1
        rw [← h1]; simp
      have : 0 < l.toList.countP (fun b => !b) := List.countP_pos_iff.2 ⟨false, hm, rfl⟩
      unfold leftN at h0; omega
    exact ⟨hr, hend l a w hl hI hr⟩
  | succ fuel ih =>
    intro l a w hl hI h0
    refine ⟨fun hr => hend l a w hl hI hr, fun i hi => ?_⟩
    obtain ⟨h1, o, ho, h2⟩ := mem_ready.1 hi
    have hio := (Array.getElem?_eq_some_iff.1 ho).1
    have hf : l[i]? = some false := by
      rw [Array.getD_eq_getD_getElem?, Array.getElem?_eq_getElem (by omega)] at h1
      rw [Array.getElem?_eq_getElem (by omega)]; simp at h1; rw [h1]
    have hb : bitsOf l i = false := by unfold bitsOf; rw [Array.getD_eq_getD_getElem?, hf]; rfl
    refine wpOp_mono (fun a' w' hI' => ?_) (step (bitsOf l) a w i o ho hI hb h2)
    have hs := bitsOf_set (l := l) (i := i) (by omega)
    have hn := leftN_set hf
    exact ih _ a' w' (by simpa using hl) (by rw [hs]; exact hI') (by omega)
theorem wp_region_inv {id : Nat} {a : Act} {w : World} (hm : P.follows .mixedOrders = true) (hord : ∀ (i : Nat) (o : Oper), ops[i]? = some o → ∀ e ∈ o.after, e.on < i) (I : (Nat → Bool) → Act → World → Prop)
    (step : ∀ (f : Nat → Bool) (a : Act) (w : World) (i : Nat) (o : Oper), ops[i]? = some o → I f a w → f i = false → (∀ e ∈ o.after, Region.binds .any e = true → f e.on = true) → wpOp P ops Q i (I (updB f i)) a w)
    (fin : ∀ f a w, I f a w → (∀ i, i < ops.size → f i = true) → Q .normal a w)
    (hI : I (fun _ => false) a w.drew) : (Code.region id ops true).wp P Q a w := by
  refine wp_region_any hm (inv_any hord I step fin ops.size _ a _ (by simp) ?_ ?_)
  · have : bitsOf (Array.replicate ops.size false) = fun _ => false := by
      funext j; unfold bitsOf; rw [Array.getD_eq_getD_getElem?, Array.getElem?_replicate]; split <;> rfl
    rw [this]; exact hI
  · unfold leftN; rw [Array.toList_replicate]; simp [List.countP_replicate]
end
end Go.Proofs.Ytmlpbhankgojpaa
