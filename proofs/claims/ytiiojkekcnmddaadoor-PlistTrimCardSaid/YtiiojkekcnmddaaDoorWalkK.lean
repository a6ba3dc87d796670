/-
  The walks of ParseAddr's reference, of Parse and of its reference.
-/
import Derived.Test.YtiiojkekcnmddaaDoorWalkJ
namespace Go.Proofs.YtiiojkekcnmddaaDoor
open Go.RowKit
set_option linter.unusedSimpArgs false
set_option linter.unusedVariables false
set_option maxHeartbeats 2000000
set_option maxRecDepth 100000

/- the reader by words and the greedy reader agree -/
theorem codeN_ne (k : Nat) (l : List UInt8) (h : T.codeN 4 l = none ∨ Lib.countByte l 46 ≠ 3) (ns : List Nat) : T.refN 4 true l ≠ some (ns, []) := fun hr => by
  have := (T.code_ref 3 l ns).2 hr
  rcases h with h | h
  · rw [h] at this; cases this.1
  · exact h this.2
theorem pa_some {l : List UInt8} {ns : List Nat} (h : T.refN 4 true l = some (ns, [])) : pa l = some (valA ns) := by
  obtain ⟨h1, h2⟩ := (T.code_ref 3 l ns).2 h
  unfold pa; rw [if_pos h2, h1]; rfl
theorem pa_ref {l : List UInt8} {a : Nat} (h : pa l = some a) : ∃ ns, T.refN 4 true l = some (ns, []) ∧ a = valA ns := by
  unfold pa at h
  split at h
  · rename_i hc
    obtain ⟨ns, h1, h2⟩ := Option.map_eq_some_iff.1 h
    exact ⟨ns, (T.code_ref 3 l ns).1 ⟨h1, hc⟩, h2.symm⟩
  · cases h
theorem pa_none {l : List UInt8} (h : ∀ ns, T.refN 4 true l ≠ some (ns, [])) : pa l = none := by
  cases hp : pa l with
  | none => rfl
  | some a => obtain ⟨ns, h1, _⟩ := pa_ref hp; exact absurd h1 (h ns)
theorem refN_suffix : ∀ (k : Nat) (f : Bool) (l r : List UInt8) (ns : List Nat), T.refN k f l = some (ns, r) → ∃ q, l = q ++ r := by
  intro k
  induction k with
  | zero => intro f l r ns h; simp [T.refN] at h; exact ⟨[], by rw [h.2]; rfl⟩
  | succ k ih =>
    intro f l r ns h
    have go : ∀ l' : List UInt8, (match T.pnum (T.runD l') 255 with | none => none | some n => (T.refN k false (l'.drop (T.runD l').length)).map (fun x => (n :: x.1, x.2))) = some (ns, r) → ∃ q, l' = q ++ r := by
      intro l' h'
      cases hp : T.pnum (T.runD l') 255 with
      | none => rw [hp] at h'; cases h'
      | some n =>
        rw [hp] at h'
        obtain ⟨⟨ms, rr⟩, h1, h2⟩ := Option.map_eq_some_iff.1 h'
        simp at h2
        obtain ⟨q, hq⟩ := ih false _ _ _ h1
        refine ⟨T.runD l' ++ q, ?_⟩
        rw [List.append_assoc, ← h2.2, ← hq]; exact T.runD_split l'
    rw [T.refN] at h
    cases f with
    | true => simp only [if_true] at h; exact go l h
    | false =>
      cases l with
      | nil => simp [T.afterDot] at h
      | cons c t =>
        by_cases hc : c = 46
        · simp only [T.afterDot, hc, if_true, Bool.false_eq_true, if_false] at h
          obtain ⟨q, hq⟩ := go t h
          exact ⟨46 :: q, by rw [hc, hq]; rfl⟩
        · simp [T.afterDot, hc] at h
theorem runD_before (p t : List UInt8) (c : UInt8) (hc : T.isD c = false) : T.runD (p ++ c :: t) = T.runD p := by
  unfold T.runD
  induction p with
  | nil => rw [List.nil_append, List.takeWhile_cons_of_neg (by rw [hc]; simp)]; rfl
  | cons x p ih =>
    by_cases hx : T.isD x = true
    · rw [List.cons_append, List.takeWhile_cons_of_pos hx, List.takeWhile_cons_of_pos hx, ih]
    · rw [List.cons_append, List.takeWhile_cons_of_neg hx, List.takeWhile_cons_of_neg hx]
theorem runD_len (p : List UInt8) : (T.runD p).length ≤ p.length := by
  have := congrArg List.length (T.runD_split p)
  rw [List.length_append] at this; omega
theorem refN_app (c : UInt8) (hc : T.isD c = false) (h46 : c ≠ 46) (t : List UInt8) : ∀ (k : Nat) (f : Bool) (p : List UInt8), T.refN k f (p ++ c :: t) = (T.refN k f p).map (fun x => (x.1, x.2 ++ c :: t)) := by
  intro k
  induction k with
  | zero => intro f p; rfl
  | succ k ih =>
    intro f p
    have go : ∀ p' : List UInt8, (match T.pnum (T.runD (p' ++ c :: t)) 255 with | none => none | some n => (T.refN k false ((p' ++ c :: t).drop (T.runD (p' ++ c :: t)).length)).map (fun x : List Nat × List UInt8 => (n :: x.1, x.2))) =
        (match T.pnum (T.runD p') 255 with | none => none | some n => (T.refN k false (p'.drop (T.runD p').length)).map (fun x : List Nat × List UInt8 => (n :: x.1, x.2))).map (fun x : List Nat × List UInt8 => (x.1, x.2 ++ c :: t)) := by
      intro p'
      rw [runD_before p' t c hc]
      cases hp : T.pnum (T.runD p') 255 with
      | none => rfl
      | some n =>
        simp only
        rw [List.drop_append_of_le_length (runD_len p'), ih, Option.map_map, Option.map_map]; rfl
    rw [T.refN, T.refN]
    cases f with
    | true => simp only [if_true]; exact go p
    | false =>
      cases p with
      | nil => simp [T.afterDot, h46]
      | cons x p =>
        by_cases hx : x = 46
        · simp only [List.cons_append, T.afterDot, hx, if_true, Bool.false_eq_true, if_false]; exact go p
        · simp [T.afterDot, hx]

end Go.Proofs.YtiiojkekcnmddaaDoor
