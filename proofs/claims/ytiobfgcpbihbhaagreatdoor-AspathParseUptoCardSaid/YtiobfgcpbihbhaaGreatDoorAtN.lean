/-
  Merging of paths: mathematics.
-/
import Derived.Test.YtiobfgcpbihbhaaGreatDoorAtM
import Derived.Test.YtiobfgcpbihbhaaGreatDoorAsL
import Derived.Test.YtiobfgcpbihbhaaGreatDoorAsN
namespace Go.Proofs.YtiobfgcpbihbhaaGreatDoor
namespace P
/-- the numbers of a list, ascending, each once -/
def IsS (l s : List Int) : Prop := s.Pairwise (· < ·) ∧ ∀ x, x ∈ s ↔ x ∈ l
theorem IsS.unique {l s t : List Int} (hs : IsS l s) (ht : IsS l t) : s = t := by
  obtain ⟨h1, h2⟩ := hs
  obtain ⟨h3, h4⟩ := ht
  have key : ∀ (s t : List Int), s.Pairwise (· < ·) → t.Pairwise (· < ·) → (∀ x, x ∈ s ↔ x ∈ t) → s = t := by
    intro s
    induction s with
    | nil =>
      intro t _ _ h
      cases t with
      | nil => rfl
      | cons y t => have := (h y).2 (by simp); simp at this
    | cons x s ih =>
      intro t hs ht h
      cases t with
      | nil => have := (h x).1 (by simp); simp at this
      | cons y t =>
        rw [List.pairwise_cons] at hs ht
        have hxy : x = y := by
          rcases List.mem_cons.1 ((h x).1 (by simp)) with e | e
          · exact e
          · rcases List.mem_cons.1 ((h y).2 (by simp)) with e2 | e2
            · exact e2.symm
            · have a := ht.1 x e; have b := hs.1 y e2; omega
        subst hxy
        rw [ih t hs.2 ht.2 (fun z => ?_)]
        constructor
        · intro hz
          rcases List.mem_cons.1 ((h z).1 (by simp [hz])) with e | e
          · have := hs.1 z hz; omega
          · exact e
        · intro hz
          rcases List.mem_cons.1 ((h z).2 (by simp [hz])) with e | e
          · have := ht.1 z hz; omega
          · exact e
  exact key s t h1 h3 (fun x => (h2 x).trans (h4 x).symm)
theorem IsS.nil {s : List Int} (h : IsS [] s) : s = [] := List.eq_nil_iff_forall_not_mem.2 fun x hx => by have := (h.2 x).1 hx; simp at this
theorem IsS.nil_iff {l s : List Int} (h : IsS l s) : s = [] ↔ l = [] := by
  constructor
  · intro e
    refine List.eq_nil_iff_forall_not_mem.2 fun x hx => ?_
    have := (h.2 x).2 hx
    rw [e] at this; simp at this
  · rintro rfl; exact h.nil
/-- the sequences with which a path begins -/
def lead (p : List Sg) : List Int := flat (p.takeWhile fun s => decide (2 = s.k))
def both (a b : List Sg) : List Int := cpre (lead (strip a)) (lead (strip b))
def restM (a b : List Sg) : List Int := (flat (strip a)).drop (both a b).length ++ (flat (strip b)).drop (both a b).length
def outM (a b : List Sg) (s : List Int) : List Sg := seqs 2 (both a b) ++ if s = [] then [] else [⟨1, s⟩]
/-- what Merge answers -/
def MrgR (a b : List Sg) (r : List Sg) (e : Int) : Prop :=
  if chk a ≠ 0 then r = [] ∧ e = chk a else if chk b ≠ 0 then r = [] ∧ e = chk b else
  ∃ s, IsS (restM a b) s ∧ if 255 < s.length ∨ 64 < (outM a b s).length then r = [] ∧ e = 4 else r = outM a b s ∧ e = 0
theorem cpre_le : ∀ (a b : List Int), (cpre a b).length ≤ a.length ∧ (cpre a b).length ≤ b.length
  | [], b => by cases b <;> simp [cpre]
  | x :: a, [] => by simp [cpre]
  | x :: a, y :: b => by
    have := cpre_le a b
    by_cases h : x = y
    · simp [cpre, h]; omega
    · simp [cpre, h]
theorem lead_le (p : List Sg) : (lead p).length ≤ (flat p).length := by
  unfold lead
  conv => rhs; rw [← List.takeWhile_append_dropWhile (p := fun s : Sg => decide (2 = s.k)) (l := p), flat_app, List.length_append]
  omega
theorem strip_le (p : List Sg) : (strip p).length ≤ p.length := List.length_filter_le _ _
theorem strip_flat_le (p : List Sg) : (flat (strip p)).length ≤ (flat p).length := by
  unfold strip
  induction p with
  | nil => simp [flat]
  | cons s p ih =>
    rw [List.filter_cons]
    split
    · rw [flat_cons, flat_cons, List.length_append, List.length_append]; omega
    · rw [flat_cons, List.length_append]; omega
theorem seqs_len (k : Int) : ∀ (n : Nat) (l : List Int), l.length = n → (seqs k l).length ≤ n := by
  intro n
  induction n using Nat.strongRecOn with
  | _ n ih =>
    intro l hl
    by_cases h : l = []
    · subst h; rw [seqs_nil]; simp
    · have hp := List.length_pos_iff.2 h
      rw [seqs_cons k h, List.length_cons]
      have := ih (l.drop 255).length (by rw [List.length_drop]; omega) (l.drop 255) rfl
      rw [List.length_drop] at this
      omega
end P
end Go.Proofs.YtiobfgcpbihbhaaGreatDoor
