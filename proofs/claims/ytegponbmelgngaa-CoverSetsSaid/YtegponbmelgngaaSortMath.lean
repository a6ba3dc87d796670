/-
  Plain facts on lists of prefixes: the order, the reference's insertion, a list sorted and each once, the library's compaction.
-/
import Derived.Lib.SlicesCompact
import Derived.ProofKit
import Derived.Test.YtegponbmelgngaaPMath
namespace Go.Proofs.Ytegponbmelgngaa
open Go.Sort Go.Lib

/-- strictly ascending -/
abbrev AscP (l : List PP) : Prop := l.Pairwise ltP

theorem ascP_ext : ∀ {l m : List PP}, AscP l → AscP m → (∀ x, x ∈ l ↔ x ∈ m) → l = m
  | [], [], _, _, _ => rfl
  | [], y :: m, _, _, h => by have := (h y).2 (by simp); simp at this
  | x :: l, [], _, _, h => by have := (h x).1 (by simp); simp at this
  | x :: l, y :: m, hl, hm, h => by
    replace hl := List.pairwise_cons.1 hl
    replace hm := List.pairwise_cons.1 hm
    have e : x = y := by
      have a := (h x).1 (by simp)
      have b := (h y).2 (by simp)
      rw [List.mem_cons] at a b
      rcases a with a | a
      · exact a
      · rcases b with b | b
        · exact b.symm
        · exact absurd (ltP_trans (hl.1 y b) (hm.1 x a)) (ltP_irrefl x)
    subst e
    rw [ascP_ext hl.2 hm.2 fun z => ⟨fun hz => by
      have := (h z).1 (List.mem_cons_of_mem _ hz)
      rcases List.mem_cons.1 this with rfl | h'
      · exact absurd (hl.1 z hz) (ltP_irrefl z)
      · exact h', fun hz => by
      have := (h z).2 (List.mem_cons_of_mem _ hz)
      rcases List.mem_cons.1 this with rfl | h'
      · exact absurd (hm.1 z hz) (ltP_irrefl z)
      · exact h'⟩]

/-- one round of the reference's insertion -/
def stp (p : PP) (s : List PP × Bool) (x : PP) : List PP × Bool :=
  if ltP p x then (if s.2 then s.1 ++ [x] else s.1 ++ [p] ++ [x], true)
  else if p = x then (if s.2 then s.1 else s.1 ++ [p], true)
  else (s.1 ++ [x], s.2)
def insR (l : List PP) (p : PP) : List PP :=
  let s := l.foldl (stp p) ([], false)
  if s.2 then s.1 else s.1 ++ [p]
def sortR (l : List PP) : List PP := l.foldl insR []
def insA (p : PP) : List PP → List PP
  | [] => [p]
  | x :: r => if ltP p x then p :: x :: r else if p = x then p :: r else x :: insA p r
theorem fold_true (p : PP) : ∀ (l out : List PP), (∀ x ∈ l, ltP p x) → l.foldl (stp p) (out, true) = (out ++ l, true)
  | [], out, _ => by simp
  | x :: r, out, h => by
    rw [List.foldl_cons, stp, if_pos (h x (by simp))]
    simp only [if_true]
    rw [fold_true p r _ fun y hy => h y (List.mem_cons_of_mem _ hy)]
    simp
theorem fold_false (p : PP) : ∀ (l out : List PP), AscP l → (let s := l.foldl (stp p) (out, false); if s.2 then s.1 else s.1 ++ [p]) = out ++ insA p l
  | [], out, _ => by simp [insA]
  | x :: r, out, h => by
    replace h := List.pairwise_cons.1 h
    rw [List.foldl_cons]
    by_cases h1 : ltP p x
    · rw [stp, if_pos h1, insA, if_pos h1]
      simp only [if_neg (show ¬ (false = true) by decide)]
      rw [fold_true p r _ fun y hy => ltP_trans h1 (h.1 y hy)]
      simp
    · by_cases h2 : p = x
      · rw [stp, if_neg h1, if_pos h2, insA, if_neg h1, if_pos h2]
        simp only [if_neg (show ¬ (false = true) by decide)]
        rw [fold_true p r _ fun y hy => h2 ▸ h.1 y hy]
        simp
      · rw [stp, if_neg h1, if_neg h2, insA, if_neg h1, if_neg h2]
        have := fold_false p r (out ++ [x]) h.2
        simp only [] at this ⊢
        rw [this]; simp
theorem insR_eq {l : List PP} (p : PP) (h : AscP l) : insR l p = insA p l := by
  have := fold_false p l [] h
  rw [List.nil_append] at this
  exact this
theorem mem_insA (p : PP) : ∀ (l : List PP) (x : PP), x ∈ insA p l ↔ x = p ∨ x ∈ l
  | [], x => by simp [insA]
  | y :: r, x => by
    rw [insA]
    split
    · simp
    · split
      · rename_i h; subst h; simp
      · rw [List.mem_cons, mem_insA p r x, List.mem_cons]
        constructor
        · rintro (h | h | h)
          · exact .inr (.inl h)
          · exact .inl h
          · exact .inr (.inr h)
        · rintro (h | h | h)
          · exact .inr (.inl h)
          · exact .inl h
          · exact .inr (.inr h)
theorem asc_insA (p : PP) : ∀ {l : List PP}, AscP l → AscP (insA p l)
  | [], _ => by simp [insA, AscP]
  | y :: r, h => by
    have h' := List.pairwise_cons.1 h
    rw [insA]
    split
    · rename_i h1
      refine List.pairwise_cons.2 ⟨fun z hz => ?_, h⟩
      rcases List.mem_cons.1 hz with rfl | hz
      · exact h1
      · exact ltP_trans h1 (h'.1 z hz)
    · split
      · rename_i h1 h2; subst h2; exact h
      · rename_i h1 h2
        refine List.pairwise_cons.2 ⟨fun z hz => ?_, asc_insA p h'.2⟩
        rcases (mem_insA p r z).1 hz with rfl | hz
        · rcases ltP_or z y with h3 | h3 | h3
          · exact absurd h3 h1
          · exact absurd h3 h2
          · exact h3
        · exact h'.1 z hz
theorem sortR_fold : ∀ (l out : List PP), AscP out → AscP (l.foldl insR out) ∧ ∀ x, x ∈ l.foldl insR out ↔ x ∈ out ∨ x ∈ l
  | [], out, h => ⟨h, fun x => by simp⟩
  | p :: r, out, h => by
    rw [List.foldl_cons, insR_eq p h]
    have ih := sortR_fold r (insA p out) (asc_insA p h)
    refine ⟨ih.1, fun x => ?_⟩
    rw [ih.2, mem_insA, List.mem_cons]
    constructor
    · rintro ((h | h) | h)
      · exact .inr (.inl h)
      · exact .inl h
      · exact .inr (.inr h)
    · rintro (h | h | h)
      · exact .inl (.inr h)
      · exact .inl (.inl h)
      · exact .inr h
theorem sortR_asc (l : List PP) : AscP (sortR l) := (sortR_fold l [] List.Pairwise.nil).1
theorem mem_sortR (l : List PP) (x : PP) : x ∈ sortR l ↔ x ∈ l := by
  rw [sortR, (sortR_fold l [] List.Pairwise.nil).2]; simp
theorem sortR_le (l : List PP) (k : Nat) : (sortR (l.take k)).length ≤ k := by
  have h : ∀ (l out : List PP), (l.foldl insR out).length ≤ out.length + l.length := by
    intro l
    induction l with
    | nil => intro out; simp
    | cons p r ih =>
      intro out
      rw [List.foldl_cons]
      refine Nat.le_trans (ih _) ?_
      have : (insR out p).length ≤ out.length + 1 := by
        have g : ∀ (m : List PP) (s : List PP × Bool), (m.foldl (stp p) s).1.length + (if (m.foldl (stp p) s).2 then 0 else 1) ≤ s.1.length + (if s.2 then 0 else 1) + m.length := by
          intro m
          induction m with
          | nil => intro s; exact Nat.le_refl _
          | cons x r ih =>
            intro s
            rw [List.foldl_cons]
            refine Nat.le_trans (ih _) ?_
            have : (stp p s x).1.length + (if (stp p s x).2 then 0 else 1) ≤ s.1.length + (if s.2 then 0 else 1) + 1 := by
              obtain ⟨o, b⟩ := s
              unfold stp
              cases b <;> (repeat' split) <;> simp_all <;> omega
            simp only [List.length_cons]; omega
        have := g out ([], false)
        unfold insR
        simp only [] at this ⊢
        split <;> simp_all <;> omega
      simp only [List.length_cons]; omega
  have := h (l.take k) []
  rw [List.length_take] at this
  simp only [List.length_nil] at this
  unfold sortR
  omega
/-- the library's compaction of a sorted row -/
theorem compact_sorted (d : Array PP) (hs : ∀ i j, i < j → j < d.size → ¬ ltP d[j]! d[i]!) : ∀ m, m ≤ d.size →
    AscP (compactUpTo d m) ∧ ∀ x, x ∈ compactUpTo d m ↔ ∃ j, j < m ∧ d[j]! = x
  | 0, _ => ⟨List.Pairwise.nil, fun x => by simp [compactUpTo]⟩
  | m + 1, hm => by
    have ih := compact_sorted d hs m (by omega)
    rw [compactUpTo_succ]
    by_cases hk : keeps d m = true
    · rw [if_pos hk]
      have hk' : m = 0 ∨ d[m]! ≠ d[m - 1]! := by simpa [keeps] using hk
      refine ⟨?_, fun x => ?_⟩
      · refine List.pairwise_append.2 ⟨ih.1, List.pairwise_singleton _ _, fun x hx y hy => ?_⟩
        rw [List.mem_singleton] at hy
        subst hy
        obtain ⟨j, hj, rfl⟩ := (ih.2 x).1 hx
        rcases ltP_or d[j]! d[m]! with h | h | h
        · exact h
        · exfalso
          have hm1 : d[m]! ≠ d[m - 1]! := by rcases hk' with h0 | h0; · omega
                                             · exact h0
          rcases Nat.lt_or_ge j (m - 1) with hjm | hjm
          · rcases ltP_or d[m]! d[m - 1]! with h3 | h3 | h3
            · exact hs (m - 1) m (by omega) (by omega) h3
            · exact hm1 h3
            · rw [← h] at h3; exact hs j (m - 1) hjm (by omega) h3
          · obtain rfl : j = m - 1 := by omega
            exact hm1 h.symm
        · exact absurd h (hs j m hj (by omega))
      · rw [List.mem_append, ih.2, List.mem_singleton]
        constructor
        · rintro (⟨j, hj, h⟩ | h)
          · exact ⟨j, by omega, h⟩
          · exact ⟨m, by omega, h.symm⟩
        · rintro ⟨j, hj, h⟩
          rcases Nat.lt_or_ge j m with h1 | h1
          · exact .inl ⟨j, h1, h⟩
          · obtain rfl : j = m := by omega
            exact .inr h.symm
    · rw [if_neg hk, List.append_nil]
      have hk' : ¬ (m = 0 ∨ d[m]! ≠ d[m - 1]!) := by simpa [keeps] using hk
      have e : d[m]! = d[m - 1]! := Classical.byContradiction fun h => hk' (.inr h)
      refine ⟨ih.1, fun x => ?_⟩
      rw [ih.2]
      constructor
      · rintro ⟨j, hj, h⟩; exact ⟨j, by omega, h⟩
      · rintro ⟨j, hj, h⟩
        rcases Nat.lt_or_ge j m with h1 | h1
        · exact ⟨j, h1, h⟩
        · obtain rfl : j = m := by omega
          exact ⟨j - 1, by have := fun h => hk' (.inl h); omega, by rw [← e]; exact h⟩
theorem compact_le (d : Array PP) (m : Nat) : (compactUpTo d m).length ≤ m := by
  unfold compactUpTo
  rw [List.length_map]
  exact Nat.le_trans (List.length_filter_le _ _) (by simp)
/-- sorted and compacted: what the reference says -/
theorem compact_sortR (d d' : Array PP) (hs : ∀ i j, i < j → j < d'.size → ¬ ltP d'[j]! d'[i]!) (hp : d'.toList.Perm d.toList) : compactUpTo d' d'.size = sortR d.toList := by
  have h := compact_sorted d' hs d'.size (Nat.le_refl _)
  refine ascP_ext h.1 (sortR_asc _) fun x => ?_
  rw [h.2, mem_sortR, ← hp.mem_iff]
  constructor
  · rintro ⟨j, hj, rfl⟩; rw [getElem!_pos d' j hj]; simp
  · intro hx
    obtain ⟨j, hj, e⟩ := List.getElem_of_mem hx
    have hj' : j < d'.size := by simpa using hj
    exact ⟨j, hj', by rw [getElem!_pos d' j hj', ← e]; simp⟩
end Go.Proofs.Ytegponbmelgngaa
