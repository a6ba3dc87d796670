/-
  The cheapest edge of each pair, in order: a sorted row compacted is just that.
-/
import Derived.Test.YtiodpgannelgpaaGrU
namespace Go.Proofs.Ytiodpgannelgpaa
namespace GM
open Go.Sort Go.Lib
set_option linter.unusedVariables false
set_option linter.unusedSimpArgs false

abbrev AscE (l : List E) : Prop := l.Pairwise (fun a b => bef a b = true)
theorem bef_irrefl (a : E) : bef a a = false := by
  cases h : bef a a
  · rfl
  · rw [bef_iff] at h; omega
theorem ascE_ext : ∀ {l m : List E}, AscE l → AscE m → (∀ x, x ∈ l ↔ x ∈ m) → l = m
  | [], [], _, _, _ => rfl
  | [], y :: m, _, _, h => by have := (h y).2 (by simp); simp at this
  | x :: l, [], _, _, h => by have := (h x).1 (by simp); simp at this
  | x :: l, y :: m, hl, hm, h => by
    replace hl := List.pairwise_cons.1 hl
    replace hm := List.pairwise_cons.1 hm
    have irr : ∀ {a : E}, ¬ bef a a = true := fun {a} h => by rw [bef_irrefl] at h; cases h
    have e : x = y := by
      have a := (h x).1 (by simp)
      have b := (h y).2 (by simp)
      rw [List.mem_cons] at a b
      rcases a with a | a
      · exact a
      · rcases b with b | b
        · exact b.symm
        · exact absurd (bef_trans (hl.1 y b) (hm.1 x a)) irr
    subst e
    rw [ascE_ext hl.2 hm.2 fun z => ⟨fun hz => by
      have := (h z).1 (List.mem_cons_of_mem _ hz)
      rcases List.mem_cons.1 this with rfl | h'
      · exact absurd (hl.1 z hz) irr
      · exact h', fun hz => by
      have := (h z).2 (List.mem_cons_of_mem _ hz)
      rcases List.mem_cons.1 this with rfl | h'
      · exact absurd (hm.1 z hz) irr
      · exact h'⟩]
/-- r: of each pair of nodes the cheapest edge of l, in order -/
def Least (l r : List E) : Prop := AscE r ∧ ∀ x, x ∈ r ↔ x ∈ l ∧ ∀ y ∈ l, y.1 = x.1 → y.2.1 = x.2.1 → x.2.2 ≤ y.2.2
theorem Least.unique {l r s : List E} (h : Least l r) (k : Least l s) : r = s := ascE_ext h.1 k.1 fun x => (h.2 x).trans (k.2 x).symm
theorem Least.perm {l m r : List E} (h : Least l r) (p : l.Perm m) : Least m r :=
  ⟨h.1, fun x => by rw [h.2, p.mem_iff]; exact and_congr_right fun _ => ⟨fun g y hy => g y (p.mem_iff.2 hy), fun g y hy => g y (p.mem_iff.1 hy)⟩⟩
theorem sk_iff {a b : E} : sk a b = true ↔ a.1 = b.1 ∧ a.2.1 = b.2.1 := by unfold sk ldB; rw [decide_eq_true_eq]; omega
theorem sk_false {a b : E} : sk a b = false ↔ ¬ (a.1 = b.1 ∧ a.2.1 = b.2.1) := by
  rw [← sk_iff]; simp
theorem pick_asc (d : Array E) (hs : ∀ i j, i < j → j < d.size → ¬ lt3 d[j]! d[i]!) : ∀ m, m ≤ d.size → AscE (pickU (kpE d) d m)
  | 0, _ => List.Pairwise.nil
  | m + 1, hm => by
    have ih := pick_asc d hs m (by omega)
    rw [pickU_succ]
    by_cases hk : kpE d m = true
    · rw [if_pos hk]
      refine List.pairwise_append.2 ⟨ih, List.pairwise_singleton _ _, fun x hx y hy => ?_⟩
      rw [List.mem_singleton] at hy
      subst hy
      obtain ⟨j, hj, _, rfl⟩ := mem_pickU.1 hx
      have hk' : m = 0 ∨ sk d[m]! d[m - 1]! = false := of_decide_eq_true hk
      have hk2 : sk d[m]! d[m - 1]! = false := hk'.resolve_left (by omega)
      rw [sk_false] at hk2
      have h1 := hs (m - 1) m (by omega) (by omega)
      rw [bef_iff]
      unfold lt3 at h1
      rcases Nat.lt_or_ge j (m - 1) with hjm | hjm
      · have h2 := hs j (m - 1) hjm (by omega)
        unfold lt3 at h2
        omega
      · obtain rfl : j = m - 1 := by omega
        omega
    · rw [if_neg hk, List.append_nil]; exact ih
theorem pick_least (d : Array E) (hs : ∀ i j, i < j → j < d.size → ¬ lt3 d[j]! d[i]!) : Least d.toList (pickU (kpE d) d d.size) := by
  have mem : ∀ y, y ∈ d.toList ↔ ∃ i, i < d.size ∧ d[i]! = y := fun y => by
    constructor
    · intro hy
      obtain ⟨i, hi, e⟩ := List.getElem_of_mem hy
      have hi' : i < d.size := by simpa using hi
      exact ⟨i, hi', by rw [getElem!_pos d i hi', ← e]; simp⟩
    · rintro ⟨i, hi, rfl⟩
      rw [getElem!_pos d i hi]; simp
  refine ⟨pick_asc d hs _ (Nat.le_refl _), fun x => ?_⟩
  rw [mem_pickU]
  constructor
  · rintro ⟨j, hj, hk, rfl⟩
    refine ⟨(mem _).2 ⟨j, hj, rfl⟩, fun y hy e1 e2 => ?_⟩
    obtain ⟨i, hi, rfl⟩ := (mem y).1 hy
    rcases Nat.lt_trichotomy i j with h | h | h
    · exfalso
      have hk' : j = 0 ∨ sk d[j]! d[j - 1]! = false := of_decide_eq_true hk
      have hk2 : sk d[j]! d[j - 1]! = false := hk'.resolve_left (by omega)
      rw [sk_false] at hk2
      have h1 := hs (j - 1) j (by omega) (by omega)
      unfold lt3 at h1
      rcases Nat.lt_or_ge i (j - 1) with hjm | hjm
      · have h2 := hs i (j - 1) hjm (by omega)
        unfold lt3 at h2
        omega
      · obtain rfl : i = j - 1 := by omega
        omega
    · subst h; exact Int.le_refl _
    · have h1 := hs j i h hi
      unfold lt3 at h1
      omega
  · rintro ⟨hx, hmin⟩
    obtain ⟨j, hj, rfl⟩ := (mem x).1 hx
    have : ∀ n, ∀ i, i ≤ n → i < d.size → d[i]!.1 = d[j]!.1 → d[i]!.2.1 = d[j]!.2.1 → ∃ i0, i0 < d.size ∧ kpE d i0 = true ∧ d[i0]!.1 = d[j]!.1 ∧ d[i0]!.2.1 = d[j]!.2.1 := by
      intro n
      induction n with
      | zero => intro i hi hs' e1 e2; exact ⟨i, hs', decide_eq_true (.inl (by omega)), e1, e2⟩
      | succ n ih =>
        intro i hi hs' e1 e2
        cases hk : kpE d i
        · have hk' : ¬ (i = 0 ∨ sk d[i]! d[i - 1]! = false) := of_decide_eq_false hk
          have h0 : i ≠ 0 := fun h => hk' (.inl h)
          have h1 : sk d[i]! d[i - 1]! = true := by
            cases hq : sk d[i]! d[i - 1]!
            · exact absurd (.inr hq) hk'
            · rfl
          rw [sk_iff] at h1
          exact ih (i - 1) (by omega) (by omega) (by omega) (by omega)
        · exact ⟨i, hs', hk, e1, e2⟩
    obtain ⟨i0, h1, h2, h3, h4⟩ := this j j (Nat.le_refl _) hj rfl rfl
    have h5 := hmin d[i0]! ((mem _).2 ⟨i0, h1, rfl⟩) h3 h4
    refine ⟨i0, h1, h2, ?_⟩
    rcases Nat.lt_trichotomy i0 j with h | h | h
    · have h6 := hs i0 j h hj
      unfold lt3 at h6
      exact Prod.ext h3 (Prod.ext h4 (by omega))
    · subst h; rfl
    · have h6 := hs j i0 h h1
      unfold lt3 at h6
      have hk' : i0 = 0 ∨ sk d[i0]! d[i0 - 1]! = false := of_decide_eq_true h2
      have hk2 : sk d[i0]! d[i0 - 1]! = false := hk'.resolve_left (by omega)
      rw [sk_false] at hk2
      have h7 := hs (i0 - 1) i0 (by omega) h1
      unfold lt3 at h7
      rcases Nat.lt_or_ge j (i0 - 1) with hjm | hjm
      · have h8 := hs j (i0 - 1) hjm (by omega)
        unfold lt3 at h8
        omega
      · obtain rfl : j = i0 - 1 := by omega
        omega
end GM
end Go.Proofs.Ytiodpgannelgpaa
