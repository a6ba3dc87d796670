/-
  Mathematics of the library's sort: insertion in a segment, heaps, what a round of the quick sort leaves to do.
-/
import Derived.Test.YtegponbmelgngaaAgPm
namespace Go.Proofs.Ytegponbmelgngaa
set_option linter.unusedSimpArgs false
set_option linter.unusedVariables false

/-- the pairs from a up to place i are in order, but for those that end at place j -/
def InsA (a : Nat) (l : List Nat) (i j : Nat) : Prop := ∀ p q x y, a ≤ p → p < q → q ≤ i → q ≠ j → l[p]? = some x → l[q]? = some y → x ≤ y
theorem insA_done {a : Nat} {l : List Nat} {i j : Nat} (h : InsA a l i j) (hj : j ≤ i) (he : j ≤ a ∨ ∃ x y, l[j - 1]? = some x ∧ l[j]? = some y ∧ ¬ y < x) : InsA a l i (i + 1) := fun p q x y hap hpq hq _ hx hy => by
  by_cases hqj : q = j
  · subst hqj
    rcases he with h0 | ⟨u, v, ha, hb, hab⟩
    · omega
    · rw [hb] at hy; cases hy
      by_cases hp : p = q - 1
      · subst hp; rw [ha] at hx; cases hx; omega
      · have := h p (q - 1) x u hap (by omega) (by omega) (by omega) hx ha
        omega
  · exact h p q x y hap hpq hq hqj hx hy
theorem insA_next {a : Nat} {l : List Nat} {i : Nat} (h : InsA a l i (i + 1)) : InsA a l (i + 1) (i + 1) := fun p q x y hap hpq hq hqj hx hy => h p q x y hap hpq (by omega) hqj hx hy
theorem insA_swap {c : Nat} {l : List Nat} {i m a b : Nat} (h : InsA c l i (m + 1)) (hc : c ≤ m) (hj : m + 1 ≤ i) (ha : l[m]? = some a) (hb : l[m + 1]? = some b) (hab : b < a) : InsA c ((l.set (m + 1) a).set m b) i m := by
  intro p q x y hcp hpq hq hqj hx hy
  rw [swap_at hb ha] at hx hy
  by_cases hq1 : q = m + 1
  · subst hq1
    rw [if_neg (by omega), if_pos rfl] at hy; cases hy
    by_cases hp1 : p = m
    · rw [if_pos hp1] at hx; cases hx; omega
    · rw [if_neg hp1, if_neg (by omega)] at hx
      exact h p m x a hcp (by omega) (by omega) (by omega) hx ha
  · rw [if_neg hqj, if_neg hq1] at hy
    by_cases hp2 : p = m
    · rw [if_pos hp2] at hx; cases hx
      exact h (m + 1) q b y (by omega) (by omega) hq hq1 hb hy
    · by_cases hp1 : p = m + 1
      · rw [if_neg hp2, if_pos hp1] at hx; cases hx
        exact h m q a y hc (by omega) hq hq1 ha hy
      · rw [if_neg hp2, if_neg hp1] at hx
        exact h p q x y hcp hpq hq hq1 hx hy
theorem insA_of {a b : Nat} {l : List Nat} (h : SrtSeg a b l) (hb : 0 < b) : InsA a l (b - 1) b := fun p q x y h1 h2 h3 _ hx hy => h p q x y h1 h2 (by omega) hx hy
theorem insA_srt {a i : Nat} {l : List Nat} (h : InsA a l i (i + 1)) : SrtSeg a (i + 1) l := fun p q x y h1 h2 h3 hx hy => h p q x y h1 h2 (by omega) (by omega) hx hy
theorem SrtSeg.one (a : Nat) (l : List Nat) : SrtSeg a (a + 1) l := fun p q x y h1 h2 h3 => by omega
theorem SrtSeg.same {a b : Nat} {l l1 : List Nat} (h : SrtSeg a b l) (he : ∀ k, k < b → l1[k]? = l[k]?) : SrtSeg a b l1 := fun p q x y h1 h2 h3 hx hy => h p q x y h1 h2 h3 (by rw [← he p (by omega)]; exact hx) (by rw [← he q (by omega)]; exact hy)
theorem SrtSeg.snoc {a i u v : Nat} {l : List Nat} (h : SrtSeg a i l) (hu : l[i - 1]? = some u) (hv : l[i]? = some v) (hai : a < i) (huv : ¬ v < u) : SrtSeg a (i + 1) l := fun p q x y h1 h2 h3 hx hy => by
  by_cases e : q = i
  · subst e; rw [hv] at hy; cases hy
    by_cases e2 : p = q - 1
    · subst e2; rw [hu] at hx; cases hx; omega
    · have := h p (q - 1) x u h1 (by omega) (by omega) hx hu; omega
  · exact h p q x y h1 h2 (by omega) hx hy

/-- what lies in front of a segment is not greater -/
def LoS (a b : Nat) (l : List Nat) : Prop := ∀ u k x, 0 < a → l[a - 1]? = some u → a ≤ k → k < b → l[k]? = some x → u ≤ x
theorem LoS.seg {a b : Nat} {l l1 : List Nat} (h : LoS a b l) (s : SegP a b l l1) : LoS a b l1 := fun u k x ha hu h1 h2 hx => by
  obtain ⟨j, hj1, hj2, hj⟩ := s.mem h1 h2 hx
  rw [s.2 (a - 1) (by omega)] at hu
  exact h u j x ha hu hj1 hj2 hj
theorem LoS.less {a b c : Nat} {l : List Nat} (h : LoS a b l) (hc : c ≤ b) : LoS a c l := fun u k x ha hu h1 h2 hx => h u k x ha hu h1 (by omega) hx
/-- pairs of [a, b) that do not lie in [c, d) whole are in order -/
def OrdS (a b c d : Nat) (l : List Nat) : Prop := ∀ p q x y, a ≤ p → p < q → q < b → ¬ (c ≤ p ∧ q < d) → l[p]? = some x → l[q]? = some y → x ≤ y
theorem OrdS.start (a b : Nat) (l : List Nat) : OrdS a b a b l := fun p q x y h1 h2 h3 h4 => by omega
theorem OrdS.seg {a b c d : Nat} {l l1 : List Nat} (h : OrdS a b c d l) (s : SegP c d l l1) (hac : a ≤ c) (hdb : d ≤ b) : OrdS a b c d l1 := fun p q x y h1 h2 h3 h4 hx hy => by
  by_cases hp : c ≤ p ∧ p < d
  · obtain ⟨j, hj1, hj2, hj⟩ := s.mem hp.1 hp.2 hx
    rw [s.2 q (by omega)] at hy
    exact h j q x y (by omega) (by omega) h3 (by omega) hj hy
  · rw [s.2 p (by omega)] at hx
    by_cases hq : c ≤ q ∧ q < d
    · obtain ⟨j, hj1, hj2, hj⟩ := s.mem hq.1 hq.2 hy
      exact h p j x y h1 (by omega) (by omega) (by omega) hx hj
    · rw [s.2 q (by omega)] at hy
      exact h p q x y h1 h2 h3 h4 hx hy
theorem OrdS.lo {a b c d : Nat} {l : List Nat} (h : OrdS a b c d l) (hl : LoS a b l) (hac : a ≤ c) (hdb : d ≤ b) : LoS c d l := fun u k x hc hu h1 h2 hx => by
  by_cases e : c = a
  · subst e; exact hl u k x hc hu h1 (by omega) hx
  · exact h (c - 1) k u x (by omega) (by omega) (by omega) (by omega) hu hx
theorem OrdS.done {a b c d : Nat} {l : List Nat} (h : OrdS a b c d l) (s : SrtSeg c d l) : SrtSeg a b l := fun p q x y h1 h2 h3 hx hy => by
  by_cases e : c ≤ p ∧ q < d
  · exact s p q x y e.1 h2 e.2 hx hy
  · exact h p q x y h1 h2 h3 e hx hy
end Go.Proofs.Ytegponbmelgngaa
