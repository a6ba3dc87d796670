/-
  Mathematics of the library's sort: heaps in a segment, and what a round of the quick sort leaves to do.
-/
import Derived.Test.YtegponbmelgngaaAgPq
namespace Go.Proofs.Ytegponbmelgngaa
set_option linter.unusedSimpArgs false
set_option linter.unusedVariables false

/-- no place from lo on is smaller than the places below it, up to n places from a on -/
def HeapS (a lo n : Nat) (l : List Nat) : Prop := ∀ k c x y, lo ≤ k → (c = 2 * k + 1 ∨ c = 2 * k + 2) → c < n → l[a + k]? = some x → l[a + c]? = some y → y ≤ x
/-- the same but at place r, whose own parent is not smaller than the places below r -/
def SiftI (a lo n r : Nat) (l : List Nat) : Prop := (∀ k c x y, lo ≤ k → k ≠ r → (c = 2 * k + 1 ∨ c = 2 * k + 2) → c < n → l[a + k]? = some x → l[a + c]? = some y → y ≤ x) ∧ ∀ p c x y, lo ≤ p → (r = 2 * p + 1 ∨ r = 2 * p + 2) → (c = 2 * r + 1 ∨ c = 2 * r + 2) → c < n → l[a + p]? = some x → l[a + c]? = some y → y ≤ x
theorem HeapS.sift {a lo n : Nat} {l : List Nat} (h : HeapS a (lo + 1) n l) : SiftI a lo n lo l :=
  ⟨fun k c x y h1 h2 h3 h4 hx hy => h k c x y (by omega) h3 h4 hx hy, fun p c x y h1 h2 h3 h4 hx hy => by omega⟩
theorem SiftI.done {a lo n r : Nat} {l : List Nat} (h : SiftI a lo n r l) (hd : ∀ c x y, (c = 2 * r + 1 ∨ c = 2 * r + 2) → c < n → l[a + r]? = some x → l[a + c]? = some y → y ≤ x) : HeapS a lo n l := fun k c x y h1 h3 h4 hx hy => by
  by_cases e : k = r
  · subst e; exact hd c x y h3 h4 hx hy
  · exact h.1 k c x y h1 e h3 h4 hx hy
theorem SiftI.step {a lo n r c u v : Nat} {l : List Nat} (h : SiftI a lo n r l) (hr : lo ≤ r) (hc : c = 2 * r + 1 ∨ c = 2 * r + 2) (hn : c < n) (hu : l[a + r]? = some u) (hv : l[a + c]? = some v) (huv : u < v) (hm : ∀ s z, (s = 2 * r + 1 ∨ s = 2 * r + 2) → s < n → l[a + s]? = some z → z ≤ v) : SiftI a lo n c ((l.set (a + r) v).set (a + c) u) := by
  refine ⟨fun k d x y h1 h2 h3 h4 hx hy => ?_, fun p d x y h1 h2 h3 h4 hx hy => ?_⟩
  · rw [swap_at hu hv] at hx hy
    by_cases e : k = r
    · subst e
      rw [if_neg (by omega), if_pos rfl] at hx; cases hx
      by_cases e2 : d = c
      · rw [if_pos (by omega)] at hy; cases hy; omega
      · rw [if_neg (by omega), if_neg (by omega)] at hy; exact hm d y h3 h4 hy
    · rw [if_neg (by omega), if_neg (by omega)] at hx
      by_cases e2 : d = r
      · subst e2
        rw [if_neg (by omega), if_pos rfl] at hy; cases hy
        exact h.2 k c x v h1 h3 hc hn hx hv
      · rw [if_neg (by omega), if_neg (by omega)] at hy
        exact h.1 k d x y h1 e h3 h4 hx hy
  · obtain rfl : p = r := by omega
    rw [swap_at hu hv] at hx hy
    rw [if_neg (by omega), if_pos rfl] at hx; cases hx
    rw [if_neg (by omega), if_neg (by omega)] at hy
    exact h.1 c d v y (by omega) (by omega) h3 h4 hv hy
theorem HeapS.top {a n : Nat} {l : List Nat} (h : HeapS a 0 n l) (hl : a + n ≤ l.length) : ∀ k x y, k < n → l[a]? = some x → l[a + k]? = some y → y ≤ x := by
  intro k
  induction k using Nat.strongRecOn with
  | ind k ih =>
    intro x y hk hx hy
    by_cases h0 : k = 0
    · subst h0; rw [Nat.add_zero, hx] at hy; cases hy; exact Nat.le_refl _
    · obtain ⟨z, hz⟩ : ∃ z, l[a + (k - 1) / 2]? = some z := ⟨_, List.getElem?_eq_getElem (by omega)⟩
      have h1 := ih ((k - 1) / 2) (by omega) x z (by omega) hx hz
      have h2 := h ((k - 1) / 2) k z y (Nat.zero_le _) (by omega) hk hz hy
      omega
theorem HeapS.start (a n lo : Nat) (l : List Nat) (h : n ≤ 2 * lo + 1) : HeapS a lo n l := fun k c x y h1 h2 h3 => by omega
/-- heap sort's second part: places from a + i on are in order and not smaller than those in front -/
def PopI (a n i : Nat) (l : List Nat) : Prop := HeapS a 0 i l ∧ ∀ p q x y, a ≤ p → p < q → q < a + n → a + i ≤ q → l[p]? = some x → l[q]? = some y → x ≤ y
theorem PopI.start {a n : Nat} {l : List Nat} (h : HeapS a 0 n l) : PopI a n n l := ⟨h, fun p q x y h1 h2 h3 h4 => by omega⟩
theorem PopI.srt {a n : Nat} {l : List Nat} (h : PopI a n 0 l) : SrtSeg a (a + n) l := fun p q x y h1 h2 h3 hx hy => h.2 p q x y h1 h2 h3 (by omega) hx hy
theorem PopI.next {a n m u v : Nat} {l l1 : List Nat} (h : PopI a n (m + 1) l) (hl : a + n ≤ l.length) (hm : m < n) (hu : l[a]? = some u) (hv : l[a + m]? = some v) (s : SegP a (a + m) ((l.set a v).set (a + m) u) l1) (hh : HeapS a 0 m l1) : PopI a n m l1 := by
  refine ⟨hh, fun p q x y h1 h2 h3 h4 hx hy => ?_⟩
  have hs := fun k => swap_at (k := k) hu hv
  have hz : ∀ k z, a ≤ k → k ≤ a + m → ((l.set a v).set (a + m) u)[k]? = some z → ∃ j, a ≤ j ∧ j ≤ a + m ∧ l[j]? = some z := fun k z g1 g2 hz => by
    rw [hs] at hz
    by_cases e : k = a + m
    · rw [if_pos e] at hz; cases hz; exact ⟨a, Nat.le_refl _, by omega, hu⟩
    · rw [if_neg e] at hz
      by_cases e2 : k = a
      · rw [if_pos e2] at hz; cases hz; exact ⟨a + m, by omega, Nat.le_refl _, hv⟩
      · rw [if_neg e2] at hz; exact ⟨k, g1, g2, hz⟩
  have hq : ((l.set a v).set (a + m) u)[q]? = some y := by rw [← s.2 q (by omega)]; exact hy
  by_cases hp : p < a + m
  · obtain ⟨k, k1, k2, hk⟩ := s.mem h1 hp hx
    obtain ⟨j, j1, j2, hj⟩ := hz k x k1 (by omega) hk
    by_cases e : q = a + m
    · rw [hs, if_pos e] at hq; cases hq
      exact h.1.top (by omega) (j - a) _ _ (by omega) hu (by rw [show a + (j - a) = j by omega]; exact hj)
    · rw [hs, if_neg e, if_neg (by omega)] at hq
      exact h.2 j q x y j1 (by omega) h3 (by omega) hj hq
  · have hx2 : ((l.set a v).set (a + m) u)[p]? = some x := by rw [← s.2 p (by omega)]; exact hx
    rw [hs, if_neg (by omega), if_neg (by omega)] at hq
    by_cases e : p = a + m
    · rw [hs, if_pos e] at hx2; cases hx2
      exact h.2 a q _ _ (Nat.le_refl _) (by omega) h3 (by omega) hu hq
    · rw [hs, if_neg e, if_neg (by omega)] at hx2
      exact h.2 p q x y h1 h2 h3 (by omega) hx2 hq
theorem HeapS.swapped {a m u v : Nat} {l : List Nat} (h : HeapS a 0 (m + 1) l) (hu : l[a]? = some u) (hv : l[a + m]? = some v) : HeapS a (0 + 1) m ((l.set a v).set (a + m) u) := fun k c x y h1 h2 h3 hx hy => by
  rw [swap_at hu hv, if_neg (by omega), if_neg (by omega)] at hx hy
  exact h k c x y (Nat.zero_le _) h2 (by omega) hx hy
theorem SrtSeg.out {a b c d : Nat} {l l1 : List Nat} (h : SrtSeg a b l) (s : SegP c d l l1) (hb : b ≤ c) : SrtSeg a b l1 := h.same (fun k hk => s.2 k (by omega))
/-- partition, then the smaller part in order: what is left is the other part -/
theorem OrdS.left {a b c d j p : Nat} {l l1 : List Nat} (h : OrdS a b c d l) (hac : a ≤ c) (hdb : d ≤ b) (hj : c ≤ j ∧ j < d) (hp : l[j]? = some p) (h1 : ∀ k x, c ≤ k → k < j → l[k]? = some x → x < p) (h2 : ∀ k x, j < k → k < d → l[k]? = some x → ¬ x < p) (s : SegP c j l l1) (hs : SrtSeg c j l1) : OrdS a b (j + 1) d l1 := fun q r x y g1 g2 g3 g4 hx hy => by
  have h' := h.seg (s.wide (Nat.le_refl c) (show j ≤ d by omega)) hac hdb
  by_cases e : c ≤ q ∧ r < d
  · have hP : l1[j]? = some p := by rw [s.2 j (by omega)]; exact hp
    have hlo : ∀ k z, c ≤ k → k < j → l1[k]? = some z → z < p := fun k z k1 k2 hz => by
      obtain ⟨i, i1, i2, hi⟩ := s.mem k1 k2 hz
      exact h1 i z i1 i2 hi
    have hhi : ∀ k z, j < k → k < d → l1[k]? = some z → ¬ z < p := fun k z k1 k2 hz => h2 k z k1 k2 (by rw [← s.2 k (by omega)]; exact hz)
    by_cases hq : q = j
    · subst hq; rw [hP] at hx; cases hx
      have := hhi r y (by omega) e.2 hy; omega
    · have hqx := hlo q x e.1 (by omega) hx
      by_cases hr : r < j
      · exact hs q r x y e.1 g2 hr hx hy
      · by_cases hr2 : r = j
        · subst hr2; rw [hP] at hy; cases hy; omega
        · have := hhi r y (by omega) e.2 hy; omega
  · exact h' q r x y g1 g2 g3 e hx hy
theorem OrdS.right {a b c d j p : Nat} {l l1 : List Nat} (h : OrdS a b c d l) (hac : a ≤ c) (hdb : d ≤ b) (hj : c ≤ j ∧ j < d) (hp : l[j]? = some p) (h1 : ∀ k x, c ≤ k → k < j → l[k]? = some x → x < p) (h2 : ∀ k x, j < k → k < d → l[k]? = some x → ¬ x < p) (s : SegP (j + 1) d l l1) (hs : SrtSeg (j + 1) d l1) : OrdS a b c j l1 := fun q r x y g1 g2 g3 g4 hx hy => by
  have h' := h.seg (s.wide (show c ≤ j + 1 by omega) (Nat.le_refl d)) hac hdb
  by_cases e : c ≤ q ∧ r < d
  · have hP : l1[j]? = some p := by rw [s.2 j (by omega)]; exact hp
    have hlo : ∀ k z, c ≤ k → k < j → l1[k]? = some z → z < p := fun k z k1 k2 hz => h1 k z k1 k2 (by rw [← s.2 k (by omega)]; exact hz)
    have hhi : ∀ k z, j < k → k < d → l1[k]? = some z → ¬ z < p := fun k z k1 k2 hz => by
      obtain ⟨i, i1, i2, hi⟩ := s.mem (show j + 1 ≤ k by omega) k2 hz
      exact h2 i z (by omega) i2 hi
    by_cases hr : r = j
    · subst hr; rw [hP] at hy; cases hy
      have := hlo q x e.1 (by omega) hx; omega
    · have hry := hhi r y (by omega) e.2 hy
      by_cases hq : q < j
      · have := hlo q x e.1 hq hx; omega
      · by_cases hq2 : q = j
        · subst hq2; rw [hP] at hx; cases hx; omega
        · exact hs q r x y (by omega) g2 e.2 hx hy
  · exact h' q r x y g1 g2 g3 e hx hy
/-- the elements equal to the pivot stand in front -/
theorem OrdS.equal {a b c d i p u : Nat} {l : List Nat} (h : OrdS a b c d l) (hl : LoS c d l) (hi : c ≤ i ∧ i ≤ d) (hc : 0 < c) (hu : l[c - 1]? = some u) (hup : ¬ u < p) (h1 : ∀ k x, c ≤ k → k < i → l[k]? = some x → x ≤ p) (h2 : ∀ k x, i ≤ k → k < d → l[k]? = some x → p < x) : OrdS a b i d l := fun q r x y g1 g2 g3 g4 hx hy => by
  by_cases e : c ≤ q ∧ r < d
  · have hqi : q < i := by omega
    have hx1 := h1 q x e.1 hqi hx
    have hy1 := hl u r y hc hu (by omega) e.2 hy
    by_cases hr : r < i
    · omega
    · have := h2 r y (by omega) e.2 hy; omega
  · exact h q r x y g1 g2 g3 e hx hy
theorem LoS.after {c d j p : Nat} {l : List Nat} (hp : l[j]? = some p) (h2 : ∀ k x, j < k → k < d → l[k]? = some x → ¬ x < p) : LoS (j + 1) d l := fun u k x _ hu h3 h4 hx => by
  rw [show j + 1 - 1 = j by omega, hp] at hu; cases hu
  have := h2 k x (by omega) h4 hx; omega
end Go.Proofs.Ytegponbmelgngaa
