/-
  Rows that are turned in one segment only: mathematics of the library's sort. Mathematics of the library's sort: insertion in a segment, heaps, what a round of the quick sort leaves to do. Mathematics of the library's sort: heaps in a segment, and what a round of the quick sort leaves to do.
-/
namespace Go.Proofs.YtaniiennfogjaaaDoor
set_option linter.unusedSimpArgs false
set_option linter.unusedVariables false

/-- the same elements, and outside of [a, b) the same places -/
def SegP (a b : Nat) (l0 l : List Nat) : Prop := l.Perm l0 ∧ ∀ k, (k < a ∨ b ≤ k) → l[k]? = l0[k]?
theorem SegP.refl (a b : Nat) (l : List Nat) : SegP a b l l := ⟨List.Perm.refl _, fun _ _ => rfl⟩
theorem SegP.trans {a b : Nat} {l0 l1 l2 : List Nat} (h : SegP a b l0 l1) (g : SegP a b l1 l2) : SegP a b l0 l2 := ⟨g.1.trans h.1, fun k hk => (g.2 k hk).trans (h.2 k hk)⟩
theorem SegP.wide {a b a' b' : Nat} {l0 l : List Nat} (h : SegP a b l0 l) (ha : a' ≤ a) (hb : b ≤ b') : SegP a' b' l0 l := ⟨h.1, fun k hk => h.2 k (by omega)⟩
theorem SegP.len {a b : Nat} {l0 l : List Nat} (h : SegP a b l0 l) : l.length = l0.length := h.1.length_eq
theorem swap_at {l : List Nat} {i j x y k : Nat} (hi : l[i]? = some x) (hj : l[j]? = some y) : ((l.set i y).set j x)[k]? = if k = j then some x else if k = i then some y else l[k]? := by
  have h1 := (List.getElem?_eq_some_iff.1 hi).1
  have h2 := (List.getElem?_eq_some_iff.1 hj).1
  by_cases e : k = j
  · subst e; rw [if_pos rfl, List.getElem?_set_self (by rw [List.length_set]; exact h2)]
  · rw [if_neg e, List.getElem?_set_ne (Ne.symm e)]
    by_cases e2 : k = i
    · subst e2; rw [if_pos rfl, List.getElem?_set_self h1]
    · rw [if_neg e2, List.getElem?_set_ne (Ne.symm e2)]
theorem swapP_perm {l : List Nat} {i j x y : Nat} (hi : l[i]? = some x) (hj : l[j]? = some y) : ((l.set i y).set j x).Perm l := by
  obtain ⟨h1, e1⟩ := List.getElem?_eq_some_iff.1 hi
  obtain ⟨h2, e2⟩ := List.getElem?_eq_some_iff.1 hj
  have := List.set_set_perm (i := i) (j := j) h1 h2
  rw [e1, e2] at this
  exact this
theorem SegP.swap {a b : Nat} {l0 l : List Nat} (h : SegP a b l0 l) {i j x y : Nat} (hi : a ≤ i ∧ i < b) (hj : a ≤ j ∧ j < b) (hx : l[i]? = some x) (hy : l[j]? = some y) : SegP a b l0 ((l.set i y).set j x) :=
  ⟨(swapP_perm hx hy).trans h.1, fun k hk => by rw [swap_at hx hy, if_neg (by omega), if_neg (by omega)]; exact h.2 k hk⟩
theorem take_same {l0 l : List Nat} {a : Nat} (h : ∀ k, k < a → l[k]? = l0[k]?) : l.take a = l0.take a := by
  apply List.ext_getElem?
  intro k
  rw [List.getElem?_take, List.getElem?_take]
  split
  · rename_i g; exact h k g
  · rfl
theorem drop_same {l0 l : List Nat} {b : Nat} (h : ∀ k, b ≤ k → l[k]? = l0[k]?) : l.drop b = l0.drop b := by
  apply List.ext_getElem?
  intro k
  rw [List.getElem?_drop, List.getElem?_drop]
  exact h _ (by omega)
/-- the segment holds the same elements -/
theorem SegP.seg {a b : Nat} {l0 l : List Nat} (h : SegP a b l0 l) (hab : a ≤ b) : ((l.drop a).take (b - a)).Perm ((l0.drop a).take (b - a)) := by
  have e : ∀ m : List Nat, m = m.take a ++ ((m.drop a).take (b - a) ++ m.drop b) := fun m => by
    have h1 := (List.take_append_drop (b - a) (m.drop a)).symm
    rw [List.drop_drop, show a + (b - a) = b by omega] at h1
    conv => lhs; rw [← List.take_append_drop a m, h1]
  have hp := h.1
  rw [e l, e l0, take_same (fun k hk => h.2 k (.inl hk)), drop_same (fun k hk => h.2 k (.inr hk))] at hp
  exact (List.perm_append_right_iff _).1 ((List.perm_append_left_iff _).1 hp)
theorem seg_mem {l : List Nat} {a b x : Nat} (hab : a ≤ b) : x ∈ (l.drop a).take (b - a) ↔ ∃ k, a ≤ k ∧ k < b ∧ l[k]? = some x := by
  rw [List.mem_iff_getElem?]
  constructor
  · rintro ⟨k, hk⟩
    rw [List.getElem?_take] at hk
    split at hk
    · rw [List.getElem?_drop] at hk
      exact ⟨a + k, by omega, by omega, hk⟩
    · cases hk
  · rintro ⟨k, h1, h2, hk⟩
    refine ⟨k - a, ?_⟩
    rw [List.getElem?_take, if_pos (by omega), List.getElem?_drop, show a + (k - a) = k by omega]
    exact hk
theorem SegP.mem {a b : Nat} {l0 l : List Nat} (h : SegP a b l0 l) {k x : Nat} (h1 : a ≤ k) (h2 : k < b) (hx : l[k]? = some x) : ∃ j, a ≤ j ∧ j < b ∧ l0[j]? = some x :=
  (seg_mem (by omega)).1 ((h.seg (by omega)).subset ((seg_mem (by omega)).2 ⟨k, h1, h2, hx⟩))
/-- in order from a to b -/
def SrtSeg (a b : Nat) (l : List Nat) : Prop := ∀ p q x y, a ≤ p → p < q → q < b → l[p]? = some x → l[q]? = some y → x ≤ y
theorem SrtSeg.all {l : List Nat} (h : SrtSeg 0 l.length l) : l.Pairwise (· ≤ ·) := by
  rw [List.pairwise_iff_getElem]
  intro p q hp hq hpq
  exact h p q _ _ (Nat.zero_le _) hpq hq (List.getElem?_eq_getElem hp) (List.getElem?_eq_getElem hq)
end Go.Proofs.YtaniiennfogjaaaDoor
namespace Go.Proofs.YtaniiennfogjaaaDoor
set_option linter.unusedSimpArgs false
set_option linter.unusedVariables false

/-- the pairs from a up to place i are in order, but for those that end at place j -/
def InsA (a : Nat) (l : List Nat) (i j : Nat) : Prop := ∀ p q x y, a ≤ p → p < q → q ≤ i → q ≠ j → l[p]? = some x → l[q]? = some y → x ≤ y
theorem insA_done {a : Nat} {l : List Nat} {i j : Nat} (h : InsA a l i j) (hj : j ≤ i) (he : j ≤ a ∨ ∃ x y, l[j - 1]? = some x ∧ l[j]? = some y ∧ ¬ y < x) : InsA a l i (i + 1) := fun p q x y hap hpq hq _ hx hy => by
  by_cases hqj : q = j
  · subst hqj
    rcases he with h0 | ⟨u, v, ha, hb, hab⟩
    · omega
    · rw [hb] at hy; cases hy
      by_cases hp : p = q - 1
      · subst hp; rw [ha] at hx; cases hx; omega
      · have := h p (q - 1) x u hap (by omega) (by omega) (by omega) hx ha
        omega
  · exact h p q x y hap hpq hq hqj hx hy
theorem insA_next {a : Nat} {l : List Nat} {i : Nat} (h : InsA a l i (i + 1)) : InsA a l (i + 1) (i + 1) := fun p q x y hap hpq hq hqj hx hy => h p q x y hap hpq (by omega) hqj hx hy
theorem insA_swap {c : Nat} {l : List Nat} {i m a b : Nat} (h : InsA c l i (m + 1)) (hc : c ≤ m) (hj : m + 1 ≤ i) (ha : l[m]? = some a) (hb : l[m + 1]? = some b) (hab : b < a) : InsA c ((l.set (m + 1) a).set m b) i m := by
  intro p q x y hcp hpq hq hqj hx hy
  rw [swap_at hb ha] at hx hy
  by_cases hq1 : q = m + 1
  · subst hq1
    rw [if_neg (by omega), if_pos rfl] at hy; cases hy
    by_cases hp1 : p = m
    · rw [if_pos hp1] at hx; cases hx; omega
    · rw [if_neg hp1, if_neg (by omega)] at hx
      exact h p m x a hcp (by omega) (by omega) (by omega) hx ha
  · rw [if_neg hqj, if_neg hq1] at hy
    by_cases hp2 : p = m
    · rw [if_pos hp2] at hx; cases hx
      exact h (m + 1) q b y (by omega) (by omega) hq hq1 hb hy
    · by_cases hp1 : p = m + 1
      · rw [if_neg hp2, if_pos hp1] at hx; cases hx
        exact h m q a y hc (by omega) hq hq1 ha hy
      · rw [if_neg hp2, if_neg hp1] at hx
        exact h p q x y hcp hpq hq hq1 hx hy
theorem insA_srt {a i : Nat} {l : List Nat} (h : InsA a l i (i + 1)) : SrtSeg a (i + 1) l := fun p q x y h1 h2 h3 hx hy => h p q x y h1 h2 (by omega) (by omega) hx hy
theorem SrtSeg.one (a : Nat) (l : List Nat) : SrtSeg a (a + 1) l := fun p q x y h1 h2 h3 => by omega
theorem SrtSeg.same {a b : Nat} {l l1 : List Nat} (h : SrtSeg a b l) (he : ∀ k, k < b → l1[k]? = l[k]?) : SrtSeg a b l1 := fun p q x y h1 h2 h3 hx hy => h p q x y h1 h2 h3 (by rw [← he p (by omega)]; exact hx) (by rw [← he q (by omega)]; exact hy)
theorem SrtSeg.snoc {a i u v : Nat} {l : List Nat} (h : SrtSeg a i l) (hu : l[i - 1]? = some u) (hv : l[i]? = some v) (hai : a < i) (huv : ¬ v < u) : SrtSeg a (i + 1) l := fun p q x y h1 h2 h3 hx hy => by
  by_cases e : q = i
  · subst e; rw [hv] at hy; cases hy
    by_cases e2 : p = q - 1
    · subst e2; rw [hu] at hx; cases hx; omega
    · have := h p (q - 1) x u h1 (by omega) (by omega) hx hu; omega
  · exact h p q x y h1 h2 (by omega) hx hy

/-- what lies in front of a segment is not greater -/
def LoS (a b : Nat) (l : List Nat) : Prop := ∀ u k x, 0 < a → l[a - 1]? = some u → a ≤ k → k < b → l[k]? = some x → u ≤ x
theorem LoS.seg {a b : Nat} {l l1 : List Nat} (h : LoS a b l) (s : SegP a b l l1) : LoS a b l1 := fun u k x ha hu h1 h2 hx => by
  obtain ⟨j, hj1, hj2, hj⟩ := s.mem h1 h2 hx
  rw [s.2 (a - 1) (by omega)] at hu
  exact h u j x ha hu hj1 hj2 hj
theorem LoS.less {a b c : Nat} {l : List Nat} (h : LoS a b l) (hc : c ≤ b) : LoS a c l := fun u k x ha hu h1 h2 hx => h u k x ha hu h1 (by omega) hx
/-- pairs of [a, b) that do not lie in [c, d) whole are in order -/
def OrdS (a b c d : Nat) (l : List Nat) : Prop := ∀ p q x y, a ≤ p → p < q → q < b → ¬ (c ≤ p ∧ q < d) → l[p]? = some x → l[q]? = some y → x ≤ y
theorem OrdS.start (a b : Nat) (l : List Nat) : OrdS a b a b l := fun p q x y h1 h2 h3 h4 => by omega
theorem OrdS.seg {a b c d : Nat} {l l1 : List Nat} (h : OrdS a b c d l) (s : SegP c d l l1) (hac : a ≤ c) (hdb : d ≤ b) : OrdS a b c d l1 := fun p q x y h1 h2 h3 h4 hx hy => by
  by_cases hp : c ≤ p ∧ p < d
  · obtain ⟨j, hj1, hj2, hj⟩ := s.mem hp.1 hp.2 hx
    rw [s.2 q (by omega)] at hy
    exact h j q x y (by omega) (by omega) h3 (by omega) hj hy
  · rw [s.2 p (by omega)] at hx
    by_cases hq : c ≤ q ∧ q < d
    · obtain ⟨j, hj1, hj2, hj⟩ := s.mem hq.1 hq.2 hy
      exact h p j x y h1 (by omega) (by omega) (by omega) hx hj
    · rw [s.2 q (by omega)] at hy
      exact h p q x y h1 h2 h3 h4 hx hy
theorem OrdS.lo {a b c d : Nat} {l : List Nat} (h : OrdS a b c d l) (hl : LoS a b l) (hac : a ≤ c) (hdb : d ≤ b) : LoS c d l := fun u k x hc hu h1 h2 hx => by
  by_cases e : c = a
  · subst e; exact hl u k x hc hu h1 (by omega) hx
  · exact h (c - 1) k u x (by omega) (by omega) (by omega) (by omega) hu hx
theorem OrdS.done {a b c d : Nat} {l : List Nat} (h : OrdS a b c d l) (s : SrtSeg c d l) : SrtSeg a b l := fun p q x y h1 h2 h3 hx hy => by
  by_cases e : c ≤ p ∧ q < d
  · exact s p q x y e.1 h2 e.2 hx hy
  · exact h p q x y h1 h2 h3 e hx hy
end Go.Proofs.YtaniiennfogjaaaDoor
namespace Go.Proofs.YtaniiennfogjaaaDoor
set_option linter.unusedSimpArgs false
set_option linter.unusedVariables false

/-- no place from lo on is smaller than the places below it, up to n places from a on -/
def HeapS (a lo n : Nat) (l : List Nat) : Prop := ∀ k c x y, lo ≤ k → (c = 2 * k + 1 ∨ c = 2 * k + 2) → c < n → l[a + k]? = some x → l[a + c]? = some y → y ≤ x
/-- the same but at place r, whose own parent is not smaller than the places below r -/
def SiftI (a lo n r : Nat) (l : List Nat) : Prop := (∀ k c x y, lo ≤ k → k ≠ r → (c = 2 * k + 1 ∨ c = 2 * k + 2) → c < n → l[a + k]? = some x → l[a + c]? = some y → y ≤ x) ∧ ∀ p c x y, lo ≤ p → (r = 2 * p + 1 ∨ r = 2 * p + 2) → (c = 2 * r + 1 ∨ c = 2 * r + 2) → c < n → l[a + p]? = some x → l[a + c]? = some y → y ≤ x
theorem HeapS.sift {a lo n : Nat} {l : List Nat} (h : HeapS a (lo + 1) n l) : SiftI a lo n lo l :=
  ⟨fun k c x y h1 h2 h3 h4 hx hy => h k c x y (by omega) h3 h4 hx hy, fun p c x y h1 h2 h3 h4 hx hy => by omega⟩
theorem SiftI.done {a lo n r : Nat} {l : List Nat} (h : SiftI a lo n r l) (hd : ∀ c x y, (c = 2 * r + 1 ∨ c = 2 * r + 2) → c < n → l[a + r]? = some x → l[a + c]? = some y → y ≤ x) : HeapS a lo n l := fun k c x y h1 h3 h4 hx hy => by
  by_cases e : k = r
  · subst e; exact hd c x y h3 h4 hx hy
  · exact h.1 k c x y h1 e h3 h4 hx hy
theorem SiftI.step {a lo n r c u v : Nat} {l : List Nat} (h : SiftI a lo n r l) (hr : lo ≤ r) (hc : c = 2 * r + 1 ∨ c = 2 * r + 2) (hn : c < n) (hu : l[a + r]? = some u) (hv : l[a + c]? = some v) (huv : u < v) (hm : ∀ s z, (s = 2 * r + 1 ∨ s = 2 * r + 2) → s < n → l[a + s]? = some z → z ≤ v) : SiftI a lo n c ((l.set (a + r) v).set (a + c) u) := by
  refine ⟨fun k d x y h1 h2 h3 h4 hx hy => ?_, fun p d x y h1 h2 h3 h4 hx hy => ?_⟩
  · rw [swap_at hu hv] at hx hy
    by_cases e : k = r
    · subst e
      rw [if_neg (by omega), if_pos rfl] at hx; cases hx
      by_cases e2 : d = c
      · rw [if_pos (by omega)] at hy; cases hy; omega
      · rw [if_neg (by omega), if_neg (by omega)] at hy; exact hm d y h3 h4 hy
    · rw [if_neg (by omega), if_neg (by omega)] at hx
      by_cases e2 : d = r
      · subst e2
        rw [if_neg (by omega), if_pos rfl] at hy; cases hy
        exact h.2 k c x v h1 h3 hc hn hx hv
      · rw [if_neg (by omega), if_neg (by omega)] at hy
        exact h.1 k d x y h1 e h3 h4 hx hy
  · obtain rfl : p = r := by omega
    rw [swap_at hu hv] at hx hy
    rw [if_neg (by omega), if_pos rfl] at hx; cases hx
    rw [if_neg (by omega), if_neg (by omega)] at hy
    exact h.1 c d v y (by omega) (by omega) h3 h4 hv hy
theorem HeapS.top {a n : Nat} {l : List Nat} (h : HeapS a 0 n l) (hl : a + n ≤ l.length) : ∀ k x y, k < n → l[a]? = some x → l[a + k]? = some y → y ≤ x := by
  intro k
  induction k using Nat.strongRecOn with
  | ind k ih =>
    intro x y hk hx hy
    by_cases h0 : k = 0
    · subst h0; rw [Nat.add_zero, hx] at hy; cases hy; exact Nat.le_refl _
    · obtain ⟨z, hz⟩ : ∃ z, l[a + (k - 1) / 2]? = some z := ⟨_, List.getElem?_eq_getElem (by omega)⟩
      have h1 := ih ((k - 1) / 2) (by omega) x z (by omega) hx hz
      have h2 := h ((k - 1) / 2) k z y (Nat.zero_le _) (by omega) hk hz hy
      omega
theorem HeapS.start (a n lo : Nat) (l : List Nat) (h : n ≤ 2 * lo + 1) : HeapS a lo n l := fun k c x y h1 h2 h3 => by omega
/-- heap sort's second part: places from a + i on are in order and not smaller than those in front -/
def PopI (a n i : Nat) (l : List Nat) : Prop := HeapS a 0 i l ∧ ∀ p q x y, a ≤ p → p < q → q < a + n → a + i ≤ q → l[p]? = some x → l[q]? = some y → x ≤ y
theorem PopI.start {a n : Nat} {l : List Nat} (h : HeapS a 0 n l) : PopI a n n l := ⟨h, fun p q x y h1 h2 h3 h4 => by omega⟩
theorem PopI.srt {a n : Nat} {l : List Nat} (h : PopI a n 0 l) : SrtSeg a (a + n) l := fun p q x y h1 h2 h3 hx hy => h.2 p q x y h1 h2 h3 (by omega) hx hy
theorem PopI.next {a n m u v : Nat} {l l1 : List Nat} (h : PopI a n (m + 1) l) (hl : a + n ≤ l.length) (hm : m < n) (hu : l[a]? = some u) (hv : l[a + m]? = some v) (s : SegP a (a + m) ((l.set a v).set (a + m) u) l1) (hh : HeapS a 0 m l1) : PopI a n m l1 := by
  refine ⟨hh, fun p q x y h1 h2 h3 h4 hx hy => ?_⟩
  have hs := fun k => swap_at (k := k) hu hv
  have hz : ∀ k z, a ≤ k → k ≤ a + m → ((l.set a v).set (a + m) u)[k]? = some z → ∃ j, a ≤ j ∧ j ≤ a + m ∧ l[j]? = some z := fun k z g1 g2 hz => by
    rw [hs] at hz
    by_cases e : k = a + m
    · rw [if_pos e] at hz; cases hz; exact ⟨a, Nat.le_refl _, by omega, hu⟩
    · rw [if_neg e] at hz
      by_cases e2 : k = a
      · rw [if_pos e2] at hz; cases hz; exact ⟨a + m, by omega, Nat.le_refl _, hv⟩
      · rw [if_neg e2] at hz; exact ⟨k, g1, g2, hz⟩
  have hq : ((l.set a v).set (a + m) u)[q]? = some y := by rw [← s.2 q (by omega)]; exact hy
  by_cases hp : p < a + m
  · obtain ⟨k, k1, k2, hk⟩ := s.mem h1 hp hx
    obtain ⟨j, j1, j2, hj⟩ := hz k x k1 (by omega) hk
    by_cases e : q = a + m
    · rw [hs, if_pos e] at hq; cases hq
      exact h.1.top (by omega) (j - a) _ _ (by omega) hu (by rw [show a + (j - a) = j by omega]; exact hj)
    · rw [hs, if_neg e, if_neg (by omega)] at hq
      exact h.2 j q x y j1 (by omega) h3 (by omega) hj hq
  · have hx2 : ((l.set a v).set (a + m) u)[p]? = some x := by rw [← s.2 p (by omega)]; exact hx
    rw [hs, if_neg (by omega), if_neg (by omega)] at hq
    by_cases e : p = a + m
    · rw [hs, if_pos e] at hx2; cases hx2
      exact h.2 a q _ _ (Nat.le_refl _) (by omega) h3 (by omega) hu hq
    · rw [hs, if_neg e, if_neg (by omega)] at hx2
      exact h.2 p q x y h1 h2 h3 (by omega) hx2 hq
theorem HeapS.swapped {a m u v : Nat} {l : List Nat} (h : HeapS a 0 (m + 1) l) (hu : l[a]? = some u) (hv : l[a + m]? = some v) : HeapS a (0 + 1) m ((l.set a v).set (a + m) u) := fun k c x y h1 h2 h3 hx hy => by
  rw [swap_at hu hv, if_neg (by omega), if_neg (by omega)] at hx hy
  exact h k c x y (Nat.zero_le _) h2 (by omega) hx hy
theorem SrtSeg.out {a b c d : Nat} {l l1 : List Nat} (h : SrtSeg a b l) (s : SegP c d l l1) (hb : b ≤ c) : SrtSeg a b l1 := h.same (fun k hk => s.2 k (by omega))
/-- partition, then the smaller part in order: what is left is the other part -/
theorem OrdS.left {a b c d j p : Nat} {l l1 : List Nat} (h : OrdS a b c d l) (hac : a ≤ c) (hdb : d ≤ b) (hj : c ≤ j ∧ j < d) (hp : l[j]? = some p) (h1 : ∀ k x, c ≤ k → k < j → l[k]? = some x → x < p) (h2 : ∀ k x, j < k → k < d → l[k]? = some x → ¬ x < p) (s : SegP c j l l1) (hs : SrtSeg c j l1) : OrdS a b (j + 1) d l1 := fun q r x y g1 g2 g3 g4 hx hy => by
  have h' := h.seg (s.wide (Nat.le_refl c) (show j ≤ d by omega)) hac hdb
  by_cases e : c ≤ q ∧ r < d
  · have hP : l1[j]? = some p := by rw [s.2 j (by omega)]; exact hp
    have hlo : ∀ k z, c ≤ k → k < j → l1[k]? = some z → z < p := fun k z k1 k2 hz => by
      obtain ⟨i, i1, i2, hi⟩ := s.mem k1 k2 hz
      exact h1 i z i1 i2 hi
    have hhi : ∀ k z, j < k → k < d → l1[k]? = some z → ¬ z < p := fun k z k1 k2 hz => h2 k z k1 k2 (by rw [← s.2 k (by omega)]; exact hz)
    by_cases hq : q = j
    · subst hq; rw [hP] at hx; cases hx
      have := hhi r y (by omega) e.2 hy; omega
    · have hqx := hlo q x e.1 (by omega) hx
      by_cases hr : r < j
      · exact hs q r x y e.1 g2 hr hx hy
      · by_cases hr2 : r = j
        · subst hr2; rw [hP] at hy; cases hy; omega
        · have := hhi r y (by omega) e.2 hy; omega
  · exact h' q r x y g1 g2 g3 e hx hy
theorem OrdS.right {a b c d j p : Nat} {l l1 : List Nat} (h : OrdS a b c d l) (hac : a ≤ c) (hdb : d ≤ b) (hj : c ≤ j ∧ j < d) (hp : l[j]? = some p) (h1 : ∀ k x, c ≤ k → k < j → l[k]? = some x → x < p) (h2 : ∀ k x, j < k → k < d → l[k]? = some x → ¬ x < p) (s : SegP (j + 1) d l l1) (hs : SrtSeg (j + 1) d l1) : OrdS a b c j l1 := fun q r x y g1 g2 g3 g4 hx hy => by
  have h' := h.seg (s.wide (show c ≤ j + 1 by omega) (Nat.le_refl d)) hac hdb
  by_cases e : c ≤ q ∧ r < d
  · have hP : l1[j]? = some p := by rw [s.2 j (by omega)]; exact hp
    have hlo : ∀ k z, c ≤ k → k < j → l1[k]? = some z → z < p := fun k z k1 k2 hz => h1 k z k1 k2 (by rw [← s.2 k (by omega)]; exact hz)
    have hhi : ∀ k z, j < k → k < d → l1[k]? = some z → ¬ z < p := fun k z k1 k2 hz => by
      obtain ⟨i, i1, i2, hi⟩ := s.mem (show j + 1 ≤ k by omega) k2 hz
      exact h2 i z (by omega) i2 hi
    by_cases hr : r = j
    · subst hr; rw [hP] at hy; cases hy
      have := hlo q x e.1 (by omega) hx; omega
    · have hry := hhi r y (by omega) e.2 hy
      by_cases hq : q < j
      · have := hlo q x e.1 hq hx; omega
      · by_cases hq2 : q = j
        · subst hq2; rw [hP] at hx; cases hx; omega
        · exact hs q r x y (by omega) g2 e.2 hx hy
  · exact h' q r x y g1 g2 g3 e hx hy
/-- the elements equal to the pivot stand in front -/
theorem OrdS.equal {a b c d i p u : Nat} {l : List Nat} (h : OrdS a b c d l) (hl : LoS c d l) (hi : c ≤ i ∧ i ≤ d) (hc : 0 < c) (hu : l[c - 1]? = some u) (hup : ¬ u < p) (h1 : ∀ k x, c ≤ k → k < i → l[k]? = some x → x ≤ p) (h2 : ∀ k x, i ≤ k → k < d → l[k]? = some x → p < x) : OrdS a b i d l := fun q r x y g1 g2 g3 g4 hx hy => by
  by_cases e : c ≤ q ∧ r < d
  · have hqi : q < i := by omega
    have hx1 := h1 q x e.1 hqi hx
    have hy1 := hl u r y hc hu (by omega) e.2 hy
    by_cases hr : r < i
    · omega
    · have := h2 r y (by omega) e.2 hy; omega
  · exact h q r x y g1 g2 g3 e hx hy
theorem LoS.after {c d j p : Nat} {l : List Nat} (hp : l[j]? = some p) (h2 : ∀ k x, j < k → k < d → l[k]? = some x → ¬ x < p) : LoS (j + 1) d l := fun u k x _ hu h3 h4 hx => by
  rw [show j + 1 - 1 = j by omega, hp] at hu; cases hu
  have := h2 k x (by omega) h4 hx; omega
end Go.Proofs.YtaniiennfogjaaaDoor
