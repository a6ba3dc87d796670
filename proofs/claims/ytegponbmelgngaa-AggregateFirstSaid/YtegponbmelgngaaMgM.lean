/-
  Sets of addresses as aligned blocks: a set has one list of maximal blocks only.
  Two ways to the list of largest aligned blocks: from the least address on, and by halves.
  How many addresses a set has; intervals that are joined.
  A list is the list of the largest blocks of its addresses if and only if it is normal by the definition.
  The list of an interval has at most 62 blocks.
  What a list of blocks says of a block of addresses, and of its halves.
  Least tables as mathematics: tables are lists of blocks with values; the regions of a table, the values that are best for each, how many entries are needed.
  The table that is made from a region: it has the lookups of the table, and as many entries as are needed; so no table with the same lookups has fewer.
  The reference's count of the entries that are needed, half by half, is the count of the regions.
  Which entries of a table can be left out, as mathematics: parents, children, hidden blocks.
  A block is hidden exactly if the blocks directly below it have as many addresses as it has.
  Leaving out hidden entries, and entries with the value of the entry above, changes no lookup; leaving out another one does.
  Lookups change only where a block begins or has ended.
-/
section
namespace Go.Proofs.Ytegponbmelgngaa.CM
set_option linter.unusedSimpArgs false
set_option linter.unusedVariables false

/-- the block at a of 2^k addresses lies in the set -/
def full (S : Nat → Bool) (a k : Nat) : Prop := ∀ x, a ≤ x → x < a + 2 ^ k → S x = true
theorem pow_pos' (k : Nat) : 0 < 2 ^ k := Nat.pow_pos (by decide)
/-- an aligned block is told by any of its addresses -/
theorem base_of {a k x : Nat} (ha : a % 2 ^ k = 0) (h1 : a ≤ x) (h2 : x < a + 2 ^ k) : x / 2 ^ k * 2 ^ k = a := by
  obtain ⟨q, rfl⟩ := Nat.dvd_of_mod_eq_zero ha
  have hp := pow_pos' k
  have : x / 2 ^ k = q := by
    apply Nat.div_eq_of_lt_le
    · rw [Nat.mul_comm]; exact h1
    · rw [Nat.succ_mul, Nat.mul_comm q]; exact h2
  rw [this, Nat.mul_comm]
theorem in_base (x k : Nat) : x / 2 ^ k * 2 ^ k ≤ x ∧ x < x / 2 ^ k * 2 ^ k + 2 ^ k := by
  have hp := pow_pos' k
  have h1 := Nat.div_add_mod x (2 ^ k)
  have h2 := Nat.mod_lt x hp
  rw [Nat.mul_comm] at h1
  omega
theorem base_al (x k : Nat) : x / 2 ^ k * 2 ^ k % 2 ^ k = 0 := Nat.mul_mod_left _ _
/-- the smaller of two aligned blocks that share an address lies in the larger one -/
theorem nest {a k b j x : Nat} (ha : a % 2 ^ k = 0) (hb : b % 2 ^ j = 0) (hjk : j ≤ k) (h1 : a ≤ x) (h2 : x < a + 2 ^ k) (h3 : b ≤ x) (h4 : x < b + 2 ^ j) :
    a ≤ b ∧ b + 2 ^ j ≤ a + 2 ^ k := by
  have e1 := base_of ha h1 h2
  have e2 := base_of hb h3 h4
  have hpj := pow_pos' j
  obtain ⟨d, rfl⟩ := Nat.le.dest hjk
  have hd : x / 2 ^ (j + d) = x / 2 ^ j / 2 ^ d := by rw [Nat.div_div_eq_div_mul, ← Nat.pow_add]
  have h5 := in_base (x / 2 ^ j) d
  rw [← hd] at h5
  rw [← e1, ← e2, Nat.pow_add, show x / (2 ^ j * 2 ^ d) = x / 2 ^ (j + d) by rw [Nat.pow_add]]
  generalize x / 2 ^ (j + d) = q at h5 ⊢
  generalize x / 2 ^ j = r at h5 ⊢
  have g1 : q * (2 ^ j * 2 ^ d) = q * 2 ^ d * 2 ^ j := by rw [Nat.mul_assoc, Nat.mul_comm (2 ^ d)]
  constructor
  · rw [g1]; exact Nat.mul_le_mul_right _ h5.1
  · rw [g1, Nat.mul_comm (2 ^ j) (2 ^ d), ← Nat.add_mul, ← Nat.succ_mul]
    exact Nat.mul_le_mul_right _ (by omega)
/-- the ascending list of the largest aligned blocks of a set of addresses -/
structure Nrm (S : Nat → Bool) (l : List (Nat × Nat)) : Prop where
  asc : l.Pairwise (fun x y => x.1 + 2 ^ x.2 ≤ y.1)
  al : ∀ x ∈ l, x.1 % 2 ^ x.2 = 0
  le : ∀ x ∈ l, x.2 ≤ 32
  fl : ∀ x ∈ l, full S x.1 x.2
  mx : ∀ x ∈ l, x.2 < 32 → ¬ full S (x.1 / 2 ^ (x.2 + 1) * 2 ^ (x.2 + 1)) (x.2 + 1)
  all : ∀ y, S y = true → ∃ x ∈ l, x.1 ≤ y ∧ y < x.1 + 2 ^ x.2
theorem full.sub {S : Nat → Bool} {a k b j : Nat} (h : full S a k) (h1 : a ≤ b) (h2 : b + 2 ^ j ≤ a + 2 ^ k) : full S b j := fun x hx1 hx2 => h x (by omega) (by omega)
/-- a member of one such list lies in no member of another one that is larger -/
theorem Nrm.not_lt {S : Nat → Bool} {x y : Nat × Nat} (hx : x.1 % 2 ^ x.2 = 0) (hm : x.2 < 32 → ¬ full S (x.1 / 2 ^ (x.2 + 1) * 2 ^ (x.2 + 1)) (x.2 + 1))
    (hy : y.1 % 2 ^ y.2 = 0) (hf : full S y.1 y.2) (hl : y.2 ≤ 32) {z : Nat} (h1 : x.1 ≤ z) (h2 : z < x.1 + 2 ^ x.2) (h3 : y.1 ≤ z) (h4 : z < y.1 + 2 ^ y.2) : y.2 ≤ x.2 := by
  refine Nat.le_of_not_lt fun hlt => hm (by omega) ?_
  have hb := in_base x.1 (x.2 + 1)
  have hp := pow_pos' x.2
  have hin := nest (base_al x.1 (x.2 + 1)) hx (Nat.le_succ _) hb.1 hb.2 (Nat.le_refl _) (by omega)
  have := nest hy (base_al x.1 (x.2 + 1)) hlt h3 h4 (by omega) (by omega)
  exact hf.sub this.1 this.2
theorem Nrm.mem {S : Nat → Bool} {l m : List (Nat × Nat)} (h : Nrm S l) (h' : Nrm S m) : ∀ x ∈ l, x ∈ m := by
  intro x hx
  have hp := pow_pos' x.2
  obtain ⟨y, hy, h1, h2⟩ := h'.all x.1 (h.fl x hx x.1 (Nat.le_refl _) (by omega))
  have a1 := Nrm.not_lt (h.al x hx) (h.mx x hx) (h'.al y hy) (h'.fl y hy) (h'.le y hy) (Nat.le_refl x.1) (by omega) h1 h2
  have a2 := Nrm.not_lt (h'.al y hy) (h'.mx y hy) (h.al x hx) (h.fl x hx) (h.le x hx) h1 h2 (Nat.le_refl x.1) (by omega)
  have e : x.2 = y.2 := by omega
  have b1 := base_of (h'.al y hy) h1 h2
  have b2 := base_of (h.al x hx) (Nat.le_refl x.1) (by omega)
  have : x = y := by
    obtain ⟨xa, xk⟩ := x
    obtain ⟨ya, yk⟩ := y
    dsimp only at e b1 b2
    subst e
    rw [b1] at b2
    rw [b2]
  rw [this]; exact hy
/-- ascending lists with the same members are the same list -/
theorem asc_ext : ∀ {l m : List (Nat × Nat)}, l.Pairwise (fun x y => x.1 + 2 ^ x.2 ≤ y.1) → m.Pairwise (fun x y => x.1 + 2 ^ x.2 ≤ y.1) → (∀ x ∈ l, x ∈ m) → (∀ x ∈ m, x ∈ l) → l = m
  | [], [], _, _, _, _ => rfl
  | [], y :: m, _, _, _, h => by have := h y (by simp); cases this
  | x :: l, [], _, _, h, _ => by have := h x (by simp); cases this
  | x :: l, y :: m, hl, hm, h1, h2 => by
    obtain ⟨hx, hl'⟩ := List.pairwise_cons.1 hl
    obtain ⟨hy, hm'⟩ := List.pairwise_cons.1 hm
    have px := pow_pos' x.2
    have py := pow_pos' y.2
    have e : x = y := by
      rcases List.mem_cons.1 (h1 x (by simp)) with e | h
      · exact e
      · rcases List.mem_cons.1 (h2 y (by simp)) with e | h'
        · exact e.symm
        · have := hy x h
          have := hx y h'
          omega
    subst e
    have no1 : ∀ z ∈ l, z ≠ x := fun z hz e => by have := hx z hz; rw [e] at this; omega
    have no2 : ∀ z ∈ m, z ≠ x := fun z hz e => by have := hy z hz; rw [e] at this; omega
    rw [asc_ext hl' hm' (fun z hz => (List.mem_cons.1 (h1 z (by simp [hz]))).resolve_left (no1 z hz)) (fun z hz => (List.mem_cons.1 (h2 z (by simp [hz]))).resolve_left (no2 z hz))]
/-- a set of addresses has one such list only -/
theorem Nrm.unique {S : Nat → Bool} {l m : List (Nat × Nat)} (h : Nrm S l) (h' : Nrm S m) : l = m :=
  asc_ext h.asc h'.asc (h.mem h') (h'.mem h)
end Go.Proofs.Ytegponbmelgngaa.CM
end

section
namespace Go.Proofs.Ytegponbmelgngaa.CM
set_option linter.unusedSimpArgs false
set_option linter.unusedVariables false

/-- the list of the blocks below lo, where no block of the set straddles lo -/
structure Part (S : Nat → Bool) (l : List (Nat × Nat)) (lo : Nat) : Prop where
  asc : l.Pairwise (fun x y => x.1 + 2 ^ x.2 ≤ y.1)
  al : ∀ x ∈ l, x.1 % 2 ^ x.2 = 0
  le : ∀ x ∈ l, x.2 ≤ 32
  fl : ∀ x ∈ l, full S x.1 x.2
  mx : ∀ x ∈ l, x.2 < 32 → ¬ full S (x.1 / 2 ^ (x.2 + 1) * 2 ^ (x.2 + 1)) (x.2 + 1)
  all : ∀ y, y < lo → S y = true → ∃ x ∈ l, x.1 ≤ y ∧ y < x.1 + 2 ^ x.2
  bel : ∀ x ∈ l, x.1 + 2 ^ x.2 ≤ lo
  str : ∀ b j, b % 2 ^ j = 0 → full S b j → b < lo → b + 2 ^ j ≤ lo
theorem Part.zero (S : Nat → Bool) : Part S [] 0 :=
  ⟨List.Pairwise.nil, fun x h => (by cases h), fun x h => (by cases h), fun x h => (by cases h), fun x h => (by cases h), fun y h => (by omega), fun x h => (by cases h), fun b j _ _ h => (by omega)⟩
theorem Part.done {S : Nat → Bool} {l : List (Nat × Nat)} {lo : Nat} (h : Part S l lo) (hS : ∀ y, lo ≤ y → S y = false) : Nrm S l :=
  ⟨h.asc, h.al, h.le, h.fl, h.mx, fun y hy => h.all y (Nat.lt_of_not_le fun hl => by rw [hS y hl] at hy; cases hy) hy⟩
theorem Part.skip {S : Nat → Bool} {l : List (Nat × Nat)} {lo lo' : Nat} (h : Part S l lo) (hl : lo ≤ lo') (hS : ∀ y, lo ≤ y → y < lo' → S y = false) : Part S l lo' := by
  refine ⟨h.asc, h.al, h.le, h.fl, h.mx, fun y hy hs => ?_, fun x hx => Nat.le_trans (h.bel x hx) hl, fun b j ha hf hb => ?_⟩
  · by_cases hlt : y < lo
    · exact h.all y hlt hs
    · rw [hS y (by omega) hy] at hs; cases hs
  · by_cases hlt : b < lo
    · exact Nat.le_trans (h.str b j ha hf hlt) hl
    · have := hf b (Nat.le_refl _) (by have := pow_pos' j; omega)
      rw [hS b (by omega) hb] at this; cases this
/-- k is the largest exponent of an aligned block from lo on that ends at hi or before -/
def Grown (lo hi k : Nat) : Prop := lo % 2 ^ k = 0 ∧ lo + 2 ^ k ≤ hi ∧ k ≤ 32 ∧ (k < 32 → ¬ (lo % 2 ^ (k + 1) = 0 ∧ lo + 2 ^ (k + 1) ≤ hi))
theorem pow_le' {i j : Nat} (h : i ≤ j) : 2 ^ i ≤ 2 ^ j := Nat.pow_le_pow_right (by decide) h
theorem mod_of_le {a i j : Nat} (h : i ≤ j) (ha : a % 2 ^ j = 0) : a % 2 ^ i = 0 :=
  Nat.mod_eq_zero_of_dvd (Nat.dvd_trans (Nat.pow_dvd_pow 2 h) (Nat.dvd_of_mod_eq_zero ha))
theorem Part.step {S : Nat → Bool} {l : List (Nat × Nat)} {lo hi k : Nat} (h : Part S l lo) (hg : Grown lo hi k) (hin : ∀ y, lo ≤ y → y < hi → S y = true) (hout : S hi = false) (htop : hi ≤ 4294967296) : Part S (l ++ [(lo, k)]) (lo + 2 ^ k) := by
  obtain ⟨g1, g2, g3, g4⟩ := hg
  have hp := pow_pos' k
  have hbig : ∀ j, k < j → lo % 2 ^ j = 0 → full S lo j → False := fun j hj ha hf => by
    have hlt : lo + 2 ^ j ≤ hi := Nat.le_of_not_lt fun hh => by
      have := hf hi (by omega) hh
      rw [hout] at this; cases this
    have hk : k < 32 := by
      refine Nat.lt_of_not_le fun hk => ?_
      have h33 := pow_le' (show 33 ≤ j by omega)
      have : (2 : Nat) ^ 33 = 8589934592 := by decide
      omega
    have := pow_le' (show k + 1 ≤ j by omega)
    exact g4 hk ⟨mod_of_le (by omega) ha, by omega⟩
  have hfull : full S lo k := fun x h1 h2 => hin x h1 (by omega)
  refine ⟨?_, ?_, ?_, ?_, ?_, ?_, ?_, ?_⟩
  · rw [List.pairwise_append]
    refine ⟨h.asc, List.pairwise_singleton _ _, fun x hx y hy => ?_⟩
    rw [List.mem_singleton] at hy; subst hy
    exact h.bel x hx
  · intro x hx
    rcases List.mem_append.1 hx with hx | hx
    · exact h.al x hx
    · rw [List.mem_singleton] at hx; subst hx; exact g1
  · intro x hx
    rcases List.mem_append.1 hx with hx | hx
    · exact h.le x hx
    · rw [List.mem_singleton] at hx; subst hx; exact g3
  · intro x hx
    rcases List.mem_append.1 hx with hx | hx
    · exact h.fl x hx
    · rw [List.mem_singleton] at hx; subst hx; exact hfull
  · intro x hx hk hf
    rcases List.mem_append.1 hx with hx | hx
    · exact h.mx x hx hk hf
    · rw [List.mem_singleton] at hx; subst hx
      dsimp only at hk hf
      have hb := in_base lo (k + 1)
      have ha := base_al lo (k + 1)
      by_cases hlt : lo / 2 ^ (k + 1) * 2 ^ (k + 1) < lo
      · have := h.str _ _ ha hf hlt
        omega
      · have e : lo / 2 ^ (k + 1) * 2 ^ (k + 1) = lo := by omega
        rw [e] at ha hf
        exact hbig (k + 1) (Nat.lt_succ_self k) ha hf
  · intro y hy hs
    by_cases hlt : y < lo
    · obtain ⟨x, hx, h1⟩ := h.all y hlt hs
      exact ⟨x, List.mem_append_left _ hx, h1⟩
    · exact ⟨(lo, k), by simp, by dsimp only; omega, hy⟩
  · intro x hx
    rcases List.mem_append.1 hx with hx | hx
    · have := h.bel x hx; omega
    · rw [List.mem_singleton] at hx; subst hx; exact Nat.le_refl _
  · intro b j ha hf hb
    have hpj := pow_pos' j
    by_cases hlt : b < lo
    · have := h.str b j ha hf hlt; omega
    · by_cases hjk : j ≤ k
      · exact (nest (x := b) g1 ha hjk (by omega) hb (Nat.le_refl _) (by omega)).2
      · have h3 := nest (x := b) ha g1 (by omega) (Nat.le_refl _) (by omega) (by omega) hb
        have e : b = lo := by omega
        rw [e] at ha hf
        exact (hbig j (by omega) ha hf).elim

/-- the list of a block of the set -/
structure NrmB (S : Nat → Bool) (K A : Nat) (l : List (Nat × Nat)) : Prop where
  asc : l.Pairwise (fun x y => x.1 + 2 ^ x.2 ≤ y.1)
  al : ∀ x ∈ l, x.1 % 2 ^ x.2 = 0
  le : ∀ x ∈ l, x.2 ≤ K
  fl : ∀ x ∈ l, full S x.1 x.2
  mx : ∀ x ∈ l, x.2 < K → ¬ full S (x.1 / 2 ^ (x.2 + 1) * 2 ^ (x.2 + 1)) (x.2 + 1)
  all : ∀ y, A ≤ y → y < A + 2 ^ K → S y = true → ∃ x ∈ l, x.1 ≤ y ∧ y < x.1 + 2 ^ x.2
  wi : ∀ x ∈ l, A ≤ x.1 ∧ x.1 + 2 ^ x.2 ≤ A + 2 ^ K
theorem NrmB.root {S : Nat → Bool} {l : List (Nat × Nat)} (h : NrmB S 32 0 l) (hS : ∀ y, S y = true → y < 4294967296) : Nrm S l :=
  ⟨h.asc, h.al, h.le, h.fl, h.mx, fun y hy => h.all y (Nat.zero_le _) (by have := hS y hy; simpa using this) hy⟩
theorem NrmB.whole {S : Nat → Bool} {K A : Nat} (ha : A % 2 ^ K = 0) (hf : full S A K) : NrmB S K A [(A, K)] := by
  refine ⟨List.pairwise_singleton _ _, ?_, ?_, ?_, ?_, ?_, ?_⟩
  · intro x hx; rw [List.mem_singleton] at hx; subst hx; exact ha
  · intro x hx; rw [List.mem_singleton] at hx; subst hx; exact Nat.le_refl _
  · intro x hx; rw [List.mem_singleton] at hx; subst hx; exact hf
  · intro x hx; rw [List.mem_singleton] at hx; subst hx; intro h; exact absurd h (Nat.lt_irrefl _)
  · intro y h1 h2 _; exact ⟨(A, K), by simp, h1, h2⟩
  · intro x hx; rw [List.mem_singleton] at hx; subst hx; exact ⟨Nat.le_refl _, Nat.le_refl _⟩
theorem NrmB.none {S : Nat → Bool} {K A : Nat} (hf : ∀ y, A ≤ y → y < A + 2 ^ K → S y = false) : NrmB S K A [] :=
  ⟨List.Pairwise.nil, fun x h => (by cases h), fun x h => (by cases h), fun x h => (by cases h), fun x h => (by cases h), fun y h1 h2 h3 => (by rw [hf y h1 h2] at h3; cases h3), fun x h => (by cases h)⟩
/-- a list of a block that holds a member of the block's size is that member -/
theorem NrmB.single {S : Nat → Bool} {K A : Nat} {l : List (Nat × Nat)} (h : NrmB S K A l) {x : Nat × Nat} (hx : x ∈ l) (hk : x.2 = K) : l = [(A, K)] := by
  have hw := h.wi x hx
  have e : x = (A, K) := by
    obtain ⟨a, k⟩ := x
    dsimp only at hk hw
    subst hk
    rw [show a = A by omega]
  rw [e] at hx
  have hall : ∀ y ∈ l, y = (A, K) := by
    intro y hy
    have hwy := h.wi y hy
    have hpy := pow_pos' y.2
    obtain ⟨i, hi, rfl⟩ := List.mem_iff_getElem.1 hy
    obtain ⟨j, hj, hje⟩ := List.mem_iff_getElem.1 hx
    have hp := List.pairwise_iff_getElem.1 h.asc
    rcases Nat.lt_trichotomy i j with hij | hij | hij
    · have := hp i j hi hj hij
      rw [hje] at this
      dsimp only at this
      omega
    · subst hij; exact hje
    · have := hp j i hj hi hij
      rw [hje] at this
      dsimp only at this
      omega
  match l, hall, h.asc, hx with
  | [y], hall, _, _ => rw [hall y (by simp)]
  | y :: z :: r, hall, hasc, _ =>
    have h1 := (List.pairwise_cons.1 hasc).1 z (by simp)
    rw [hall y (by simp), hall z (by simp)] at h1
    have := pow_pos' K
    dsimp only at h1
    omega
theorem NrmB.of_full {S : Nat → Bool} {K A : Nat} {l : List (Nat × Nat)} (ha : A % 2 ^ K = 0) (h : NrmB S K A l) (hf : full S A K) : l = [(A, K)] := by
  have hp := pow_pos' K
  obtain ⟨x, hx, h1, h2⟩ := h.all A (Nat.le_refl _) (by omega) (hf A (Nat.le_refl _) (by omega))
  refine h.single hx (Nat.le_antisymm (h.le x hx) (Nat.le_of_not_lt fun hlt => h.mx x hx hlt ?_))
  have hb := in_base x.1 (x.2 + 1)
  have hw := h.wi x hx
  have hpx := pow_pos' x.2
  have := nest (x := x.1) ha (base_al x.1 (x.2 + 1)) hlt hw.1 (by omega) hb.1 hb.2
  exact hf.sub this.1 this.2
/-- the lists of the halves make up the list of the block -/
theorem NrmB.join {S : Nat → Bool} {K A : Nat} {l m : List (Nat × Nat)} (ha : A % 2 ^ (K + 1) = 0) (hl : NrmB S K A l) (hm : NrmB S K (A + 2 ^ K) m) :
    NrmB S (K + 1) A (if l = [(A, K)] ∧ m = [(A + 2 ^ K, K)] then [(A, K + 1)] else l ++ m) := by
  have e2 : 2 ^ (K + 1) = 2 ^ K + 2 ^ K := by rw [Nat.pow_succ]; omega
  have hp := pow_pos' K
  have haK : A % 2 ^ K = 0 := mod_of_le (Nat.le_succ K) ha
  have haK2 : (A + 2 ^ K) % 2 ^ K = 0 := by rw [Nat.add_mod_right]; exact haK
  split
  · rename_i hb
    obtain ⟨rfl, rfl⟩ := hb
    refine NrmB.whole ha fun x h1 h2 => ?_
    by_cases hx : x < A + 2 ^ K
    · exact hl.fl (A, K) (by simp) x h1 hx
    · exact hm.fl (A + 2 ^ K, K) (by simp) x (by dsimp only; omega) (by dsimp only; omega)
  · rename_i hb
    have hnf : ¬ full S A (K + 1) := fun hf => hb ⟨hl.of_full haK (hf.sub (Nat.le_refl _) (by omega)), hm.of_full haK2 (hf.sub (by omega) (by omega))⟩
    have hpar : ∀ x : Nat × Nat, x.2 = K → A ≤ x.1 → x.1 + 2 ^ x.2 ≤ A + 2 ^ (K + 1) → ¬ full S (x.1 / 2 ^ (x.2 + 1) * 2 ^ (x.2 + 1)) (x.2 + 1) := by
      intro x hk h1 h2 hf
      rw [hk] at hf h2
      rw [base_of ha h1 (by omega)] at hf
      exact hnf hf
    refine ⟨?_, ?_, ?_, ?_, ?_, ?_, ?_⟩
    · rw [List.pairwise_append]
      exact ⟨hl.asc, hm.asc, fun x hx y hy => by have := (hl.wi x hx).2; have := (hm.wi y hy).1; omega⟩
    · intro x hx; rcases List.mem_append.1 hx with hx | hx
      · exact hl.al x hx
      · exact hm.al x hx
    · intro x hx; rcases List.mem_append.1 hx with hx | hx
      · exact Nat.le_succ_of_le (hl.le x hx)
      · exact Nat.le_succ_of_le (hm.le x hx)
    · intro x hx; rcases List.mem_append.1 hx with hx | hx
      · exact hl.fl x hx
      · exact hm.fl x hx
    · intro x hx hk
      rcases List.mem_append.1 hx with hx | hx
      · by_cases e : x.2 = K
        · have := hl.wi x hx; exact hpar x e this.1 (by omega)
        · exact hl.mx x hx (by omega)
      · by_cases e : x.2 = K
        · have := hm.wi x hx; exact hpar x e (by omega) (by omega)
        · exact hm.mx x hx (by omega)
    · intro y h1 h2 hs
      by_cases hy : y < A + 2 ^ K
      · obtain ⟨x, hx, h3⟩ := hl.all y h1 hy hs
        exact ⟨x, List.mem_append_left _ hx, h3⟩
      · obtain ⟨x, hx, h3⟩ := hm.all y (by omega) (by omega) hs
        exact ⟨x, List.mem_append_right _ hx, h3⟩
    · intro x hx; rcases List.mem_append.1 hx with hx | hx
      · have := hl.wi x hx; omega
      · have := hm.wi x hx; omega
end Go.Proofs.Ytegponbmelgngaa.CM
end

section
namespace Go.Proofs.Ytegponbmelgngaa.CM
set_option linter.unusedSimpArgs false
set_option linter.unusedVariables false

/-- how many addresses below n are in the set -/
def cnt (S : Nat → Bool) : Nat → Nat
  | 0 => 0
  | n + 1 => cnt S n + if S n = true then 1 else 0
theorem cnt_full {S : Nat → Bool} {a : Nat} : ∀ {m : Nat}, (∀ x, a ≤ x → x < a + m → S x = true) → cnt S (a + m) = cnt S a + m
  | 0, _ => rfl
  | m + 1, h => by
    have ih := cnt_full (m := m) (S := S) (a := a) fun x h1 h2 => h x h1 (by omega)
    show cnt S (a + m) + (if S (a + m) = true then 1 else 0) = _
    rw [ih, if_pos (h (a + m) (by omega) (by omega))]
    omega
theorem cnt_none {S : Nat → Bool} {a : Nat} : ∀ {m : Nat}, (∀ x, a ≤ x → x < a + m → S x = false) → cnt S (a + m) = cnt S a
  | 0, _ => rfl
  | m + 1, h => by
    have ih := cnt_none (m := m) (S := S) (a := a) fun x h1 h2 => h x h1 (by omega)
    show cnt S (a + m) + (if S (a + m) = true then 1 else 0) = _
    rw [ih, if_neg (by rw [h (a + m) (by omega) (by omega)]; decide)]
    omega
theorem cnt_le (S : Nat → Bool) : ∀ n, cnt S n ≤ n
  | 0 => Nat.le_refl _
  | n + 1 => by have := cnt_le S n; show cnt S n + _ ≤ _; split <;> omega
theorem cnt_or_and (S T : Nat → Bool) : ∀ n, cnt (fun x => S x || T x) n + cnt (fun x => S x && T x) n = cnt S n + cnt T n
  | 0 => rfl
  | n + 1 => by
    have ih := cnt_or_and S T n
    show (cnt _ n + _) + (cnt _ n + _) = (cnt S n + _) + (cnt T n + _)
    cases hS : S n <;> cases hT : T n <;> simp [hS, hT] <;> omega
theorem cnt_sub_and (S T : Nat → Bool) : ∀ n, cnt (fun x => S x && !T x) n + cnt (fun x => S x && T x) n = cnt S n
  | 0 => rfl
  | n + 1 => by
    have ih := cnt_sub_and S T n
    show (cnt _ n + _) + (cnt _ n + _) = (cnt S n + _)
    cases hS : S n <;> cases hT : T n <;> simp [hS, hT] <;> omega
theorem cnt_congr {S T : Nat → Bool} : ∀ {n : Nat}, (∀ x, x < n → S x = T x) → cnt S n = cnt T n
  | 0, _ => rfl
  | n + 1, h => by
    show cnt S n + _ = cnt T n + _
    rw [cnt_congr (n := n) fun x hx => h x (by omega), h n (by omega)]
/-- intervals that are apart and make up the set count its addresses -/
theorem cnt_ivs {S : Nat → Bool} : ∀ {l : List (Nat × Nat)} {lo N : Nat}, l.Pairwise (fun x y => x.2 ≤ y.1) → (∀ x ∈ l, lo ≤ x.1 ∧ x.1 ≤ x.2 ∧ x.2 ≤ N) → (∀ x ∈ l, ∀ y, x.1 ≤ y → y < x.2 → S y = true) →
    (∀ y, lo ≤ y → y < N → S y = true → ∃ x ∈ l, x.1 ≤ y ∧ y < x.2) → lo ≤ N → cnt S N = cnt S lo + (l.map (fun x => x.2 - x.1)).sum
  | [], lo, N, _, _, _, h, hl => by
    have := cnt_none (S := S) (a := lo) (m := N - lo) fun x h1 h2 => by
      cases hs : S x
      · rfl
      · obtain ⟨_, hx, _⟩ := h x h1 (by omega) hs; cases hx
    rw [show lo + (N - lo) = N by omega] at this
    simpa using this
  | x :: l, lo, N, ha, hb, hf, h, hl => by
    obtain ⟨ha1, ha2⟩ := List.pairwise_cons.1 ha
    obtain ⟨b1, b2, b3⟩ := hb x (by simp)
    have c1 := cnt_none (S := S) (a := lo) (m := x.1 - lo) fun y h1 h2 => by
      cases hs : S y
      · rfl
      · obtain ⟨z, hz, h3, h4⟩ := h y h1 (by omega) hs
        rcases List.mem_cons.1 hz with rfl | hz
        · omega
        · have := ha1 z hz; omega
    have c2 := cnt_full (S := S) (a := x.1) (m := x.2 - x.1) fun y h1 h2 => hf x (by simp) y h1 (by omega)
    have ih := cnt_ivs (S := S) (l := l) (lo := x.2) (N := N) ha2 (fun z hz => ⟨ha1 z hz, (hb z (by simp [hz])).2⟩) (fun z hz => hf z (by simp [hz])) (fun y h1 h2 h3 => by
      obtain ⟨z, hz, h4, h5⟩ := h y (by omega) h2 h3
      rcases List.mem_cons.1 hz with rfl | hz
      · omega
      · exact ⟨z, hz, h4, h5⟩) b3
    rw [show lo + (x.1 - lo) = x.1 by omega] at c1
    rw [show x.1 + (x.2 - x.1) = x.2 by omega] at c2
    rw [ih, c2, c1, List.map_cons, List.sum_cons]
    omega
/-- the blocks of a normal list count its addresses -/
theorem Nrm.count {S : Nat → Bool} {l : List (Nat × Nat)} {N : Nat} (h : Nrm S l) (hN : ∀ y, S y = true → y < N) : cnt S N = (l.map (fun x => 2 ^ x.2)).sum := by
  have := cnt_ivs (S := S) (l := l.map (fun x => (x.1, x.1 + 2 ^ x.2))) (lo := 0) (N := N)
    (by rw [List.pairwise_map]; exact h.asc)
    (fun y hy => by
      obtain ⟨x, hx, rfl⟩ := List.mem_map.1 hy
      have hp := pow_pos' x.2
      have := hN _ (h.fl x hx (x.1 + 2 ^ x.2 - 1) (by omega) (by omega))
      dsimp only
      omega)
    (fun y hy => by
      obtain ⟨x, hx, rfl⟩ := List.mem_map.1 hy
      exact h.fl x hx)
    (fun y _ _ hs => by
      obtain ⟨x, hx, h1, h2⟩ := h.all y hs
      exact ⟨_, List.mem_map.2 ⟨x, hx, rfl⟩, h1, h2⟩)
    (Nat.zero_le _)
  rw [this, List.map_map]
  show 0 + _ = _
  rw [Nat.zero_add]
  congr 1
  apply List.map_congr_left
  intro x _
  exact Nat.add_sub_cancel_left _ _

/-- intervals that ascend and do not touch, and the set that they make up -/
structure Sep (S : Nat → Bool) (l : List (Nat × Nat)) : Prop where
  asc : l.Pairwise (fun x y => x.2 < y.1)
  ne : ∀ x ∈ l, x.1 < x.2
  mem : ∀ y, S y = true ↔ ∃ x ∈ l, x.1 ≤ y ∧ y < x.2
/-- one more interval, that begins at or behind the beginnings of all -/
def mstep (l : List (Nat × Nat)) (s : Nat × Nat) : List (Nat × Nat) :=
  match l.getLast? with
  | none => if s.1 < s.2 then [s] else []
  | some t => if s.1 ≤ t.2 then l.dropLast ++ [(t.1, max t.2 s.2)] else if s.1 < s.2 then l ++ [s] else l
theorem Sep.step {S : Nat → Bool} {l : List (Nat × Nat)} {s : Nat × Nat} (h : Sep S l) (hs : ∀ x ∈ l, x.1 ≤ s.1) : Sep (fun y => S y || (decide (s.1 ≤ y) && decide (y < s.2))) (mstep l s) := by
  have hor : ∀ y, (S y || (decide (s.1 ≤ y) && decide (y < s.2))) = true ↔ S y = true ∨ (s.1 ≤ y ∧ y < s.2) := fun y => by simp
  unfold mstep
  rcases List.eq_nil_or_concat l with rfl | ⟨i, t, rfl⟩
  · simp only [List.getLast?_nil]
    split
    · refine ⟨List.pairwise_singleton _ _, fun x hx => by rw [List.mem_singleton] at hx; subst hx; assumption, fun y => ?_⟩
      rw [hor, h.mem]
      simp
    · refine ⟨List.Pairwise.nil, fun x hx => (by cases hx), fun y => ?_⟩
      rw [hor, h.mem]
      constructor
      · rintro (⟨_, h1, _⟩ | h1)
        · cases h1
        · omega
      · rintro ⟨_, h1, _⟩; cases h1
  · rw [List.concat_eq_append] at h hs ⊢
    rw [List.getLast?_concat, List.dropLast_concat]
    obtain ⟨a1, a2, a3⟩ := List.pairwise_append.1 h.asc
    have ht := h.ne t (by simp)
    have hts := hs t (by simp)
    dsimp only
    split
    · rename_i hle
      refine ⟨?_, ?_, ?_⟩
      · rw [List.pairwise_append]
        refine ⟨a1, List.pairwise_singleton _ _, fun x hx y hy => ?_⟩
        rw [List.mem_singleton] at hy; subst hy
        exact a3 x hx t (by simp)
      · intro x hx
        rcases List.mem_append.1 hx with hx | hx
        · exact h.ne x (by simp [hx])
        · rw [List.mem_singleton] at hx; subst hx; dsimp only; omega
      · intro y
        rw [hor, h.mem]
        constructor
        · rintro (⟨x, hx, h1, h2⟩ | ⟨h1, h2⟩)
          · rcases List.mem_append.1 hx with hx | hx
            · exact ⟨x, by simp [hx], h1, h2⟩
            · rw [List.mem_singleton] at hx; subst hx
              exact ⟨(x.1, max x.2 s.2), by simp, h1, by dsimp only; omega⟩
          · exact ⟨(t.1, max t.2 s.2), by simp, by dsimp only; omega, by dsimp only; omega⟩
        · rintro ⟨x, hx, h1, h2⟩
          rcases List.mem_append.1 hx with hx | hx
          · exact .inl ⟨x, by simp [hx], h1, h2⟩
          · rw [List.mem_singleton] at hx; subst hx
            dsimp only at h1 h2
            by_cases hy : y < t.2
            · exact .inl ⟨t, by simp, h1, hy⟩
            · exact .inr ⟨by omega, by omega⟩
    · rename_i hgt
      split
      · rename_i hne
        refine ⟨?_, ?_, ?_⟩
        · rw [List.pairwise_append]
          refine ⟨h.asc, List.pairwise_singleton _ _, fun x hx y hy => ?_⟩
          rw [List.mem_singleton] at hy; subst hy
          rcases List.mem_append.1 hx with hx | hx
          · have := a3 x hx t (by simp); omega
          · rw [List.mem_singleton] at hx; subst hx; omega
        · intro x hx
          rcases List.mem_append.1 hx with hx | hx
          · exact h.ne x hx
          · rw [List.mem_singleton] at hx; subst hx; exact hne
        · intro y
          rw [hor, h.mem]
          constructor
          · rintro (⟨x, hx, h1⟩ | h1)
            · exact ⟨x, List.mem_append_left _ hx, h1⟩
            · exact ⟨s, by simp, h1⟩
          · rintro ⟨x, hx, h1⟩
            rcases List.mem_append.1 hx with hx | hx
            · exact .inl ⟨x, hx, h1⟩
            · rw [List.mem_singleton] at hx; subst hx; exact .inr h1
      · rename_i hne
        refine ⟨h.asc, h.ne, fun y => ?_⟩
        rw [hor, h.mem]
        constructor
        · rintro (h1 | h1)
          · exact h1
          · omega
        · exact .inl
/-- what a step keeps: all beginnings are at or before the new one's -/
theorem mstep_lo {l : List (Nat × Nat)} {s : Nat × Nat} (hs : ∀ x ∈ l, x.1 ≤ s.1) : ∀ x ∈ mstep l s, x.1 ≤ s.1 := by
  unfold mstep
  rcases List.eq_nil_or_concat l with rfl | ⟨i, t, rfl⟩
  · simp only [List.getLast?_nil]
    split
    · intro x hx; rw [List.mem_singleton] at hx; subst hx; exact Nat.le_refl _
    · intro x hx; cases hx
  · rw [List.concat_eq_append] at hs ⊢
    rw [List.getLast?_concat, List.dropLast_concat]
    dsimp only
    split
    · intro x hx
      rcases List.mem_append.1 hx with hx | hx
      · exact hs x (by simp [hx])
      · rw [List.mem_singleton] at hx; subst hx; exact hs t (by simp)
    · split
      · intro x hx
        rcases List.mem_append.1 hx with hx | hx
        · exact hs x hx
        · rw [List.mem_singleton] at hx; subst hx; exact Nat.le_refl _
      · exact hs
end Go.Proofs.Ytegponbmelgngaa.CM
end

section
namespace Go.Proofs.Ytegponbmelgngaa.CM
set_option linter.unusedSimpArgs false
set_option linter.unusedVariables false

/-- the address lies in the block -/
def inB (x : Nat × Nat) (y : Nat) : Prop := x.1 ≤ y ∧ y < x.1 + 2 ^ x.2
theorem same_block {x y : Nat × Nat} {z : Nat} (ax : x.1 % 2 ^ x.2 = 0) (ay : y.1 % 2 ^ y.2 = 0) (e : x.2 = y.2) (h1 : inB x z) (h2 : inB y z) : x = y := by
  obtain ⟨xa, xk⟩ := x
  obtain ⟨ya, yk⟩ := y
  dsimp only at e ax ay
  subst e
  have b1 := base_of ax h1.1 h1.2
  have b2 := base_of ay h2.1 h2.2
  rw [← b1, ← b2]
/-- normal by the definition: aligned blocks, ascending, apart, and no two are the halves of a block -/
structure Def (l : List (Nat × Nat)) : Prop where
  asc : l.Pairwise (fun x y => x.1 < y.1)
  al : ∀ x ∈ l, x.1 % 2 ^ x.2 = 0
  le : ∀ x ∈ l, x.2 ≤ 32
  dis : ∀ x ∈ l, ∀ y ∈ l, ∀ z, inB x z → inB y z → x = y
  sib : ∀ x ∈ l, ∀ y ∈ l, x.2 < 32 → x.2 = y.2 → y.1 = x.1 + 2 ^ x.2 → x.1 % 2 ^ (x.2 + 1) = 0 → False
/-- the addresses of a list of blocks -/
def setOf (l : List (Nat × Nat)) (y : Nat) : Bool := l.any (fun x => decide (x.1 ≤ y) && decide (y < x.1 + 2 ^ x.2))
theorem setOf_iff (l : List (Nat × Nat)) (y : Nat) : setOf l y = true ↔ ∃ x ∈ l, inB x y := by
  unfold setOf inB; simp
theorem half {l : List (Nat × Nat)} (h : Def l) {c j : Nat} (ha : c % 2 ^ j = 0) (hf : full (setOf l) c j) (hs : ∀ x ∈ l, ∀ z, inB x z → inB (c, j) z → x.2 ≤ j) :
    (c, j) ∈ l ∨ (0 < j ∧ ∀ x ∈ l, ∀ z, inB x z → inB (c, j) z → x.2 < j) := by
  have hp := pow_pos' j
  have hc : inB (c, j) c := ⟨Nat.le_refl _, by dsimp only; omega⟩
  obtain ⟨x, hx, hxc⟩ := (setOf_iff l c).1 (hf c (Nat.le_refl _) (by omega))
  have hle := hs x hx c hxc hc
  by_cases e : x.2 = j
  · have := same_block (h.al x hx) (y := (c, j)) ha e hxc hc
    exact .inl (this ▸ hx)
  · refine .inr ⟨by omega, fun z hz w h1 h2 => ?_⟩
    have hle2 := hs z hz w h1 h2
    refine Nat.lt_of_le_of_ne hle2 fun e2 => ?_
    have hzc := same_block (h.al z hz) (y := (c, j)) ha e2 h1 h2
    have : x = z := h.dis x hx z hz c hxc (hzc ▸ hc)
    rw [this] at e
    exact e e2
theorem sib_of_full {l : List (Nat × Nat)} (h : Def l) : ∀ (j b : Nat), b % 2 ^ (j + 1) = 0 → j < 32 → full (setOf l) b (j + 1) → (∀ x ∈ l, ∀ z, inB x z → inB (b, j + 1) z → x.2 ≤ j) → False := by
  intro j
  induction j with
  | zero =>
    intro b ha hj hf hs
    have e2 : 2 ^ (0 + 1) = 2 ^ 0 + 2 ^ 0 := by decide
    rcases half h (c := b) (j := 0) (mod_of_le (by omega) ha) (hf.sub (Nat.le_refl _) (by omega)) (fun x hx z h1 h2 => hs x hx z h1 ⟨h2.1, by have := h2.2; dsimp only at this ⊢; omega⟩) with h1 | ⟨h1, _⟩
    · rcases half h (c := b + 2 ^ 0) (j := 0) (by rw [Nat.add_mod_right]; exact mod_of_le (by omega) ha) (hf.sub (by omega) (by omega)) (fun x hx z h1 h2 => hs x hx z h1 ⟨by have := h2.1; dsimp only at this ⊢; omega, by have := h2.2; dsimp only at this ⊢; omega⟩) with h2 | ⟨h2, _⟩
      · exact h.sib _ h1 _ h2 hj rfl rfl ha
      · omega
    · omega
  | succ i ih =>
    intro b ha hj hf hs
    have e2 : 2 ^ (i + 1 + 1) = 2 ^ (i + 1) + 2 ^ (i + 1) := by rw [Nat.pow_succ 2 (i + 1)]; omega
    have hp := pow_pos' (i + 1)
    have ha1 : b % 2 ^ (i + 1) = 0 := mod_of_le (by omega) ha
    have ha2 : (b + 2 ^ (i + 1)) % 2 ^ (i + 1) = 0 := by rw [Nat.add_mod_right]; exact ha1
    have f1 : full (setOf l) b (i + 1) := hf.sub (Nat.le_refl _) (by omega)
    have f2 : full (setOf l) (b + 2 ^ (i + 1)) (i + 1) := hf.sub (by omega) (by omega)
    rcases half h ha1 f1 (fun x hx z h1 h2 => hs x hx z h1 ⟨h2.1, by have := h2.2; dsimp only at this ⊢; omega⟩) with h1 | ⟨_, h1⟩
    · rcases half h ha2 f2 (fun x hx z h1 h2 => hs x hx z h1 ⟨by have := h2.1; dsimp only at this ⊢; omega, by have := h2.2; dsimp only at this ⊢; omega⟩) with h2 | ⟨_, h2⟩
      · exact h.sib _ h1 _ h2 hj rfl rfl ha
      · exact ih _ ha2 (by omega) f2 (fun x hx z h3 h4 => Nat.le_of_lt_succ (h2 x hx z h3 h4))
    · exact ih _ ha1 (by omega) f1 (fun x hx z h3 h4 => Nat.le_of_lt_succ (h1 x hx z h3 h4))
theorem Def.nrm {l : List (Nat × Nat)} (h : Def l) : Nrm (setOf l) l := by
  refine ⟨?_, h.al, h.le, fun x hx y h1 h2 => (setOf_iff l y).2 ⟨x, hx, h1, h2⟩, ?_, fun y hy => (setOf_iff l y).1 hy⟩
  · refine h.asc.imp_of_mem fun {x y} hx hy hlt => Nat.le_of_not_lt fun hh => ?_
    have := h.dis x hx y hy y.1 ⟨by omega, hh⟩ ⟨Nat.le_refl _, by have := pow_pos' y.2; omega⟩
    rw [this] at hlt; exact absurd hlt (Nat.lt_irrefl _)
  · intro x hx hk hf
    have hb := in_base x.1 (x.2 + 1)
    have ha := base_al x.1 (x.2 + 1)
    have hp := pow_pos' x.2
    refine sib_of_full h x.2 _ ha hk hf fun z hz w h1 h2 => Nat.le_of_not_lt fun hlt => ?_
    -- a larger member would hold x
    have n1 := nest (h.al z hz) ha hlt h1.1 h1.2 h2.1 h2.2
    have n2 := h.dis x hx z hz x.1 ⟨Nat.le_refl _, by omega⟩ ⟨by omega, by omega⟩
    rw [n2] at hlt; exact absurd hlt (Nat.lt_irrefl _)
theorem Nrm.def {S : Nat → Bool} {l : List (Nat × Nat)} (h : Nrm S l) : Def l := by
  have hdis : ∀ x ∈ l, ∀ y ∈ l, ∀ z, inB x z → inB y z → x = y := by
    intro x hx y hy z h1 h2
    have a1 := Nrm.not_lt (h.al x hx) (h.mx x hx) (h.al y hy) (h.fl y hy) (h.le y hy) h1.1 h1.2 h2.1 h2.2
    have a2 := Nrm.not_lt (h.al y hy) (h.mx y hy) (h.al x hx) (h.fl x hx) (h.le x hx) h2.1 h2.2 h1.1 h1.2
    exact same_block (h.al x hx) (h.al y hy) (by omega) h1 h2
  refine ⟨h.asc.imp fun {x y} hxy => by have := pow_pos' x.2; omega, h.al, h.le, hdis, ?_⟩
  intro x hx y hy hk e e1 ha
  refine h.mx x hx hk ?_
  have hp := pow_pos' x.2
  have e2 : 2 ^ (x.2 + 1) = 2 ^ x.2 + 2 ^ x.2 := by rw [Nat.pow_succ]; omega
  rw [base_of ha (Nat.le_refl _) (by omega)]
  intro z h1 h2
  by_cases hz : z < x.1 + 2 ^ x.2
  · exact h.fl x hx z h1 hz
  · exact h.fl y hy z (by omega) (by rw [← e]; omega)
/-- the list of a set is the list of its own addresses -/
theorem Nrm.setOf_eq {S : Nat → Bool} {l : List (Nat × Nat)} (h : Nrm S l) : setOf l = S := by
  funext y
  by_cases hs : S y = true
  · rw [hs]; exact (setOf_iff l y).2 (h.all y hs)
  · have : setOf l y ≠ true := fun e => by
      obtain ⟨x, hx, h1, h2⟩ := (setOf_iff l y).1 e
      exact hs (h.fl x hx y h1 h2)
    rw [Bool.eq_false_iff.2 hs, Bool.eq_false_iff.2 this]
/-- a list that is normal by the definition is left as it is -/
theorem Def.fixed {l m : List (Nat × Nat)} (h : Def l) (hm : Nrm (setOf l) m) : m = l := hm.unique h.nrm
end Go.Proofs.Ytegponbmelgngaa.CM
end

section
namespace Go.Proofs.Ytegponbmelgngaa.CM
set_option linter.unusedSimpArgs false
set_option linter.unusedVariables false

theorem join_len (l m : List (Nat × Nat)) (A K : Nat) : (if l = [(A, K)] ∧ m = [(A + 2 ^ K, K)] then [(A, K + 1)] else l ++ m).length ≤ max 1 (l.length + m.length) := by
  split
  · simp only [List.length_singleton]; omega
  · rw [List.length_append]; omega
/-- the beginning of a block -/
theorem pre_len {S : Nat → Bool} {h : Nat} : ∀ (K A : Nat), A % 2 ^ K = 0 → (∀ y, A ≤ y → y < A + 2 ^ K → (S y = true ↔ y < h)) → ∃ l, NrmB S K A l ∧ l.length ≤ max 1 K
  | K, A, ha, hS => by
    by_cases h1 : A + 2 ^ K ≤ h
    · exact ⟨_, NrmB.whole ha (fun x g1 g2 => (hS x g1 g2).2 (by omega)), by simp only [List.length_singleton]; omega⟩
    by_cases h2 : h ≤ A
    · exact ⟨_, NrmB.none (fun x g1 g2 => Bool.eq_false_iff.2 fun e => by have := (hS x g1 g2).1 e; omega), by simp⟩
    match K, ha, hS, h1 with
    | 0, ha, hS, h1 => simp at h1; omega
    | K + 1, ha, hS, h1 =>
      have e2 : 2 ^ (K + 1) = 2 ^ K + 2 ^ K := by rw [Nat.pow_succ]; omega
      have hp := pow_pos' K
      have ha1 : A % 2 ^ K = 0 := mod_of_le (Nat.le_succ K) ha
      have ha2 : (A + 2 ^ K) % 2 ^ K = 0 := by rw [Nat.add_mod_right]; exact ha1
      by_cases h3 : h ≤ A + 2 ^ K
      · obtain ⟨l, hl, hn⟩ := pre_len K A ha1 (fun y g1 g2 => hS y g1 (by omega))
        have hm : NrmB S K (A + 2 ^ K) [] := NrmB.none (fun x g1 g2 => Bool.eq_false_iff.2 fun e => by have := (hS x (by omega) (by omega)).1 e; omega)
        exact ⟨_, NrmB.join ha hl hm, Nat.le_trans (join_len _ _ _ _) (by simp only [List.length_nil]; omega)⟩
      · obtain ⟨m, hm, hn⟩ := pre_len K (A + 2 ^ K) ha2 (fun y g1 g2 => hS y (by omega) (by omega))
        have hl : NrmB S K A [(A, K)] := NrmB.whole ha1 (fun x g1 g2 => (hS x g1 (by omega)).2 (by omega))
        have hK : 1 ≤ K := Nat.pos_of_ne_zero fun e => by subst e; simp at h1 h3; omega
        exact ⟨_, NrmB.join ha hl hm, Nat.le_trans (join_len _ _ _ _) (by simp only [List.length_singleton]; omega)⟩
/-- the end of a block -/
theorem suf_len {S : Nat → Bool} {f : Nat} : ∀ (K A : Nat), A % 2 ^ K = 0 → (∀ y, A ≤ y → y < A + 2 ^ K → (S y = true ↔ f ≤ y)) → ∃ l, NrmB S K A l ∧ l.length ≤ max 1 K
  | K, A, ha, hS => by
    by_cases h1 : f ≤ A
    · exact ⟨_, NrmB.whole ha (fun x g1 g2 => (hS x g1 g2).2 (by omega)), by simp only [List.length_singleton]; omega⟩
    by_cases h2 : A + 2 ^ K ≤ f
    · exact ⟨_, NrmB.none (fun x g1 g2 => Bool.eq_false_iff.2 fun e => by have := (hS x g1 g2).1 e; omega), by simp⟩
    match K, ha, hS, h2 with
    | 0, ha, hS, h2 => simp at h2; omega
    | K + 1, ha, hS, h2 =>
      have e2 : 2 ^ (K + 1) = 2 ^ K + 2 ^ K := by rw [Nat.pow_succ]; omega
      have hp := pow_pos' K
      have ha1 : A % 2 ^ K = 0 := mod_of_le (Nat.le_succ K) ha
      have ha2 : (A + 2 ^ K) % 2 ^ K = 0 := by rw [Nat.add_mod_right]; exact ha1
      by_cases h3 : A + 2 ^ K ≤ f
      · obtain ⟨m, hm, hn⟩ := suf_len K (A + 2 ^ K) ha2 (fun y g1 g2 => hS y (by omega) (by omega))
        have hl : NrmB S K A [] := NrmB.none (fun x g1 g2 => Bool.eq_false_iff.2 fun e => by have := (hS x (by omega) (by omega)).1 e; omega)
        exact ⟨_, NrmB.join ha hl hm, Nat.le_trans (join_len _ _ _ _) (by simp only [List.length_nil]; omega)⟩
      · obtain ⟨l, hl, hn⟩ := suf_len K A ha1 (fun y g1 g2 => hS y g1 (by omega))
        have hm : NrmB S K (A + 2 ^ K) [(A + 2 ^ K, K)] := NrmB.whole ha2 (fun x g1 g2 => (hS x (by omega) (by omega)).2 (by omega))
        have hK : 1 ≤ K := Nat.pos_of_ne_zero fun e => by subst e; simp at h2 h3; omega
        exact ⟨_, NrmB.join ha hl hm, Nat.le_trans (join_len _ _ _ _) (by simp only [List.length_singleton]; omega)⟩
/-- an interval in a block -/
theorem mid_len {S : Nat → Bool} {f h : Nat} : ∀ (K A : Nat), A % 2 ^ K = 0 → (∀ y, A ≤ y → y < A + 2 ^ K → (S y = true ↔ f ≤ y ∧ y < h)) → ∃ l, NrmB S K A l ∧ l.length ≤ max 1 (2 * (K - 1))
  | 0, A, ha, hS => by
    have hp := pow_pos' 0
    by_cases hs : S A = true
    · exact ⟨_, NrmB.whole ha (fun x g1 g2 => by simp at g2; rw [show x = A by omega]; exact hs), by simp⟩
    · exact ⟨_, NrmB.none (fun x g1 g2 => by simp at g2; rw [show x = A by omega]; exact Bool.eq_false_iff.2 hs), by simp⟩
  | K + 1, A, ha, hS => by
    have e2 : 2 ^ (K + 1) = 2 ^ K + 2 ^ K := by rw [Nat.pow_succ]; omega
    have hp := pow_pos' K
    have ha1 : A % 2 ^ K = 0 := mod_of_le (Nat.le_succ K) ha
    have ha2 : (A + 2 ^ K) % 2 ^ K = 0 := by rw [Nat.add_mod_right]; exact ha1
    by_cases h1 : f ≤ A
    · obtain ⟨l, hl, hn⟩ := pre_len (S := S) (h := h) (K + 1) A ha (fun y g1 g2 => by rw [hS y g1 g2]; exact ⟨fun g => g.2, fun g => ⟨by omega, g⟩⟩)
      exact ⟨l, hl, by omega⟩
    by_cases h2 : A + 2 ^ (K + 1) ≤ h
    · obtain ⟨l, hl, hn⟩ := suf_len (S := S) (f := f) (K + 1) A ha (fun y g1 g2 => by rw [hS y g1 g2]; exact ⟨fun g => g.1, fun g => ⟨g, by omega⟩⟩)
      exact ⟨l, hl, by omega⟩
    by_cases h3 : h ≤ A + 2 ^ K
    · obtain ⟨l, hl, hn⟩ := mid_len K A ha1 (fun y g1 g2 => hS y g1 (by omega))
      have hm : NrmB S K (A + 2 ^ K) [] := NrmB.none (fun x g1 g2 => Bool.eq_false_iff.2 fun e => by have := (hS x (by omega) (by omega)).1 e; omega)
      exact ⟨_, NrmB.join ha hl hm, Nat.le_trans (join_len _ _ _ _) (by simp only [List.length_nil]; omega)⟩
    by_cases h4 : A + 2 ^ K ≤ f
    · obtain ⟨m, hm, hn⟩ := mid_len K (A + 2 ^ K) ha2 (fun y g1 g2 => hS y (by omega) (by omega))
      have hl : NrmB S K A [] := NrmB.none (fun x g1 g2 => Bool.eq_false_iff.2 fun e => by have := (hS x (by omega) (by omega)).1 e; omega)
      exact ⟨_, NrmB.join ha hl hm, Nat.le_trans (join_len _ _ _ _) (by simp only [List.length_nil]; omega)⟩
    obtain ⟨l, hl, hn⟩ := suf_len (S := S) (f := f) K A ha1 (fun y g1 g2 => by rw [hS y g1 (by omega)]; exact ⟨fun g => g.1, fun g => ⟨g, by omega⟩⟩)
    obtain ⟨m, hm, hn2⟩ := pre_len (S := S) (h := h) K (A + 2 ^ K) ha2 (fun y g1 g2 => by rw [hS y (by omega) (by omega)]; exact ⟨fun g => g.2, fun g => ⟨by omega, g⟩⟩)
    have hK : 1 ≤ K := Nat.pos_of_ne_zero fun e => by subst e; simp at h2 h4; omega
    exact ⟨_, NrmB.join ha hl hm, Nat.le_trans (join_len _ _ _ _) (by omega)⟩
/-- the list of an interval has at most 62 blocks -/
theorem range_len {S : Nat → Bool} {f h : Nat} {l : List (Nat × Nat)} (hl : Nrm S l) (hh : h ≤ 4294967296) (hS : ∀ y, S y = true ↔ f ≤ y ∧ y < h) : l.length ≤ 62 := by
  obtain ⟨m, hm, hn⟩ := mid_len (S := S) (f := f) (h := h) 32 0 (Nat.zero_mod _) (fun y _ _ => hS y)
  rw [hl.unique (hm.root fun y hy => by have := (hS y).1 hy; omega)]
  omega
end Go.Proofs.Ytegponbmelgngaa.CM
end

section
namespace Go.Proofs.Ytegponbmelgngaa.CM
set_option linter.unusedSimpArgs false
set_option linter.unusedVariables false

/-- the order of prefixes: by address, the larger block first -/
def ltB (x y : Nat × Nat) : Prop := x.1 < y.1 ∨ (x.1 = y.1 ∧ y.2 < x.2)
/-- the blocks of a list lie in a block, and say what the set is there -/
structure Lies (S : Nat → Bool) (l : List (Nat × Nat)) (A K : Nat) : Prop where
  asc : l.Pairwise ltB
  al : ∀ x ∈ l, x.1 % 2 ^ x.2 = 0
  wi : ∀ x ∈ l, A ≤ x.1 ∧ x.1 + 2 ^ x.2 ≤ A + 2 ^ K
  set : ∀ y, A ≤ y → y < A + 2 ^ K → (S y = true ↔ ∃ x ∈ l, inB x y)
/-- what the walk knows of a list at a block: it is empty, or its first block holds all, or all its blocks are smaller -/
inductive Inv (S : Nat → Bool) (l : List (Nat × Nat)) (A K : Nat) : Prop where
  | none (h : l = []) (hs : ∀ y, A ≤ y → y < A + 2 ^ K → S y = false)
  | whole (x : Nat × Nat) (r : List (Nat × Nat)) (h : l = x :: r) (hx : x.1 % 2 ^ x.2 = 0) (h1 : x.1 ≤ A) (h2 : A + 2 ^ K ≤ x.1 + 2 ^ x.2) (hs : full S A K)
  | parts (h : l ≠ []) (hl : Lies S l A K) (hk : ∀ x ∈ l, x.2 < K)
theorem Lies.size {S : Nat → Bool} {l : List (Nat × Nat)} {A K : Nat} (h : Lies S l A K) : ∀ x ∈ l, x.2 ≤ K := fun x hx => Nat.le_of_not_lt fun hlt => by
  have := h.wi x hx
  have h1 := pow_le' (show K + 1 ≤ x.2 by omega)
  have h2 : 2 ^ (K + 1) = 2 ^ K + 2 ^ K := by rw [Nat.pow_succ]; omega
  have := pow_pos' K
  omega
theorem Lies.inv {S : Nat → Bool} {l : List (Nat × Nat)} {A K : Nat} (ha : A % 2 ^ K = 0) (h : Lies S l A K) : Inv S l A K := by
  cases l with
  | nil => exact .none rfl fun y h1 h2 => Bool.eq_false_iff.2 fun e => by obtain ⟨x, hx, _⟩ := (h.set y h1 h2).1 e; cases hx
  | cons x r =>
    have hsz := h.size
    have hw := h.wi x (by simp)
    by_cases e : x.2 = K
    · have ex : x.1 = A := by rw [e] at hw; omega
      exact .whole x r rfl (h.al x (by simp)) (by omega) (by rw [ex, e]; exact Nat.le_refl _) (fun y h1 h2 => (h.set y h1 h2).2 ⟨x, by simp, by rw [inB, ex, e]; exact ⟨h1, h2⟩⟩)
    · refine .parts (List.cons_ne_nil _ _) h fun y hy => ?_
      have hyK := hsz y hy
      rcases List.mem_cons.1 hy with rfl | hy'
      · omega
      · refine Nat.lt_of_le_of_ne hyK fun e2 => ?_
        have hlt := (List.pairwise_cons.1 h.asc).1 y hy'
        have hwy := h.wi y hy
        rw [e2] at hwy
        have hxK := hsz x (by simp)
        unfold ltB at hlt
        omega
/-- a list that is empty or whose first block holds all says the same of the halves -/
theorem Inv.low {S : Nat → Bool} {l : List (Nat × Nat)} {A K : Nat} (h : Inv S l A (K + 1)) (hu : l = [] ∨ ∃ x r, l = x :: r ∧ K + 1 ≤ x.2) : Inv S l A K ∧ Inv S l (A + 2 ^ K) K := by
  have e2 : 2 ^ (K + 1) = 2 ^ K + 2 ^ K := by rw [Nat.pow_succ]; omega
  have hp := pow_pos' K
  cases h with
  | none h hs => exact ⟨.none h fun y h1 h2 => hs y h1 (by omega), .none h fun y h1 h2 => hs y (by omega) (by omega)⟩
  | whole x r h hx h1 h2 hs => exact ⟨.whole x r h hx h1 (by omega) (hs.sub (Nat.le_refl _) (by omega)), .whole x r h hx (by omega) (by omega) (hs.sub (by omega) (by omega))⟩
  | parts h hl hk =>
    rcases hu with rfl | ⟨x, r, rfl, hx⟩
    · exact absurd rfl h
    · have := hk x (by simp); omega
/-- a list of smaller blocks parts at the upper half -/
theorem Lies.split {S : Nat → Bool} {l m : List (Nat × Nat)} {A K : Nat} (ha : A % 2 ^ (K + 1) = 0) (h : Lies S (l ++ m) A (K + 1)) (hk : ∀ x ∈ l ++ m, x.2 < K + 1)
    (hl : ∀ x ∈ l, ltB x (A + 2 ^ K, K)) (hm : ∀ x ∈ m, ¬ ltB x (A + 2 ^ K, K)) : Inv S l A K ∧ Inv S m (A + 2 ^ K) K := by
  have e2 : 2 ^ (K + 1) = 2 ^ K + 2 ^ K := by rw [Nat.pow_succ]; omega
  have hp := pow_pos' K
  have ha1 : A % 2 ^ K = 0 := mod_of_le (Nat.le_succ K) ha
  have ha2 : (A + 2 ^ K) % 2 ^ K = 0 := by rw [Nat.add_mod_right]; exact ha1
  obtain ⟨p1, p2, p3⟩ := List.pairwise_append.1 h.asc
  -- a block below the upper half lies in the lower one
  have hlo : ∀ x ∈ l, x.1 + 2 ^ x.2 ≤ A + 2 ^ K := by
    intro x hx
    have hw := h.wi x (by simp [hx])
    have hkx := hk x (by simp [hx])
    have hpx := pow_pos' x.2
    have hlt : x.1 < A + 2 ^ K := by
      have := hl x hx
      unfold ltB at this
      dsimp only at this
      omega
    exact (nest (x := x.1) ha1 (h.al x (by simp [hx])) (by omega) hw.1 hlt (Nat.le_refl _) (by omega)).2
  have hhi : ∀ x ∈ m, A + 2 ^ K ≤ x.1 := by
    intro x hx
    have := hm x hx
    have hkx := hk x (by simp [hx])
    unfold ltB at this
    dsimp only at this
    omega
  refine ⟨Lies.inv ha1 ⟨p1, fun x hx => h.al x (by simp [hx]), fun x hx => ⟨(h.wi x (by simp [hx])).1, hlo x hx⟩, fun y h1 h2 => ?_⟩, Lies.inv ha2 ⟨p2, fun x hx => h.al x (by simp [hx]), fun x hx => ⟨hhi x hx, by have := (h.wi x (by simp [hx])).2; omega⟩, fun y h1 h2 => ?_⟩⟩
  · rw [h.set y h1 (by omega)]
    constructor
    · rintro ⟨x, hx, hy⟩
      rcases List.mem_append.1 hx with hx | hx
      · exact ⟨x, hx, hy⟩
      · have := hhi x hx; have := hy.1; omega
    · rintro ⟨x, hx, hy⟩; exact ⟨x, List.mem_append_left _ hx, hy⟩
  · rw [h.set y (by omega) (by omega)]
    constructor
    · rintro ⟨x, hx, hy⟩
      rcases List.mem_append.1 hx with hx | hx
      · have := hlo x hx; have := hy.2; omega
      · exact ⟨x, hx, hy⟩
    · rintro ⟨x, hx, hy⟩; exact ⟨x, List.mem_append_right _ hx, hy⟩
end Go.Proofs.Ytegponbmelgngaa.CM
end

section
namespace Go.Proofs.Ytegponbmelgngaa.AG
open CM
set_option linter.unusedSimpArgs false
set_option linter.unusedVariables false

/-- an entry: a block and a value -/
abbrev Be := (Nat × Nat) × Int
def inb (x : Nat × Nat) (y : Nat) : Bool := decide (x.1 ≤ y ∧ y < x.1 + 2 ^ x.2)
theorem inb_iff {x : Nat × Nat} {y : Nat} : inb x y = true ↔ x.1 ≤ y ∧ y < x.1 + 2 ^ x.2 := by unfold inb; simp
theorem inb_no {x : Nat × Nat} {y : Nat} (h : ¬ (x.1 ≤ y ∧ y < x.1 + 2 ^ x.2)) : inb x y = false := by unfold inb; simpa using h
/-- the lookup of y, if v is the value above -/
def lk (y : Nat) (v : Int) (t : List Be) : Int := t.foldl (fun acc e => if inb e.1 y then e.2 else acc) v
theorem lk_nil (y : Nat) (v : Int) : lk y v [] = v := rfl
theorem lk_cons (y : Nat) (v : Int) (e : Be) (t : List Be) : lk y v (e :: t) = lk y (if inb e.1 y then e.2 else v) t := rfl
theorem lk_app (y : Nat) (v : Int) (s t : List Be) : lk y v (s ++ t) = lk y (lk y v s) t := by unfold lk; rw [List.foldl_append]
theorem lk_none {y : Nat} {t : List Be} (h : ∀ e ∈ t, inb e.1 y = false) (v : Int) : lk y v t = v := by
  induction t generalizing v with
  | nil => rfl
  | cons e r ih =>
    rw [lk_cons, h e (by simp)]
    exact ih (fun x hx => h x (List.mem_cons_of_mem _ hx)) v
/-- the lookup is the value above or that of an entry -/
theorem lk_mem (y : Nat) : ∀ (t : List Be) (v : Int), lk y v t = v ∨ ∃ e ∈ t, lk y v t = e.2
  | [], v => .inl rfl
  | e :: r, v => by
    rw [lk_cons]
    rcases lk_mem y r (if inb e.1 y then e.2 else v) with h | ⟨x, hx, h⟩
    · split at h
      · rename_i hb; exact .inr ⟨e, by simp, by rw [if_pos hb]; exact h⟩
      · rename_i hb; exact .inl (by rw [if_neg hb]; exact h)
    · exact .inr ⟨x, List.mem_cons_of_mem _ hx, h⟩

/-- entries of one block -/
structure Frag (A K : Nat) (t : List Be) : Prop where
  asc : t.Pairwise (fun x y => ltB x.1 y.1)
  al : ∀ e ∈ t, e.1.1 % 2 ^ e.1.2 = 0
  wi : ∀ e ∈ t, A ≤ e.1.1 ∧ e.1.1 + 2 ^ e.1.2 ≤ A + 2 ^ K
theorem Frag.nil (A K : Nat) : Frag A K [] := ⟨List.Pairwise.nil, (fun e h => by cases h), (fun e h => by cases h)⟩
theorem Frag.size {A K : Nat} {t : List Be} (h : Frag A K t) : ∀ e ∈ t, e.1.2 ≤ K := fun x hx => Nat.le_of_not_lt fun hlt => by
  have := h.wi x hx
  have h1 := pow_le' (show K + 1 ≤ x.1.2 by omega)
  have h2 : 2 ^ (K + 1) = 2 ^ K + 2 ^ K := by rw [Nat.pow_succ]; omega
  have := pow_pos' K
  omega
theorem Frag.tail {A K : Nat} {e : Be} {t : List Be} (h : Frag A K (e :: t)) : Frag A K t :=
  ⟨(List.pairwise_cons.1 h.asc).2, fun x hx => h.al x (List.mem_cons_of_mem _ hx), fun x hx => h.wi x (List.mem_cons_of_mem _ hx)⟩
/-- the value of the block's own entry, and the other entries -/
def root (A K : Nat) : List Be → Option Int × List Be
  | [] => (none, [])
  | e :: r => if e.1 = (A, K) then (some e.2, r) else (none, e :: r)
theorem root_or {A K : Nat} (t : List Be) : (∃ v r, t = ((A, K), v) :: r ∧ root A K t = (some v, r)) ∨ (root A K t = (none, t) ∧ ∀ e, t.head? = some e → e.1 ≠ (A, K)) := by
  cases t with
  | nil => exact .inr ⟨rfl, fun e h => by cases h⟩
  | cons e r =>
    by_cases h : e.1 = (A, K)
    · exact .inl ⟨e.2, r, by rw [← h], by show (if e.1 = (A, K) then _ else _) = _; rw [if_pos h]⟩
    · exact .inr ⟨by show (if e.1 = (A, K) then _ else _) = _; rw [if_neg h], fun x hx => by cases hx; exact h⟩
/-- behind the block's own entry all are smaller -/
theorem Frag.small_tail {A K : Nat} {v : Int} {r : List Be} (h : Frag A K (((A, K), v) :: r)) : ∀ e ∈ r, e.1.2 < K := fun e he => by
  have h1 := (List.pairwise_cons.1 h.asc).1 e he
  have h2 := h.tail.size e he
  have h3 := h.tail.wi e he
  rcases Nat.lt_or_ge e.1.2 K with h4 | h4
  · exact h4
  · have e2 : e.1.2 = K := by omega
    rw [e2] at h3
    unfold ltB at h1
    dsimp only at h1
    omega
theorem Frag.small_none {A K : Nat} {t : List Be} (h : Frag A K t) (hn : ∀ e, t.head? = some e → e.1 ≠ (A, K)) : ∀ e ∈ t, e.1.2 < K := fun e he => by
  have h2 := h.size e he
  have h3 := h.wi e he
  rcases Nat.lt_or_ge e.1.2 K with h4 | h4
  · exact h4
  · have e2 : e.1.2 = K := by omega
    have e1 : e.1.1 = A := by rw [e2] at h3; omega
    have ee : e.1 = (A, K) := Prod.ext e1 e2
    cases t with
    | nil => cases he
    | cons x r =>
      rcases List.mem_cons.1 he with rfl | he
      · exact absurd ee (hn _ rfl)
      · have h5 := (List.pairwise_cons.1 h.asc).1 e he
        have h6 := h.size x (by simp)
        have h7 := h.wi x (by simp)
        rw [ee] at h5
        unfold ltB at h5
        dsimp only at h5
        omega
/-- the entries of both halves -/
def lowT (M : Nat) (t : List Be) : List Be := t.filter (fun e => decide (e.1.1 < M))
def highT (M : Nat) (t : List Be) : List Be := t.filter (fun e => !decide (e.1.1 < M))
theorem split_eq (M : Nat) : ∀ {t : List Be}, t.Pairwise (fun x y => ltB x.1 y.1) → t = lowT M t ++ highT M t
  | [], _ => rfl
  | e :: r, h => by
    obtain ⟨h1, h2⟩ := List.pairwise_cons.1 h
    have ih := split_eq M h2
    by_cases he : e.1.1 < M
    · have e1 : lowT M (e :: r) = e :: lowT M r := by unfold lowT; rw [List.filter_cons, if_pos (by simpa using he)]
      have e2 : highT M (e :: r) = highT M r := by unfold highT; rw [List.filter_cons, if_neg (by simpa using he)]
      rw [e1, e2, List.cons_append, ← ih]
    · have hr : lowT M r = [] := by
        unfold lowT
        rw [List.filter_eq_nil_iff]
        intro x hx
        have := h1 x hx
        unfold ltB at this
        simp; omega
      have e1 : lowT M (e :: r) = [] := by unfold lowT at hr ⊢; rw [List.filter_cons, if_neg (by simpa using he)]; exact hr
      have e2 : highT M (e :: r) = e :: highT M r := by unfold highT; rw [List.filter_cons, if_pos (by simpa using he)]
      rw [e1, e2, List.nil_append]
      rw [hr, List.nil_append] at ih
      rw [← ih]
theorem Frag.low {A K : Nat} {t : List Be} (ha : A % 2 ^ (K + 1) = 0) (h : Frag A (K + 1) t) (hs : ∀ e ∈ t, e.1.2 < K + 1) : Frag A K (lowT (A + 2 ^ K) t) :=
  ⟨h.asc.sublist List.filter_sublist, fun e he => h.al e (List.mem_filter.1 he).1, fun e he => by
    obtain ⟨he, hl⟩ := List.mem_filter.1 he
    have hl : e.1.1 < A + 2 ^ K := by simpa using hl
    have hw := h.wi e he
    exact nest (mod_of_le (Nat.le_succ K) ha) (h.al e he) (by have := hs e he; omega) hw.1 hl (Nat.le_refl _) (by have := pow_pos' e.1.2; omega)⟩
theorem Frag.high {A K : Nat} {t : List Be} (h : Frag A (K + 1) t) : Frag (A + 2 ^ K) K (highT (A + 2 ^ K) t) :=
  ⟨h.asc.sublist List.filter_sublist, fun e he => h.al e (List.mem_filter.1 he).1, fun e he => by
    obtain ⟨he, hl⟩ := List.mem_filter.1 he
    have hl : ¬ e.1.1 < A + 2 ^ K := by simpa using hl
    have hw := h.wi e he
    have : 2 ^ (K + 1) = 2 ^ K + 2 ^ K := by rw [Nat.pow_succ]; omega
    omega⟩
theorem Frag.out_low {A K : Nat} {t : List Be} (h : Frag A K t) {y : Nat} (hy : ¬ (A ≤ y ∧ y < A + 2 ^ K)) : ∀ e ∈ t, inb e.1 y = false := fun e he => inb_no fun hi => by
  have := h.wi e he
  omega

/-- the values that are in both lists; those in either one, if there are none -/
def shared (a b : List Int) : List Int := if a.filter (fun v => b.contains v) = [] then a ++ b else a.filter (fun v => b.contains v)
theorem shared_both {a b : List Int} (h : ∃ v, v ∈ a ∧ v ∈ b) (v : Int) : v ∈ shared a b ↔ v ∈ a ∧ v ∈ b := by
  obtain ⟨x, h1, h2⟩ := h
  unfold shared
  rw [if_neg (fun e => by have : x ∈ a.filter (fun v => b.contains v) := List.mem_filter.2 ⟨h1, by simpa using h2⟩; rw [e] at this; cases this), List.mem_filter]
  simp
theorem shared_either {a b : List Int} (h : ¬ ∃ v, v ∈ a ∧ v ∈ b) (v : Int) : v ∈ shared a b ↔ v ∈ a ∨ v ∈ b := by
  unfold shared
  rw [if_pos (List.filter_eq_nil_iff.2 fun x hx hb => h ⟨x, hx, by simpa using hb⟩), List.mem_append]

/-- a region: its block, the best values, and its halves if the table has longer prefixes there -/
inductive RT where
  | leaf (A K : Nat) (b : Int) : RT
  | node (A K : Nat) (b : List Int) (l r : RT) : RT
def RT.best : RT → List Int
  | .leaf _ _ b => [b]
  | .node _ _ b _ _ => b
/-- how many entries are needed below the best values -/
def RT.cost : RT → Nat
  | .leaf _ _ _ => 0
  | .node _ _ _ l r => l.cost + r.cost + (if l.best.any (fun v => r.best.contains v) then 0 else 1)
/-- the region of a block in a table -/
def reg : Nat → Nat → List Be → Int → RT
  | 0, A, t, v => .leaf A 0 ((root A 0 t).1.getD v)
  | K + 1, A, t, v =>
    if (root A (K + 1) t).2 = [] then .leaf A (K + 1) ((root A (K + 1) t).1.getD v)
    else .node A (K + 1) (shared (reg K A (lowT (A + 2 ^ K) (root A (K + 1) t).2) ((root A (K + 1) t).1.getD v)).best (reg K (A + 2 ^ K) (highT (A + 2 ^ K) (root A (K + 1) t).2) ((root A (K + 1) t).1.getD v)).best)
      (reg K A (lowT (A + 2 ^ K) (root A (K + 1) t).2) ((root A (K + 1) t).1.getD v)) (reg K (A + 2 ^ K) (highT (A + 2 ^ K) (root A (K + 1) t).2) ((root A (K + 1) t).1.getD v))
/-- the lookups of a block -/
def Agree (A K : Nat) (s : List Be) (u : Int) (t : List Be) (v : Int) : Prop := ∀ y, A ≤ y → y < A + 2 ^ K → lk y u s = lk y v t
theorem Agree.root_left {A K : Nat} {s : List Be} {u : Int} {t : List Be} {v : Int} : Agree A K s u t v ↔ Agree A K (root A K s).2 ((root A K s).1.getD u) t v := by
  rcases root_or (A := A) (K := K) s with ⟨x, r, e, h⟩ | ⟨h, _⟩
  · rw [h]
    constructor
    · intro g y h1 h2
      have := g y h1 h2
      rw [e, lk_cons, if_pos (inb_iff.2 ⟨h1, h2⟩)] at this
      exact this
    · intro g y h1 h2
      have := g y h1 h2
      rw [e, lk_cons, if_pos (inb_iff.2 ⟨h1, h2⟩)]
      exact this
  · rw [h]; rfl
theorem Agree.symm {A K : Nat} {s : List Be} {u : Int} {t : List Be} {v : Int} (h : Agree A K s u t v) : Agree A K t v s u := fun y h1 h2 => (h y h1 h2).symm
/-- the block's own entry is taken away on both sides -/
theorem Agree.roots {A K : Nat} {s : List Be} {u : Int} {t : List Be} {v : Int} : Agree A K s u t v ↔ Agree A K (root A K s).2 ((root A K s).1.getD u) (root A K t).2 ((root A K t).1.getD v) := by
  rw [Agree.root_left]
  constructor
  · exact fun h => (Agree.root_left.1 h.symm).symm
  · exact fun h => (Agree.root_left.2 h.symm).symm
theorem root_frag {A K : Nat} {t : List Be} (h : Frag A K t) : Frag A K (root A K t).2 ∧ (∀ e ∈ (root A K t).2, e.1.2 < K) ∧ t.length = (root A K t).2.length + (if (root A K t).1.isSome then 1 else 0) := by
  rcases root_or (A := A) (K := K) t with ⟨x, r, e, hr⟩ | ⟨hr, hn⟩
  · rw [hr]
    subst e
    exact ⟨h.tail, h.small_tail, by simp⟩
  · rw [hr]
    exact ⟨h, h.small_none hn, by simp⟩
theorem lk_low {A K : Nat} {t : List Be} (ha : A % 2 ^ (K + 1) = 0) (h : Frag A (K + 1) t) (v : Int) {y : Nat} (hy : y < A + 2 ^ K) : lk y v t = lk y v (lowT (A + 2 ^ K) t) := by
  conv => lhs; rw [split_eq (A + 2 ^ K) h.asc]
  rw [lk_app, lk_none (h.high.out_low (by omega))]
theorem lk_high {A K : Nat} {t : List Be} (ha : A % 2 ^ (K + 1) = 0) (h : Frag A (K + 1) t) (hs : ∀ e ∈ t, e.1.2 < K + 1) (v : Int) {y : Nat} (hy : A + 2 ^ K ≤ y) : lk y v t = lk y v (highT (A + 2 ^ K) t) := by
  conv => lhs; rw [split_eq (A + 2 ^ K) h.asc]
  rw [lk_app, lk_none ((h.low ha hs).out_low (by omega))]
/-- agreement, half by half -/
theorem Agree.halves {A K : Nat} {s : List Be} {u : Int} {t : List Be} {v : Int} (ha : A % 2 ^ (K + 1) = 0) (hs : Frag A (K + 1) s) (ss : ∀ e ∈ s, e.1.2 < K + 1) (ht : Frag A (K + 1) t) (st : ∀ e ∈ t, e.1.2 < K + 1) :
    Agree A (K + 1) s u t v ↔ Agree A K (lowT (A + 2 ^ K) s) u (lowT (A + 2 ^ K) t) v ∧ Agree (A + 2 ^ K) K (highT (A + 2 ^ K) s) u (highT (A + 2 ^ K) t) v := by
  have hp : 2 ^ (K + 1) = 2 ^ K + 2 ^ K := by rw [Nat.pow_succ]; omega
  constructor
  · intro h
    refine ⟨fun y h1 h2 => ?_, fun y h1 h2 => ?_⟩
    · have := h y h1 (by omega)
      rwa [lk_low ha hs u h2, lk_low ha ht v h2] at this
    · have := h y (by omega) (by omega)
      rwa [lk_high ha hs ss u h1, lk_high ha ht st v h1] at this
  · rintro ⟨h, g⟩ y h1 h2
    rcases Nat.lt_or_ge y (A + 2 ^ K) with h3 | h3
    · rw [lk_low ha hs u h3, lk_low ha ht v h3]; exact h y h1 h3
    · rw [lk_high ha hs ss u h3, lk_high ha ht st v h3]; exact g y h3 (by omega)
theorem high_al {A K : Nat} (ha : A % 2 ^ (K + 1) = 0) : (A + 2 ^ K) % 2 ^ K = 0 := by
  rw [Nat.add_mod_right]; exact mod_of_le (Nat.le_succ K) ha
theorem split_len (M : Nat) {t : List Be} (h : t.Pairwise (fun x y => ltB x.1 y.1)) : t.length = (lowT M t).length + (highT M t).length := by
  conv => lhs; rw [split_eq M h]
  rw [List.length_append]
/-- what is needed with the value v above -/
def RT.need (r : RT) (v : Int) : Nat := r.cost + if v ∈ r.best then 0 else 1
theorem any_both {a b : List Int} : (a.any (fun v => b.contains v)) = true ↔ ∃ v, v ∈ a ∧ v ∈ b := by
  rw [List.any_eq_true]
  constructor
  · rintro ⟨v, h1, h2⟩; exact ⟨v, h1, by simpa using h2⟩
  · rintro ⟨v, h1, h2⟩; exact ⟨v, h1, by simpa using h2⟩
/-- NO TABLE HAS FEWER ENTRIES: whatever entries a block has, with the value u above, that have the lookups of the table -/
theorem least : ∀ (K A : Nat) (t : List Be) (v : Int) (s : List Be) (u : Int), A % 2 ^ K = 0 → Frag A K t → Frag A K s → Agree A K s u t v → (reg K A t v).need u ≤ s.length
  | 0, A, t, v, s, u, ha, ht, hs, hg => by
    have hp := pow_pos' 0
    have h0 := hg A (Nat.le_refl _) (by omega)
    have hlf := Agree.roots.1 hg A (Nat.le_refl _) (by omega)
    have hr : (root A 0 t).2 = [] := by
      have := (root_frag ht).2.1
      cases e : (root A 0 t).2 with
      | nil => rfl
      | cons x r => have := this x (by rw [e]; simp); omega
    rw [hr, lk_nil] at hlf
    unfold RT.need reg RT.cost RT.best
    by_cases hu : u = (root A 0 t).1.getD v
    · rw [if_pos (by rw [hu]; simp)]; omega
    · rw [if_neg (by simpa using hu)]
      cases s with
      | nil => exact absurd hlf hu
      | cons x r => simp
  | K + 1, A, t, v, s, u, ha, ht, hs, hg => by
    have hp : 2 ^ (K + 1) = 2 ^ K + 2 ^ K := by rw [Nat.pow_succ]; omega
    have hp0 := pow_pos' K
    have hro := Agree.roots.1 hg
    obtain ⟨ht1, ht2, ht3⟩ := root_frag ht
    obtain ⟨hs1, hs2, hs3⟩ := root_frag hs
    unfold reg
    split
    · rename_i hnil
      have hlf := hro A (Nat.le_refl _) (by omega)
      rw [hnil, lk_nil] at hlf
      unfold RT.need RT.cost RT.best
      by_cases hu : u = (root A (K + 1) t).1.getD v
      · rw [if_pos (by rw [hu]; simp)]; omega
      · rw [if_neg (by simpa using hu)]
        cases s with
        | nil => exact absurd hlf hu
        | cons x r => simp
    · obtain ⟨hg1, hg2⟩ := (Agree.halves ha hs1 hs2 ht1 ht2).1 hro
      have ih1 := least K A _ _ _ _ (mod_of_le (Nat.le_succ K) ha) (ht1.low ha ht2) (hs1.low ha hs2) hg1
      have ih2 := least K (A + 2 ^ K) _ _ _ _ (high_al ha) ht1.high hs1.high hg2
      have hsl := split_len (A + 2 ^ K) hs1.asc
      generalize reg K A (lowT (A + 2 ^ K) (root A (K + 1) t).2) ((root A (K + 1) t).1.getD v) = rl at *
      generalize reg K (A + 2 ^ K) (highT (A + 2 ^ K) (root A (K + 1) t).2) ((root A (K + 1) t).1.getD v) = rr at *
      generalize hus : (root A (K + 1) s).1.getD u = us at *
      unfold RT.need at ih1 ih2 ⊢
      unfold RT.cost
      have hbest : (RT.node A (K + 1) (shared rl.best rr.best) rl rr).best = shared rl.best rr.best := rfl
      rw [hbest]
      by_cases hb : ∃ x, x ∈ rl.best ∧ x ∈ rr.best
      · rw [if_pos (any_both.2 hb)]
        simp only [shared_both hb]
        cases ho : (root A (K + 1) s).1 with
        | some x =>
          rw [ho] at hs3
          simp at hs3
          split <;> omega
        | none =>
          rw [ho] at hs3 hus
          simp at hs3 hus
          subst hus
          by_cases h1 : u ∈ rl.best <;> by_cases h2 : u ∈ rr.best <;> simp only [h1, h2, if_true, if_false, and_self, and_true, true_and, and_false, false_and] at ih1 ih2 ⊢ <;> omega
      · rw [if_neg (fun h => hb (any_both.1 h))]
        simp only [shared_either hb]
        have hne : ¬ (us ∈ rl.best ∧ us ∈ rr.best) := fun h => hb ⟨us, h⟩
        cases ho : (root A (K + 1) s).1 with
        | some x =>
          rw [ho] at hs3
          simp at hs3
          by_cases h1 : us ∈ rl.best <;> by_cases h2 : us ∈ rr.best
          · exact absurd ⟨h1, h2⟩ hne
          all_goals
            simp only [h1, h2, if_true, if_false] at ih1 ih2
            split <;> omega
        | none =>
          rw [ho] at hs3 hus
          simp at hs3 hus
          subst hus
          by_cases h1 : u ∈ rl.best <;> by_cases h2 : u ∈ rr.best
          · exact absurd ⟨h1, h2⟩ hne
          all_goals
            simp only [h1, h2, if_true, if_false, or_false, or_true, true_or, false_or] at ih1 ih2 ⊢
            omega
end Go.Proofs.Ytegponbmelgngaa.AG
end

section
namespace Go.Proofs.Ytegponbmelgngaa.AG
open CM
set_option linter.unusedSimpArgs false
set_option linter.unusedVariables false

/-- the least value -/
def minV (b : List Int) : Int := b.min?.getD 0
theorem minV_spec {b : List Int} (h : b ≠ []) : minV b ∈ b ∧ ∀ x ∈ b, minV b ≤ x := by
  unfold minV
  cases hm : b.min? with
  | none => rw [List.min?_eq_none_iff] at hm; exact absurd hm h
  | some m =>
    rw [List.min?_eq_some_iff] at hm
    exact hm
theorem minV_mem {b : List Int} (h : b ≠ []) : minV b ∈ b := (minV_spec h).1
theorem minV_congr {a b : List Int} (ha : a ≠ []) (h : ∀ v, v ∈ a ↔ v ∈ b) : minV a = minV b := by
  have hb : b ≠ [] := fun e => by have := (h _).1 (minV_mem ha); rw [e] at this; cases this
  have h1 := (minV_spec ha).2 _ ((h _).2 (minV_mem hb))
  have h2 := (minV_spec hb).2 _ ((h _).1 (minV_mem ha))
  omega
/-- the entries that keep the lookups of a region, if the value above is v -/
def out : RT → Int → List Be
  | .leaf A K b, v => if v = b then [] else [((A, K), b)]
  | .node A K b l r, v => if v ∈ b then out l v ++ out r v else ((A, K), minV b) :: (out l (minV b) ++ out r (minV b))
theorem frag_app {A K : Nat} {a b : List Be} (ha : Frag A K a) (hb : Frag (A + 2 ^ K) K b) : Frag A (K + 1) (a ++ b) := by
  have hp : 2 ^ (K + 1) = 2 ^ K + 2 ^ K := by rw [Nat.pow_succ]; omega
  refine ⟨List.pairwise_append.2 ⟨ha.asc, hb.asc, fun x hx y hy => ?_⟩, fun e he => ?_, fun e he => ?_⟩
  · have h1 := ha.wi x hx
    have h2 := hb.wi y hy
    have h3 := pow_pos' x.1.2
    left; omega
  · rcases List.mem_append.1 he with h | h
    · exact ha.al e h
    · exact hb.al e h
  · have hp0 := pow_pos' K
    rcases List.mem_append.1 he with h | h
    · have := ha.wi e h; omega
    · have := hb.wi e h; omega
theorem frag_small {A K : Nat} {a b : List Be} (ha : Frag A K a) (hb : Frag (A + 2 ^ K) K b) : ∀ e ∈ a ++ b, e.1.2 < K + 1 := fun e he => by
  rcases List.mem_append.1 he with h | h
  · have := ha.size e h; omega
  · have := hb.size e h; omega
theorem frag_root {A K : Nat} {t : List Be} (h : Frag A K t) (hs : ∀ e ∈ t, e.1.2 < K) (ha : A % 2 ^ K = 0) (v : Int) : Frag A K (((A, K), v) :: t) := by
  refine ⟨List.pairwise_cons.2 ⟨fun e he => ?_, h.asc⟩, fun e he => ?_, fun e he => ?_⟩
  · have h1 := h.wi e he
    have h2 := hs e he
    show A < e.1.1 ∨ (A = e.1.1 ∧ e.1.2 < K)
    omega
  · rcases List.mem_cons.1 he with rfl | he
    · exact ha
    · exact h.al e he
  · rcases List.mem_cons.1 he with rfl | he
    · exact ⟨Nat.le_refl _, Nat.le_refl _⟩
    · exact h.wi e he
theorem root_small {A K : Nat} {t : List Be} (hs : ∀ e ∈ t, e.1.2 < K) : root A K t = (none, t) := by
  rcases root_or (A := A) (K := K) t with ⟨x, r, e, _⟩ | ⟨h, _⟩
  · have := hs ((A, K), x) (by rw [e]; simp)
    exact absurd this (Nat.lt_irrefl _)
  · exact h
theorem root_cons (A K : Nat) (v : Int) (t : List Be) : root A K (((A, K), v) :: t) = (some v, t) := by
  show (if (A, K) = (A, K) then _ else _) = _
  rw [if_pos rfl]
theorem low_app {A K : Nat} {a b : List Be} (ha : Frag A K a) (hb : Frag (A + 2 ^ K) K b) : lowT (A + 2 ^ K) (a ++ b) = a ∧ highT (A + 2 ^ K) (a ++ b) = b := by
  have h1 : ∀ e ∈ a, e.1.1 < A + 2 ^ K := fun e he => by have := ha.wi e he; have := pow_pos' e.1.2; omega
  have h2 : ∀ e ∈ b, ¬ e.1.1 < A + 2 ^ K := fun e he => by have := hb.wi e he; omega
  unfold lowT highT
  rw [List.filter_append, List.filter_append]
  constructor
  · rw [List.filter_eq_self.2 (fun e he => by simpa using h1 e he), List.filter_eq_nil_iff.2 (fun e he => by simpa using h2 e he), List.append_nil]
  · rw [List.filter_eq_nil_iff.2 (fun e he => by simpa using h1 e he), List.filter_eq_self.2 (fun e he => by simpa using h2 e he), List.nil_append]
/-- the values that a table has, and the one above -/
def Val (t : List Be) (v : Int) (x : Int) : Prop := x = v ∨ ∃ e ∈ t, e.2 = x
theorem Val.root {A K : Nat} {t : List Be} {v x : Int} (h : Val (root A K t).2 ((root A K t).1.getD v) x) : Val t v x := by
  rcases root_or (A := A) (K := K) t with ⟨y, r, e, hr⟩ | ⟨hr, _⟩
  · rw [hr] at h
    rcases h with h | ⟨z, hz, h⟩
    · exact .inr ⟨((A, K), y), by rw [e]; simp, h.symm⟩
    · exact .inr ⟨z, by rw [e]; exact List.mem_cons_of_mem _ hz, h⟩
  · rw [hr] at h
    exact h
theorem Val.sub {s t : List Be} {v x : Int} (hs : ∀ e ∈ s, e ∈ t) (h : Val s v x) : Val t v x := by
  rcases h with h | ⟨e, he, h⟩
  · exact .inl h
  · exact .inr ⟨e, hs e he, h⟩
theorem low_sub {M : Nat} {t : List Be} : ∀ e ∈ lowT M t, e ∈ t := fun e he => (List.mem_filter.1 he).1
theorem high_sub {M : Nat} {t : List Be} : ∀ e ∈ highT M t, e ∈ t := fun e he => (List.mem_filter.1 he).1
/-- what the table that is made from a region is -/
structure Made (A K : Nat) (t : List Be) (v : Int) (r : RT) : Prop where
  ne : r.best ≠ []
  val : ∀ x ∈ r.best, Val t v x
  frag : ∀ u, Frag A K (out r u)
  agree : ∀ u, Agree A K (out r u) u t v
  len : ∀ u, (out r u).length = r.need u
  vals : ∀ u, ∀ e ∈ out r u, Val t v e.2
theorem made_leaf {A K : Nat} {t : List Be} {v : Int} (ha : A % 2 ^ K = 0) (ht : Frag A K t) (hn : (root A K t).2 = []) : Made A K t v (.leaf A K ((root A K t).1.getD v)) := by
  have hv : Val t v ((root A K t).1.getD v) := Val.root (A := A) (K := K) (.inl rfl)
  have hagr : ∀ u, Agree A K (out (.leaf A K ((root A K t).1.getD v)) u) u t v := fun u => by
    refine Agree.symm (Agree.root_left.2 ?_)
    rw [hn]
    intro y h1 h2
    rw [lk_nil]
    unfold out
    split
    · rename_i h; rw [lk_nil]; exact h.symm
    · rw [lk_cons, if_pos (inb_iff.2 ⟨h1, h2⟩)]; rfl
  refine ⟨by simp [RT.best], fun x hx => by simp only [RT.best, List.mem_singleton] at hx; rw [hx]; exact hv, fun u => ?_, hagr, fun u => ?_, fun u e he => ?_⟩
  · unfold out
    split
    · exact Frag.nil _ _
    · exact frag_root (Frag.nil _ _) (fun e h => by cases h) ha _
  · unfold out RT.need RT.cost RT.best
    by_cases h : u = (root A K t).1.getD v
    · rw [if_pos h, if_pos (by rw [h]; simp)]; rfl
    · rw [if_neg h, if_neg (by simpa using h)]; rfl
  · unfold out at he
    split at he
    · cases he
    · rw [List.mem_singleton] at he; rw [he]; exact hv
theorem made : ∀ (K A : Nat) (t : List Be) (v : Int), A % 2 ^ K = 0 → Frag A K t → Made A K t v (reg K A t v)
  | 0, A, t, v, ha, ht => by
    have hr : (root A 0 t).2 = [] := by
      have := (root_frag ht).2.1
      cases e : (root A 0 t).2 with
      | nil => rfl
      | cons x r => have := this x (by rw [e]; simp); omega
    exact made_leaf ha ht hr
  | K + 1, A, t, v, ha, ht => by
    unfold reg
    split
    · rename_i hn; exact made_leaf ha ht hn
    · obtain ⟨ht1, ht2, ht3⟩ := root_frag ht
      have ih1 := made K A _ ((root A (K + 1) t).1.getD v) (mod_of_le (Nat.le_succ K) ha) (ht1.low ha ht2)
      have ih2 := made K (A + 2 ^ K) _ ((root A (K + 1) t).1.getD v) (high_al ha) ht1.high
      have hval1 : ∀ x, Val (lowT (A + 2 ^ K) (root A (K + 1) t).2) ((root A (K + 1) t).1.getD v) x → Val t v x := fun x h => (h.sub low_sub).root
      have hval2 : ∀ x, Val (highT (A + 2 ^ K) (root A (K + 1) t).2) ((root A (K + 1) t).1.getD v) x → Val t v x := fun x h => (h.sub high_sub).root
      generalize reg K A (lowT (A + 2 ^ K) (root A (K + 1) t).2) ((root A (K + 1) t).1.getD v) = rl at *
      generalize reg K (A + 2 ^ K) (highT (A + 2 ^ K) (root A (K + 1) t).2) ((root A (K + 1) t).1.getD v) = rr at *
      have hne : shared rl.best rr.best ≠ [] := by
        by_cases hb : ∃ x, x ∈ rl.best ∧ x ∈ rr.best
        · obtain ⟨x, hx⟩ := hb
          exact List.ne_nil_of_mem ((shared_both ⟨x, hx⟩ x).2 hx)
        · exact List.ne_nil_of_mem ((shared_either hb _).2 (.inl (minV_mem ih1.ne)))
      have hbv : ∀ x ∈ shared rl.best rr.best, Val t v x := fun x hx => by
        by_cases hb : ∃ x, x ∈ rl.best ∧ x ∈ rr.best
        · exact hval1 x (ih1.val x ((shared_both hb x).1 hx).1)
        · rcases (shared_either hb x).1 hx with h | h
          · exact hval1 x (ih1.val x h)
          · exact hval2 x (ih2.val x h)
      have hfr : ∀ u, Frag A (K + 1) (out rl u ++ out rr u) := fun u => frag_app (ih1.frag u) (ih2.frag u)
      have hsm : ∀ u, ∀ e ∈ out rl u ++ out rr u, e.1.2 < K + 1 := fun u => frag_small (ih1.frag u) (ih2.frag u)
      have hag : ∀ u, Agree A (K + 1) (out rl u ++ out rr u) u (root A (K + 1) t).2 ((root A (K + 1) t).1.getD v) := fun u => by
        refine (Agree.halves ha (hfr u) (hsm u) ht1 ht2).2 ?_
        obtain ⟨e1, e2⟩ := low_app (ih1.frag u) (ih2.frag u)
        rw [e1, e2]
        exact ⟨ih1.agree u, ih2.agree u⟩
      have hnew : ∀ u, (out rl u ++ out rr u).length = rl.need u + rr.need u := fun u => by rw [List.length_append, ih1.len u, ih2.len u]
      have hin : ∀ u ∈ shared rl.best rr.best, rl.need u + rr.need u = (RT.node A (K + 1) (shared rl.best rr.best) rl rr).cost := fun u hu => by
        unfold RT.need
        show _ = rl.cost + rr.cost + _
        by_cases hb : ∃ x, x ∈ rl.best ∧ x ∈ rr.best
        · have := (shared_both hb u).1 hu
          rw [if_pos this.1, if_pos this.2, if_pos (any_both.2 hb)]; omega
        · rw [if_neg (fun h => hb (any_both.1 h))]
          have hno : ¬ (u ∈ rl.best ∧ u ∈ rr.best) := fun h => hb ⟨u, h⟩
          rcases (shared_either hb u).1 hu with h | h
          · rw [if_pos h, if_neg (fun h2 => hno ⟨h, h2⟩)]; omega
          · rw [if_pos h, if_neg (fun h2 => hno ⟨h2, h⟩)]; omega
      refine ⟨hne, hbv, fun u => ?_, fun u => ?_, fun u => ?_, fun u e he => ?_⟩
      · unfold out
        split
        · exact hfr u
        · exact frag_root (hfr _) (hsm _) ha _
      · refine Agree.roots.2 ?_
        unfold out
        split
        · rw [root_small (hsm u)]; exact hag u
        · rw [root_cons]; exact hag _
      · unfold out
        show _ = (RT.node A (K + 1) (shared rl.best rr.best) rl rr).cost + if u ∈ shared rl.best rr.best then 0 else 1
        by_cases hu : u ∈ shared rl.best rr.best
        · rw [if_pos hu, if_pos hu, hnew, hin u hu]; rfl
        · rw [if_neg hu, if_neg hu, List.length_cons, hnew, hin _ (minV_mem hne)]
      · unfold out at he
        split at he
        · rcases List.mem_append.1 he with h | h
          · exact hval1 _ (ih1.vals _ e h)
          · exact hval2 _ (ih2.vals _ e h)
        · rcases List.mem_cons.1 he with rfl | he
          · exact hbv _ (minV_mem hne)
          · rcases List.mem_append.1 he with h | h
            · exact hval1 _ (ih1.vals _ e h)
            · exact hval2 _ (ih2.vals _ e h)
/-- the least table of a table -/
def minimal (t : List Be) : List Be := out (reg 32 0 t (-1)) (-1)
theorem minimal_frag {t : List Be} (h : Frag 0 32 t) : Frag 0 32 (minimal t) := (made 32 0 t (-1) (Nat.zero_mod _) h).frag _
theorem minimal_agree {t : List Be} (h : Frag 0 32 t) : Agree 0 32 (minimal t) (-1) t (-1) := (made 32 0 t (-1) (Nat.zero_mod _) h).agree _
theorem minimal_least {t s : List Be} (h : Frag 0 32 t) (hs : Frag 0 32 s) (hg : Agree 0 32 s (-1) t (-1)) : (minimal t).length ≤ s.length := by
  unfold minimal
  rw [(made 32 0 t (-1) (Nat.zero_mod _) h).len]
  exact least 32 0 t (-1) s (-1) (Nat.zero_mod _) h hs hg
theorem minimal_le {t : List Be} (h : Frag 0 32 t) : (minimal t).length ≤ t.length := minimal_least h h fun _ _ _ => rfl
theorem minimal_val {t : List Be} (h : Frag 0 32 t) (hv : ∀ e ∈ t, -1 ≤ e.2) : ∀ e ∈ minimal t, -1 ≤ e.2 := fun e he => by
  rcases (made 32 0 t (-1) (Nat.zero_mod _) h).vals _ e he with h1 | ⟨x, hx, h1⟩
  · omega
  · have := hv x hx; omega
theorem minimal_same {t s : List Be} (h : Frag 0 32 t) (hs : Frag 0 32 s) (hg : Agree 0 32 s (-1) t (-1)) : (minimal t).length = (minimal s).length := by
  have h1 := minimal_least h (minimal_frag hs) (fun y h1 h2 => ((minimal_agree hs) y h1 h2).trans (hg y h1 h2))
  have h2 := minimal_least hs (minimal_frag h) (fun y h1 h2 => ((minimal_agree h) y h1 h2).trans (hg y h1 h2).symm)
  omega
end Go.Proofs.Ytegponbmelgngaa.AG
end

section
namespace Go.Proofs.Ytegponbmelgngaa.AG
open CM
set_option linter.unusedSimpArgs false
set_option linter.unusedVariables false

/-- of the sums of both halves the least one is the region's cost, taken at the best values; the others are greater -/
theorem node_sums {A K : Nat} {rl rr : RT} (hl : rl.best ≠ []) (hr : rr.best ≠ []) :
    (∀ x ∈ shared rl.best rr.best, rl.need x + rr.need x = (RT.node A K (shared rl.best rr.best) rl rr).cost) ∧
    (∀ x, x ∉ shared rl.best rr.best → (RT.node A K (shared rl.best rr.best) rl rr).cost + 1 ≤ rl.need x + rr.need x) ∧ shared rl.best rr.best ≠ [] := by
  unfold RT.need
  show (∀ x ∈ _, _ = rl.cost + rr.cost + _) ∧ (∀ x, _ → rl.cost + rr.cost + _ + 1 ≤ _) ∧ _
  by_cases hb : ∃ x, x ∈ rl.best ∧ x ∈ rr.best
  · rw [if_pos (any_both.2 hb)]
    refine ⟨fun x hx => ?_, fun x hx => ?_, ?_⟩
    · have := (shared_both hb x).1 hx
      rw [if_pos this.1, if_pos this.2]; omega
    · rw [shared_both hb] at hx
      by_cases h1 : x ∈ rl.best
      · rw [if_pos h1, if_neg (fun h2 => hx ⟨h1, h2⟩)]; omega
      · rw [if_neg h1]; split <;> omega
    · obtain ⟨x, hx⟩ := hb
      exact List.ne_nil_of_mem ((shared_both ⟨x, hx⟩ x).2 hx)
  · rw [if_neg (fun h => hb (any_both.1 h))]
    have hno : ∀ x, ¬ (x ∈ rl.best ∧ x ∈ rr.best) := fun x h => hb ⟨x, h⟩
    refine ⟨fun x hx => ?_, fun x hx => ?_, ?_⟩
    · rcases (shared_either hb x).1 hx with h | h
      · rw [if_pos h, if_neg (fun h2 => hno x ⟨h, h2⟩)]; omega
      · rw [if_pos h, if_neg (fun h2 => hno x ⟨h2, h⟩)]; omega
    · rw [shared_either hb] at hx
      rw [if_neg (fun h => hx (.inl h)), if_neg (fun h => hx (.inr h))]; omega
    · exact List.ne_nil_of_mem ((shared_either hb _).2 (.inl (minV_mem hl)))
/-- the least of the sums over values among which all best ones are, and what follows -/
theorem node_costs {A K : Nat} {rl rr : RT} (hl : rl.best ≠ []) (hr : rr.best ≠ []) (vals : List Int) (hv : ∀ x ∈ shared rl.best rr.best, x ∈ vals) (m : Nat) (hm1 : ∃ x ∈ vals, m = rl.need x + rr.need x) (hm2 : ∀ x ∈ vals, m ≤ rl.need x + rr.need x) (x : Int) :
    min (rl.need x + rr.need x) (m + 1) = (RT.node A K (shared rl.best rr.best) rl rr).need x := by
  obtain ⟨h1, h2, h3⟩ := node_sums (A := A) (K := K) hl hr
  have hmc : m = (RT.node A K (shared rl.best rr.best) rl rr).cost := by
    obtain ⟨y, hy, e⟩ := hm1
    have g1 := hm2 _ (hv _ (minV_mem h3))
    rw [h1 _ (minV_mem h3)] at g1
    by_cases hyb : y ∈ shared rl.best rr.best
    · rw [e, h1 y hyb]
    · have := h2 y hyb; omega
  show _ = (RT.node A K (shared rl.best rr.best) rl rr).cost + if x ∈ shared rl.best rr.best then 0 else 1
  by_cases hx : x ∈ shared rl.best rr.best
  · rw [if_pos hx, h1 x hx]; omega
  · rw [if_neg hx]
    have := h2 x hx
    omega
/-- the entries that lie in a block -/
def inT (A K : Nat) (t : List Be) : List Be := t.filter (fun e => decide (A ≤ e.1.1 ∧ e.1.1 + 2 ^ e.1.2 ≤ A + 2 ^ K))
theorem inT_frag {A K : Nat} {t : List Be} (h : Frag A K t) : inT A K t = t := List.filter_eq_self.2 fun e he => by have := h.wi e he; simpa using this
theorem inT_low {A K : Nat} {t : List Be} (ha : A % 2 ^ (K + 1) = 0) (h : Frag A (K + 1) t) (hs : ∀ e ∈ t, e.1.2 < K + 1) : inT A K t = lowT (A + 2 ^ K) t := by
  unfold inT lowT
  refine List.filter_congr fun e he => ?_
  have hw := h.wi e he
  have hp := pow_pos' e.1.2
  refine decide_eq_decide.2 ⟨fun g => by omega, fun g => ?_⟩
  exact nest (mod_of_le (Nat.le_succ K) ha) (h.al e he) (by have := hs e he; omega) hw.1 g (Nat.le_refl _) (by omega)
theorem inT_high {A K : Nat} {t : List Be} (h : Frag A (K + 1) t) : inT (A + 2 ^ K) K t = highT (A + 2 ^ K) t := by
  unfold inT highT
  refine List.filter_congr fun e he => ?_
  have hw := h.wi e he
  have : 2 ^ (K + 1) = 2 ^ K + 2 ^ K := by rw [Nat.pow_succ]; omega
  rw [← decide_not]
  exact decide_eq_decide.2 ⟨fun g => by omega, fun g => by omega⟩
end Go.Proofs.Ytegponbmelgngaa.AG
end

section
namespace Go.Proofs.Ytegponbmelgngaa.AG
open CM
set_option linter.unusedSimpArgs false
set_option linter.unusedVariables false

/-- block c holds block x -/
def cv (c x : Nat × Nat) : Prop := c.1 ≤ x.1 ∧ x.1 + 2 ^ x.2 ≤ c.1 + 2 ^ c.2
instance (c x : Nat × Nat) : Decidable (cv c x) := inferInstanceAs (Decidable (_ ∧ _))
/-- an ascending list of aligned blocks -/
structure Asc (L : List (Nat × Nat)) : Prop where
  asc : L.Pairwise ltB
  al : ∀ x ∈ L, x.1 % 2 ^ x.2 = 0
/-- of two blocks the first one holds the second one or ends before it -/
theorem Asc.lam {L : List (Nat × Nat)} (h : Asc L) {i j : Nat} {x y : Nat × Nat} (hx : L[i]? = some x) (hy : L[j]? = some y) (hij : i < j) : ltB x y ∧ (cv x y ∨ x.1 + 2 ^ x.2 ≤ y.1) := by
  obtain ⟨hi, ex⟩ := List.getElem?_eq_some_iff.1 hx
  obtain ⟨hj, ey⟩ := List.getElem?_eq_some_iff.1 hy
  have hlt : ltB x y := by have := List.pairwise_iff_getElem.1 h.asc i j hi hj hij; rwa [ex, ey] at this
  refine ⟨hlt, ?_⟩
  have hpx := pow_pos' x.2
  have hpy := pow_pos' y.2
  rcases Nat.lt_or_ge y.1 (x.1 + 2 ^ x.2) with g | g
  · left
    have hle : x.1 ≤ y.1 := by unfold ltB at hlt; omega
    rcases Nat.lt_or_ge x.2 y.2 with k | k
    · have := nest (h.al y (List.mem_of_getElem? hy)) (h.al x (List.mem_of_getElem? hx)) (Nat.le_of_lt k) (Nat.le_refl y.1) (by omega) hle g
      unfold ltB at hlt
      omega
    · exact nest (h.al x (List.mem_of_getElem? hx)) (h.al y (List.mem_of_getElem? hy)) k hle g (Nat.le_refl _) (by omega)
  · exact .inr g
theorem cv_in {c x : Nat × Nat} (h : cv c x) {y : Nat} (hy : x.1 ≤ y ∧ y < x.1 + 2 ^ x.2) : c.1 ≤ y ∧ y < c.1 + 2 ^ c.2 := by unfold cv at h; omega
theorem cv_trans {a b c : Nat × Nat} (h : cv a b) (k : cv b c) : cv a c := by unfold cv at *; omega
theorem cv_refl (a : Nat × Nat) : cv a a := ⟨Nat.le_refl _, Nat.le_refl _⟩
/-- what holds a later block and stands before an earlier one that ends not before it holds that one, too -/
theorem Asc.skip {L : List (Nat × Nat)} (h : Asc L) {k j i : Nat} {x y z : Nat × Nat} (hx : L[k]? = some x) (hy : L[j]? = some y) (hz : L[i]? = some z) (hkj : k < j) (hji : j < i) (hc : cv x z) : cv x y := by
  obtain ⟨h1, h2⟩ := h.lam hx hy hkj
  obtain ⟨h3, h4⟩ := h.lam hy hz hji
  rcases h2 with h2 | h2
  · exact h2
  · unfold cv at hc
    have hp := pow_pos' z.2
    unfold ltB at h3
    omega
/-- two blocks that hold the same address: the earlier one holds the later one -/
theorem Asc.chain {L : List (Nat × Nat)} (h : Asc L) {i j : Nat} {x y : Nat × Nat} (hx : L[i]? = some x) (hy : L[j]? = some y) (hij : i < j) {a : Nat} (ha : x.1 ≤ a ∧ a < x.1 + 2 ^ x.2) (hb : y.1 ≤ a ∧ a < y.1 + 2 ^ y.2) : cv x y := by
  rcases (h.lam hx hy hij).2 with g | g
  · exact g
  · omega
/-- j is the place of the entry above that at i -/
structure Par (L : List (Nat × Nat)) (i j : Nat) : Prop where
  lt : j < i
  cov : ∃ x y, L[j]? = some x ∧ L[i]? = some y ∧ cv x y
  last : ∀ k x y, j < k → k < i → L[k]? = some x → L[i]? = some y → ¬ cv x y
/-- there is none above -/
def NoPar (L : List (Nat × Nat)) (i : Nat) : Prop := ∀ k x y, k < i → L[k]? = some x → L[i]? = some y → ¬ cv x y
theorem Par.unique {L : List (Nat × Nat)} {i j k : Nat} (h : Par L i j) (g : Par L i k) : j = k := by
  obtain ⟨x, y, hx, hy, hc⟩ := h.cov
  obtain ⟨u, v, hu, hv, hd⟩ := g.cov
  rcases Nat.lt_trichotomy j k with h1 | h1 | h1
  · exact absurd hd (h.last k u v h1 g.lt hu hv)
  · exact h1
  · exact absurd hc (g.last j x y h1 h.lt hx hy)
theorem Par.not_none {L : List (Nat × Nat)} {i j : Nat} (h : Par L i j) : ¬ NoPar L i := fun g => by
  obtain ⟨x, y, hx, hy, hc⟩ := h.cov
  exact g j x y h.lt hx hy hc
theorem par_or (L : List (Nat × Nat)) (i : Nat) : (∃ j, Par L i j) ∨ NoPar L i := by
  have aux : ∀ n, n ≤ i → (∃ j, Par L i j) ∨ ∀ k x y, i - n ≤ k → k < i → L[k]? = some x → L[i]? = some y → ¬ cv x y := by
    intro n
    induction n with
    | zero => intro _; exact .inr fun k x y h1 h2 => by omega
    | succ n ih =>
      intro hn
      rcases ih (by omega) with h | h
      · exact .inl h
      · by_cases hc : ∃ x y, L[i - (n + 1)]? = some x ∧ L[i]? = some y ∧ cv x y
        · exact .inl ⟨i - (n + 1), by omega, hc, fun k x y h1 h2 => h k x y (by omega) h2⟩
        · refine .inr fun k x y h1 h2 hx hy hcv => ?_
          rcases Nat.lt_or_ge k (i - n) with g | g
          · have : k = i - (n + 1) := by omega
            subst this
            exact hc ⟨x, y, hx, hy, hcv⟩
          · exact h k x y g h2 hx hy hcv
  rcases aux i (Nat.le_refl _) with h | h
  · exact .inl h
  · exact .inr fun k x y h2 hx hy => h k x y (by omega) h2 hx hy
/-- the search for the place above: from place j one goes on to the place above j -/
def Srch (L : List (Nat × Nat)) (i j : Nat) : Prop := ∀ k x y, j ≤ k → k < i → L[k]? = some x → L[i]? = some y → ¬ cv x y
theorem Srch.found {L : List (Nat × Nat)} {i j : Nat} (h : Srch L i (j + 1)) (hj : j < i) (hc : ∃ x y, L[j]? = some x ∧ L[i]? = some y ∧ cv x y) : Par L i j :=
  ⟨hj, hc, fun k x y h1 h2 => h k x y (by omega) h2⟩
theorem Srch.go {L : List (Nat × Nat)} (hL : Asc L) {i j p : Nat} (h : Srch L i (j + 1)) (hj : j < i) (hi : i < L.length) (hc : ¬ ∃ x y, L[j]? = some x ∧ L[i]? = some y ∧ cv x y) (hp : Par L j p) : Srch L i (p + 1) := fun k x y h1 h2 hx hy hcv => by
  rcases Nat.lt_trichotomy k j with g | g | g
  · obtain ⟨z, hz⟩ : ∃ z, L[j]? = some z := ⟨_, List.getElem?_eq_getElem (by omega)⟩
    exact hp.last k x z (by omega) g hx hz (hL.skip hx hz hy g hj hcv)
  · subst g; exact hc ⟨x, y, hx, hy, hcv⟩
  · exact h k x y (by omega) h2 hx hy hcv
theorem Srch.stop {L : List (Nat × Nat)} (hL : Asc L) {i j : Nat} (h : Srch L i (j + 1)) (hj : j < i) (hi : i < L.length) (hc : ¬ ∃ x y, L[j]? = some x ∧ L[i]? = some y ∧ cv x y) (hp : NoPar L j) : NoPar L i := fun k x y h2 hx hy hcv => by
  rcases Nat.lt_trichotomy k j with g | g | g
  · obtain ⟨z, hz⟩ : ∃ z, L[j]? = some z := ⟨_, List.getElem?_eq_getElem (by omega)⟩
    exact hp k x z g hx hz (hL.skip hx hz hy g hj hcv)
  · subst g; exact hc ⟨x, y, hx, hy, hcv⟩
  · exact h k x y (by omega) h2 hx hy hcv
theorem Srch.first {L : List (Nat × Nat)} (i : Nat) : Srch L i i := fun k x y h1 h2 => by omega
theorem Srch.none {L : List (Nat × Nat)} {i : Nat} (h : Srch L i 0) : NoPar L i := fun k x y h2 => h k x y (Nat.zero_le _) h2
/-- all addresses of the block at i lie in smaller blocks of the list -/
def Hidden (L : List (Nat × Nat)) (i : Nat) : Prop := ∃ x, L[i]? = some x ∧ ∀ a, x.1 ≤ a → a < x.1 + 2 ^ x.2 → ∃ m y, m ≠ i ∧ L[m]? = some y ∧ cv x y ∧ y.1 ≤ a ∧ a < y.1 + 2 ^ y.2
/-- what lies within a block stands behind it -/
theorem Asc.behind {L : List (Nat × Nat)} (h : Asc L) {i m : Nat} {x y : Nat × Nat} (hx : L[i]? = some x) (hy : L[m]? = some y) (hne : m ≠ i) (hc : cv x y) : i < m := by
  rcases Nat.lt_or_ge i m with g | g
  · exact g
  · have := (h.lam hy hx (by omega)).1
    have hpx := pow_pos' x.2
    have hpy := pow_pos' y.2
    unfold ltB at this
    unfold cv at hc
    rcases Nat.lt_or_ge y.2 x.2 with k | k
    · omega
    · have h1 := pow_le' k
      have : y.2 = x.2 := by
        rcases Nat.lt_or_ge x.2 y.2 with k2 | k2
        · have := pow_le' (show x.2 + 1 ≤ y.2 by omega)
          rw [Nat.pow_succ] at this
          omega
        · omega
      omega
/-- an address in a smaller block lies in a block directly below -/
theorem Asc.child {L : List (Nat × Nat)} (h : Asc L) {i : Nat} {x : Nat × Nat} (hx : L[i]? = some x) {a : Nat} : ∀ (m : Nat) (y : Nat × Nat), m ≠ i → L[m]? = some y → cv x y → y.1 ≤ a → a < y.1 + 2 ^ y.2 → ∃ c z, Par L c i ∧ L[c]? = some z ∧ z.1 ≤ a ∧ a < z.1 + 2 ^ z.2 := by
  intro m
  induction m using Nat.strongRecOn with
  | _ m ih =>
    intro y hne hy hc h1 h2
    have him := h.behind hx hy hne hc
    rcases par_or L m with ⟨p, hp⟩ | hno
    · rcases Nat.lt_trichotomy p i with g | g | g
      · exact absurd hc (hp.last i x y g him hx hy)
      · subst g; exact ⟨m, y, hp, hy, h1, h2⟩
      · obtain ⟨u, v, hu, hv, huv⟩ := hp.cov
        rw [hy] at hv
        cases hv
        have hxu := h.skip hx hu hy g hp.lt hc
        exact ih p hp.lt u (by omega) hu hxu (by unfold cv at huv; omega) (by unfold cv at huv; omega)
    · exact absurd hc (hno i x y him hx hy)
end Go.Proofs.Ytegponbmelgngaa.AG
end

section
namespace Go.Proofs.Ytegponbmelgngaa.AG
open CM
set_option linter.unusedSimpArgs false
set_option linter.unusedVariables false
open Classical

theorem cnt_add_le (S : Nat → Bool) (a : Nat) : ∀ m, cnt S (a + m) ≤ cnt S a + m
  | 0 => Nat.le_refl _
  | m + 1 => by
    have ih := cnt_add_le S a m
    show cnt S (a + m) + _ ≤ _
    split <;> omega
theorem cnt_add_lt (S : Nat → Bool) (a : Nat) : ∀ m, (∃ y, a ≤ y ∧ y < a + m ∧ S y = false) → cnt S (a + m) + 1 ≤ cnt S a + m
  | 0, ⟨y, h1, h2, _⟩ => by omega
  | m + 1, ⟨y, h1, h2, h3⟩ => by
    have hle := cnt_add_le S a m
    show cnt S (a + m) + (if S (a + m) = true then 1 else 0) + 1 ≤ _
    by_cases e : y = a + m
    · subst e
      rw [h3]
      simp; omega
    · have ih := cnt_add_lt S a m ⟨y, h1, by omega, h3⟩
      split <;> omega
def blkAt (L : List (Nat × Nat)) (j : Nat) : Nat × Nat := L[j]?.getD (0, 0)
theorem blkAt_some {L : List (Nat × Nat)} {j : Nat} {x : Nat × Nat} (h : L[j]? = some x) : blkAt L j = x := by unfold blkAt; rw [h]; rfl
/-- the places directly below i, of the first n -/
noncomputable def kids (L : List (Nat × Nat)) (n i : Nat) : List Nat := (List.range n).filter (fun j => decide (Par L j i))
theorem kids_succ (L : List (Nat × Nat)) (n i : Nat) : kids L (n + 1) i = kids L n i ++ (if Par L n i then [n] else []) := by
  unfold kids
  rw [List.range_succ, List.filter_append]
  congr 1
  by_cases h : Par L n i <;> simp [h]
theorem mem_kids {L : List (Nat × Nat)} {n i j : Nat} : j ∈ kids L n i ↔ j < n ∧ Par L j i := by unfold kids; simp
/-- how many addresses they have -/
noncomputable def chs (L : List (Nat × Nat)) (n i : Nat) : Nat := ((kids L n i).map (fun j => 2 ^ (blkAt L j).2)).sum
theorem chs_zero (L : List (Nat × Nat)) (i : Nat) : chs L 0 i = 0 := rfl
theorem chs_yes {L : List (Nat × Nat)} {n i : Nat} (h : Par L n i) : chs L (n + 1) i = chs L n i + 2 ^ (blkAt L n).2 := by unfold chs; rw [kids_succ, if_pos h]; simp
theorem chs_no {L : List (Nat × Nat)} {n i : Nat} (h : ¬ Par L n i) : chs L (n + 1) i = chs L n i := by unfold chs; rw [kids_succ, if_neg h]; simp
/-- nothing lies below a place that has not come yet -/
theorem chs_late {L : List (Nat × Nat)} {n i : Nat} (h : n ≤ i + 1) : chs L n i = 0 := by
  unfold chs
  have : kids L n i = [] := by
    unfold kids
    rw [List.filter_eq_nil_iff]
    intro j hj hp
    have := (of_decide_eq_true hp).lt
    have := List.mem_range.1 hj
    omega
  rw [this]; rfl
noncomputable def kidS (L : List (Nat × Nat)) (n i : Nat) (a : Nat) : Bool := decide (∃ j ∈ kids L n i, (blkAt L j).1 ≤ a ∧ a < (blkAt L j).1 + 2 ^ (blkAt L j).2)
theorem kids_cnt {L : List (Nat × Nat)} (hL : Asc L) {n i : Nat} {x : Nat × Nat} (hx : L[i]? = some x) : cnt (kidS L n i) (x.1 + 2 ^ x.2) = cnt (kidS L n i) x.1 + chs L n i := by
  have hkid : ∀ j ∈ kids L n i, ∃ y, L[j]? = some y ∧ cv x y ∧ Par L j i := fun j hj => by
    have hp := (mem_kids.1 hj).2
    obtain ⟨u, v, hu, hv, hc⟩ := hp.cov
    rw [hx] at hu
    cases hu
    exact ⟨v, hv, hc, hp⟩
  have h := cnt_ivs (S := kidS L n i) (l := (kids L n i).map (fun j => ((blkAt L j).1, (blkAt L j).1 + 2 ^ (blkAt L j).2))) (lo := x.1) (N := x.1 + 2 ^ x.2) ?_ ?_ ?_ ?_ (Nat.le_add_right _ _)
  · rw [h]
    unfold chs
    rw [List.map_map]
    congr 2
    refine List.map_congr_left fun j _ => ?_
    show (blkAt L j).1 + 2 ^ (blkAt L j).2 - (blkAt L j).1 = _
    rw [Nat.add_sub_cancel_left]
  · rw [List.pairwise_map]
    have hr : (kids L n i).Pairwise (· < ·) := List.pairwise_lt_range.sublist List.filter_sublist
    refine hr.imp_of_mem fun {j k} hj hk hjk => ?_
    obtain ⟨u, hu, _, pj⟩ := hkid j hj
    obtain ⟨v, hv, _, pk⟩ := hkid k hk
    show (blkAt L j).1 + 2 ^ (blkAt L j).2 ≤ (blkAt L k).1
    rw [blkAt_some hu, blkAt_some hv]
    rcases (hL.lam hu hv hjk).2 with g | g
    · exact absurd g (pk.last j u v pj.lt hjk hu hv)
    · exact g
  · intro z hz
    obtain ⟨j, hj, rfl⟩ := List.mem_map.1 hz
    obtain ⟨u, hu, hc, _⟩ := hkid j hj
    dsimp only
    rw [blkAt_some hu]
    have hp := pow_pos' u.2
    have hp2 := pow_pos' x.2
    unfold cv at hc
    refine ⟨hc.1, Nat.le_add_right _ _, hc.2⟩
  · intro z hz y h1 h2
    obtain ⟨j, hj, rfl⟩ := List.mem_map.1 hz
    exact decide_eq_true ⟨j, hj, h1, h2⟩
  · intro y h1 h2 hs
    obtain ⟨j, hj, h3⟩ := of_decide_eq_true hs
    exact ⟨_, List.mem_map.2 ⟨j, hj, rfl⟩, h3⟩
theorem chs_le {L : List (Nat × Nat)} (hL : Asc L) {n i : Nat} {x : Nat × Nat} (hx : L[i]? = some x) : chs L n i ≤ 2 ^ x.2 := by
  have h1 := kids_cnt hL (n := n) hx
  have h2 := cnt_add_le (kidS L n i) x.1 (2 ^ x.2)
  have hp := pow_pos' x.2
  omega
theorem hidden_iff {L : List (Nat × Nat)} (hL : Asc L) {i : Nat} {x : Nat × Nat} (hx : L[i]? = some x) : Hidden L i ↔ chs L L.length i = 2 ^ x.2 := by
  have h1 := kids_cnt hL (n := L.length) hx
  have hp0 := pow_pos' x.2
  constructor
  · rintro ⟨x', hx', hall⟩
    rw [hx] at hx'
    cases hx'
    have hf := cnt_full (S := kidS L L.length i) (a := x.1) (m := 2 ^ x.2) fun a h2 h3 => by
      obtain ⟨m, y, hne, hy, hc, h4, h5⟩ := hall a h2 h3
      obtain ⟨c, z, hp, hz, h6, h7⟩ := hL.child hx m y hne hy hc h4 h5
      exact decide_eq_true ⟨c, mem_kids.2 ⟨(List.getElem?_eq_some_iff.1 hz).1, hp⟩, by rw [blkAt_some hz]; exact ⟨h6, h7⟩⟩
    omega
  · intro he
    refine ⟨x, hx, fun a h2 h3 => ?_⟩
    by_cases hs : kidS L L.length i a = true
    · obtain ⟨j, hj, h4⟩ := of_decide_eq_true hs
      have hp := (mem_kids.1 hj).2
      obtain ⟨u, v, hu, hv, hc⟩ := hp.cov
      rw [hx] at hu
      cases hu
      rw [blkAt_some hv] at h4
      exact ⟨j, v, by have := hp.lt; omega, hv, hc, h4⟩
    · have := cnt_add_lt (kidS L L.length i) x.1 (2 ^ x.2) ⟨a, h2, h3, by simpa using hs⟩
      omega
end Go.Proofs.Ytegponbmelgngaa.AG
end

section
namespace Go.Proofs.Ytegponbmelgngaa.AG
open CM
set_option linter.unusedSimpArgs false
set_option linter.unusedVariables false
open Classical

/-- the blocks of a table -/
def bls (t : List Be) : List (Nat × Nat) := t.map (·.1)
theorem bls_get {t : List Be} {i : Nat} : (bls t)[i]? = t[i]?.map (·.1) := by unfold bls; rw [List.getElem?_map]
theorem bls_some {t : List Be} {i : Nat} {e : Be} (h : t[i]? = some e) : (bls t)[i]? = some e.1 := by rw [bls_get, h]; rfl
theorem bls_inv {t : List Be} {i : Nat} {x : Nat × Nat} (h : (bls t)[i]? = some x) : ∃ e, t[i]? = some e ∧ e.1 = x := by
  rw [bls_get] at h
  cases ht : t[i]? with
  | none => rw [ht] at h; cases h
  | some e => rw [ht] at h; exact ⟨e, rfl, by simpa using h⟩
theorem bls_len (t : List Be) : (bls t).length = t.length := by unfold bls; simp
/-- a table: ascending, aligned -/
structure Tab (t : List Be) : Prop where
  asc : t.Pairwise (fun x y => ltB x.1 y.1)
  al : ∀ e ∈ t, e.1.1 % 2 ^ e.1.2 = 0
theorem Tab.bls {t : List Be} (h : Tab t) : Asc (bls t) := ⟨by unfold AG.bls; rw [List.pairwise_map]; exact h.asc, fun x hx => by
  obtain ⟨e, he, rfl⟩ := List.mem_map.1 hx
  exact h.al e he⟩
theorem Tab.filter {t : List Be} (h : Tab t) (p : Be → Bool) : Tab (t.filter p) := ⟨h.asc.sublist List.filter_sublist, fun e he => h.al e (List.mem_filter.1 he).1⟩
theorem Frag.tab {A K : Nat} {t : List Be} (h : Frag A K t) : Tab t := ⟨h.asc, h.al⟩
/-- the last entry that has an address gives the lookup -/
theorem lk_last {y : Nat} {t : List Be} {m : Nat} {e : Be} (he : t[m]? = some e) (hy : inb e.1 y = true) (hl : ∀ k x, m < k → t[k]? = some x → inb x.1 y = false) (v : Int) : lk y v t = e.2 := by
  obtain ⟨hm, ee⟩ := List.getElem?_eq_some_iff.1 he
  have e1 : t = t.take m ++ e :: t.drop (m + 1) := by rw [← ee, ← List.drop_eq_getElem_cons hm, List.take_append_drop]
  rw [e1, lk_app, lk_cons, if_pos hy, lk_none]
  intro x hx
  obtain ⟨k, hk, ex⟩ := List.getElem_of_mem hx
  rw [List.length_drop] at hk
  rw [List.getElem_drop] at ex
  exact hl (m + 1 + k) x (by omega) (by rw [← ex]; exact List.getElem?_eq_getElem _)
theorem lk_or (y : Nat) (t : List Be) : (∃ (m : Nat) (e : Be), t[m]? = some e ∧ inb e.1 y = true ∧ ∀ (k : Nat) (x : Be), m < k → t[k]? = some x → inb x.1 y = false) ∨ ∀ e ∈ t, inb e.1 y = false := by
  induction t with
  | nil => exact .inr fun e h => by cases h
  | cons e r ih =>
    rcases ih with ⟨m, x, hx, hy, hl⟩ | h
    · refine .inl ⟨m + 1, x, by simpa using hx, hy, fun k z hk hz => ?_⟩
      obtain ⟨k', rfl⟩ : ∃ k', k = k' + 1 := ⟨k - 1, by omega⟩
      exact hl k' z (by omega) (by simpa using hz)
    · by_cases hy : inb e.1 y = true
      · refine .inl ⟨0, e, rfl, hy, fun k z hk hz => ?_⟩
        obtain ⟨k', rfl⟩ : ∃ k', k = k' + 1 := ⟨k - 1, by omega⟩
        exact h z (List.mem_of_getElem? (by simpa using hz))
      · refine .inr fun z hz => ?_
        rcases List.mem_cons.1 hz with rfl | hz
        · simpa using hy
        · exact h z hz
/-- the value above the entry at i: -1 if there is none -/
noncomputable def abv (t : List Be) (i : Nat) : Int := if h : ∃ j, Par (bls t) i j then ((t[h.choose]?.map (·.2)).getD (-1)) else -1
theorem abv_par {t : List Be} {i j : Nat} {e : Be} (h : Par (bls t) i j) (he : t[j]? = some e) : abv t i = e.2 := by
  have hx : ∃ j, Par (bls t) i j := ⟨j, h⟩
  unfold abv
  rw [dif_pos hx, hx.choose_spec.unique h, he]; rfl
theorem abv_none {t : List Be} {i : Nat} (h : NoPar (bls t) i) : abv t i = -1 := by
  unfold abv
  rw [dif_neg]
  rintro ⟨j, hj⟩
  exact hj.not_none h
/-- it is the lookup of each of its addresses in the entries before -/
theorem abv_lk {t : List Be} (ht : Tab t) {n : Nat} {e : Be} (he : t[n]? = some e) {y : Nat} (hy : inb e.1 y = true) : lk y (-1) (t.take n) = abv t n := by
  have hb := ht.bls
  have hyi := inb_iff.1 hy
  rcases par_or (bls t) n with ⟨j, hj⟩ | hno
  · obtain ⟨x, z, hx, hz, hc⟩ := hj.cov
    obtain ⟨f, hf, rfl⟩ := bls_inv hx
    rw [bls_some he] at hz
    cases hz
    rw [abv_par hj hf]
    have hjn := hj.lt
    refine lk_last (m := j) (by rw [List.getElem?_take, if_pos hjn]; exact hf) (inb_iff.2 (cv_in hc hyi)) (fun k g hk hg => ?_) _
    rw [List.getElem?_take] at hg
    split at hg
    · rename_i hkn
      refine inb_no fun hin => ?_
      exact hj.last k g.1 e.1 hk hkn (bls_some hg) (bls_some he) (hb.chain (bls_some hg) (bls_some he) hkn hin hyi)
    · cases hg
  · rw [abv_none hno]
    refine lk_none (fun g hg => ?_) _
    obtain ⟨k, hk, eg⟩ := List.getElem_of_mem hg
    rw [List.length_take] at hk
    rw [List.getElem_take] at eg
    have hgk : t[k]? = some g := by rw [← eg]; exact List.getElem?_eq_getElem _
    refine inb_no fun hin => ?_
    exact hno k g.1 e.1 (by omega) (bls_some hgk) (bls_some he) (hb.chain (bls_some hgk) (bls_some he) (by omega) hin hyi)
/-- of the first n entries those that have another value than the one above -/
noncomputable def eff (t : List Be) : Nat → List Be
  | 0 => []
  | n + 1 => eff t n ++ (match t[n]? with
    | some e => if e.2 = abv t n then [] else [e]
    | none => [])
theorem eff_keep {t : List Be} {n : Nat} {e : Be} (he : t[n]? = some e) (h : e.2 ≠ abv t n) : eff t (n + 1) = eff t n ++ [e] := by
  show eff t n ++ _ = _
  rw [he]; simp [h]
theorem eff_drop {t : List Be} {n : Nat} {e : Be} (he : t[n]? = some e) (h : e.2 = abv t n) : eff t (n + 1) = eff t n := by
  show eff t n ++ _ = _
  rw [he]; simp [h]
theorem eff_lk {t : List Be} (ht : Tab t) (y : Nat) : ∀ n, n ≤ t.length → lk y (-1) (eff t n) = lk y (-1) (t.take n)
  | 0, _ => by rw [List.take_zero]; rfl
  | n + 1, hn => by
    have ih := eff_lk ht y n (by omega)
    obtain ⟨e, he⟩ : ∃ e, t[n]? = some e := ⟨_, List.getElem?_eq_getElem (by omega)⟩
    have htk : t.take (n + 1) = t.take n ++ [e] := by rw [List.take_add_one, he]; rfl
    rw [htk, lk_app, lk_cons, lk_nil]
    by_cases hv : e.2 = abv t n
    · rw [eff_drop he hv, ih]
      split
      · rename_i hy
        rw [abv_lk ht he hy]; exact hv.symm
      · rfl
    · rw [eff_keep he hv, lk_app, lk_cons, lk_nil, ih]
theorem eff_agree {t : List Be} (ht : Tab t) (y : Nat) : lk y (-1) (eff t t.length) = lk y (-1) t := by
  rw [eff_lk ht y _ (Nat.le_refl _), List.take_length]
theorem eff_mem {t : List Be} : ∀ {n : Nat} {e : Be}, e ∈ eff t n → ∃ i, i < n ∧ t[i]? = some e ∧ e.2 ≠ abv t i
  | 0, e, h => by cases h
  | n + 1, e, h => by
    have h' : e ∈ eff t n ++ _ := h
    rcases List.mem_append.1 h' with h | h
    · obtain ⟨i, h1, h2⟩ := eff_mem h
      exact ⟨i, by omega, h2⟩
    · split at h
      · rename_i x hx
        split at h
        · cases h
        · rename_i hv
          rw [List.mem_singleton] at h
          subst h
          exact ⟨n, by omega, hx, hv⟩
      · cases h
/-- the entries behind a place that is kept -/
theorem eff_split {t : List Be} {i : Nat} {e : Be} (he : t[i]? = some e) (hv : e.2 ≠ abv t i) : ∀ n, i < n → n ≤ t.length → ∃ r, eff t n = eff t i ++ e :: r ∧ ∀ x ∈ r, ∃ k, i < k ∧ k < n ∧ t[k]? = some x
  | 0, h, _ => by omega
  | n + 1, h, hn => by
    rcases Nat.lt_or_ge i n with g | g
    · obtain ⟨r, e1, e2⟩ := eff_split he hv n g (by omega)
      obtain ⟨x, hx⟩ : ∃ e, t[n]? = some e := ⟨_, List.getElem?_eq_getElem (by omega)⟩
      by_cases hvx : x.2 = abv t n
      · exact ⟨r, by rw [eff_drop hx hvx, e1], fun z hz => by obtain ⟨k, h1, h2, h3⟩ := e2 z hz; exact ⟨k, h1, by omega, h3⟩⟩
      · refine ⟨r ++ [x], by rw [eff_keep hx hvx, e1]; simp, fun z hz => ?_⟩
        rcases List.mem_append.1 hz with hz | hz
        · obtain ⟨k, h1, h2, h3⟩ := e2 z hz; exact ⟨k, h1, by omega, h3⟩
        · rw [List.mem_singleton] at hz; subst hz; exact ⟨n, g, by omega, hx⟩
    · obtain rfl : i = n := by omega
      exact ⟨[], by rw [eff_keep he hv], fun z hz => by cases hz⟩
/-- an entry that is kept, and has an address that no later entry has, is needed -/
theorem eff_need {t : List Be} (ht : Tab t) {i : Nat} {e : Be} (he : t[i]? = some e) (hv : e.2 ≠ abv t i) {y : Nat} (hy : inb e.1 y = true) (hl : ∀ k x, i < k → t[k]? = some x → inb x.1 y = false) {r : List Be} (hr : eff t t.length = eff t i ++ e :: r) (hr2 : ∀ x ∈ r, ∃ k, i < k ∧ k < t.length ∧ t[k]? = some x) :
    lk y (-1) (eff t t.length) = e.2 ∧ lk y (-1) (eff t i ++ r) = abv t i := by
  have hi := (List.getElem?_eq_some_iff.1 he).1
  have hrn : ∀ x ∈ r, inb x.1 y = false := fun x hx => by obtain ⟨k, h1, _, h3⟩ := hr2 x hx; exact hl k x h1 h3
  constructor
  · rw [hr, lk_app, lk_cons, if_pos hy, lk_none hrn]
  · rw [lk_app, lk_none hrn, eff_lk ht y i (by omega), abv_lk ht he hy]

/-- an entry all of whose addresses lie in smaller blocks of the table -/
def HidE (t : List Be) (e : Be) : Prop := ∀ a, e.1.1 ≤ a → a < e.1.1 + 2 ^ e.1.2 → ∃ x ∈ t, x.1 ≠ e.1 ∧ cv e.1 x.1 ∧ x.1.1 ≤ a ∧ a < x.1.1 + 2 ^ x.1.2
theorem hid_iff {t : List Be} (ht : Tab t) {i : Nat} {e : Be} (he : t[i]? = some e) : HidE t e ↔ Hidden (bls t) i := by
  have hb := ht.bls
  constructor
  · intro h
    refine ⟨e.1, bls_some he, fun a h1 h2 => ?_⟩
    obtain ⟨x, hx, hne, hc, h3, h4⟩ := h a h1 h2
    obtain ⟨m, hm⟩ := List.getElem?_of_mem hx
    exact ⟨m, x.1, fun e2 => by subst e2; rw [he] at hm; cases hm; exact hne rfl, bls_some hm, hc, h3, h4⟩
  · rintro ⟨z, hz, h⟩ a h1 h2
    rw [bls_some he] at hz
    cases hz
    obtain ⟨m, y, hne, hy, hc, h3, h4⟩ := h a h1 h2
    obtain ⟨x, hx, rfl⟩ := bls_inv hy
    refine ⟨x, List.mem_of_getElem? hx, fun e2 => ?_, hc, h3, h4⟩
    have him := hb.behind (bls_some he) hy hne hc
    have := (hb.lam (bls_some he) hy him).1
    rw [e2] at this
    unfold ltB at this
    omega
/-- the entries that are not hidden -/
noncomputable def vis (t : List Be) : List Be := t.filter (fun e => !decide (HidE t e))
theorem vis_tab {t : List Be} (ht : Tab t) : Tab (vis t) := ht.filter _
theorem vis_agree {t : List Be} (ht : Tab t) (y : Nat) (v : Int) : lk y v (vis t) = lk y v t := by
  rcases lk_or y t with ⟨m, e, he, hy, hl⟩ | h
  · rw [lk_last he hy hl]
    have hnh : ¬ HidE t e := fun hh => by
      obtain ⟨x, hx, hne, hc, h3, h4⟩ := hh y (inb_iff.1 hy).1 (inb_iff.1 hy).2
      obtain ⟨k, hk⟩ := List.getElem?_of_mem hx
      have hkm : k ≠ m := fun e2 => by subst e2; rw [he] at hk; cases hk; exact hne rfl
      have := ht.bls.behind (bls_some he) (bls_some hk) hkm hc
      have h5 := hl k x this hk
      rw [inb_iff.2 ⟨h3, h4⟩] at h5; cases h5
    obtain ⟨hm, ee⟩ := List.getElem?_eq_some_iff.1 he
    have e1 : t = t.take m ++ e :: t.drop (m + 1) := by rw [← ee, ← List.drop_eq_getElem_cons hm, List.take_append_drop]
    have e2 : vis t = (t.take m).filter (fun e => !decide (HidE t e)) ++ e :: (t.drop (m + 1)).filter (fun e => !decide (HidE t e)) := by
      unfold vis
      conv => lhs; rw [e1]
      rw [List.filter_append, List.filter_cons]
      rw [← e1, if_pos (by simpa using hnh)]
    rw [e2, lk_app, lk_cons, if_pos hy, lk_none]
    intro x hx
    obtain ⟨k, hk, ex⟩ := List.getElem_of_mem (List.mem_filter.1 hx).1
    rw [List.length_drop] at hk
    rw [List.getElem_drop] at ex
    exact hl (m + 1 + k) x (by omega) (by rw [← ex]; exact List.getElem?_eq_getElem _)
  · rw [lk_none h]
    exact lk_none (fun e he => h e (List.mem_filter.1 he).1) v
/-- an entry that is not hidden has an address of its own -/
theorem vis_own {t : List Be} (ht : Tab t) {i : Nat} {e : Be} (he : (vis t)[i]? = some e) : ∃ y, inb e.1 y = true ∧ ∀ k x, i < k → (vis t)[k]? = some x → inb x.1 y = false := by
  have hm := List.mem_filter.1 (List.mem_of_getElem? he)
  have hnh : ¬ HidE t e := by simpa using hm.2
  unfold HidE at hnh
  have : ∃ y, e.1.1 ≤ y ∧ y < e.1.1 + 2 ^ e.1.2 ∧ ¬ ∃ x ∈ t, x.1 ≠ e.1 ∧ cv e.1 x.1 ∧ x.1.1 ≤ y ∧ y < x.1.1 + 2 ^ x.1.2 := by
    refine Classical.byContradiction fun hno => hnh fun a h1 h2 => Classical.byContradiction fun hno2 => hno ⟨a, h1, h2, hno2⟩
  obtain ⟨y, h1, h2, h3⟩ := this
  refine ⟨y, inb_iff.2 ⟨h1, h2⟩, fun k x hk hx => inb_no fun hin => h3 ⟨x, (List.mem_filter.1 (List.mem_of_getElem? hx)).1, ?_, ?_, hin⟩⟩
  · have := ((vis_tab ht).bls.lam (bls_some he) (bls_some hx) hk).1
    intro e2
    rw [e2] at this
    unfold ltB at this
    omega
  · exact (vis_tab ht).bls.chain (bls_some he) (bls_some hx) hk ⟨h1, h2⟩ hin
/-- a trimmed table -/
noncomputable def trim (t : List Be) : List Be := eff (vis t) (vis t).length
theorem trim_agree {t : List Be} (ht : Tab t) (y : Nat) : lk y (-1) (trim t) = lk y (-1) t := by
  unfold trim
  rw [eff_agree (vis_tab ht), vis_agree ht]
end Go.Proofs.Ytegponbmelgngaa.AG
end

section
namespace Go.Proofs.Ytegponbmelgngaa.AG
open CM
set_option linter.unusedSimpArgs false
set_option linter.unusedVariables false

/-- an address at which a block begins, or the one behind a block -/
def isB (t : List Be) (y : Nat) : Prop := ∃ e ∈ t, y = e.1.1 ∨ y = e.1.1 + 2 ^ e.1.2
theorem lk_congr {x y : Nat} : ∀ {t : List Be}, (∀ e ∈ t, inb e.1 x = inb e.1 y) → ∀ v, lk x v t = lk y v t
  | [], _, v => rfl
  | e :: r, h, v => by rw [lk_cons, lk_cons, h e (by simp)]; exact lk_congr (fun z hz => h z (List.mem_cons_of_mem _ hz)) _
/-- no block begins or has ended behind x and up to y: the same lookup -/
theorem lk_same {t : List Be} {x y : Nat} (hxy : x ≤ y) (h : ∀ b, x < b → b ≤ y → ¬ isB t b) (v : Int) : lk x v t = lk y v t := lk_congr (fun e he => by
  have hp := pow_pos' e.1.2
  have h1 : ¬ (x < e.1.1 ∧ e.1.1 ≤ y) := fun g => h _ g.1 g.2 ⟨e, he, .inl rfl⟩
  have h2 : ¬ (x < e.1.1 + 2 ^ e.1.2 ∧ e.1.1 + 2 ^ e.1.2 ≤ y) := fun g => h _ g.1 g.2 ⟨e, he, .inr rfl⟩
  unfold inb
  exact decide_eq_decide.2 ⟨fun g => by omega, fun g => by omega⟩) v
theorem lk_before {t : List Be} {y : Nat} (h : ∀ b, b ≤ y → ¬ isB t b) (v : Int) : lk y v t = v := lk_none (fun e he => inb_no fun g => h _ g.1 ⟨e, he, .inl rfl⟩) v
/-- the greatest bound up to y -/
theorem last_bound (P : Nat → Prop) : ∀ y, (∃ x, x ≤ y ∧ P x ∧ ∀ b, x < b → b ≤ y → ¬ P b) ∨ ∀ b, b ≤ y → ¬ P b
  | 0 => by
    by_cases h : P 0
    · exact .inl ⟨0, Nat.le_refl _, h, fun b h1 h2 => by omega⟩
    · exact .inr fun b hb => by rw [Nat.le_zero.1 hb]; exact h
  | y + 1 => by
    by_cases h : P (y + 1)
    · exact .inl ⟨y + 1, Nat.le_refl _, h, fun b h1 h2 => by omega⟩
    · rcases last_bound P y with ⟨x, h1, h2, h3⟩ | h1
      · refine .inl ⟨x, by omega, h2, fun b g1 g2 => ?_⟩
        rcases Nat.lt_or_ge y b with g | g
        · rw [show b = y + 1 by omega]; exact h
        · exact h3 b g1 g
      · refine .inr fun b g2 => ?_
        rcases Nat.lt_or_ge y b with g | g
        · rw [show b = y + 1 by omega]; exact h
        · exact h1 b g
/-- two tables that differ at an address differ at a bound of one of them that is not greater -/
theorem differ_at {a b : List Be} {y : Nat} (h : lk y (-1) a ≠ lk y (-1) b) : ∃ x, x ≤ y ∧ (isB a x ∨ isB b x) ∧ lk x (-1) a ≠ lk x (-1) b := by
  rcases last_bound (fun x => isB a x ∨ isB b x) y with ⟨x, h1, h2, h3⟩ | h1
  · refine ⟨x, h1, h2, ?_⟩
    rw [lk_same h1 (fun c g1 g2 g => h3 c g1 g2 (.inl g)), lk_same h1 (fun c g1 g2 g => h3 c g1 g2 (.inr g))]
    exact h
  · exact absurd ((lk_before (fun c g1 g => h1 c g1 (.inl g)) _).trans (lk_before (fun c g1 g => h1 c g1 (.inr g)) _).symm) h
/-- the first of some ascending addresses, among which all bounds are, at which two tables differ: before it they agree -/
theorem differ_first {a b : List Be} {bs : List Nat} (hb : ∀ x, x < 4294967296 → isB a x ∨ isB b x → x ∈ bs) {n : Nat} (heq : ∀ x ∈ bs, x < n → lk x (-1) a = lk x (-1) b) {y : Nat} (hy : y < n) (hy2 : y < 4294967296) : lk y (-1) a = lk y (-1) b := by
  refine Classical.byContradiction fun hne => ?_
  obtain ⟨x, h1, h2, h3⟩ := differ_at hne
  exact h3 (heq x (hb x (by omega) h2) (by omega))
end Go.Proofs.Ytegponbmelgngaa.AG
end
