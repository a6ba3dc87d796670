/-
  Sets of addresses as aligned blocks: a set has one list of maximal blocks only.
-/
namespace Go.Proofs.Ytegponbmelgngaa.CM
set_option linter.unusedSimpArgs false
set_option linter.unusedVariables false

/-- the block at a of 2^k addresses lies in the set -/
def full (S : Nat → Bool) (a k : Nat) : Prop := ∀ x, a ≤ x → x < a + 2 ^ k → S x = true
theorem pow_pos' (k : Nat) : 0 < 2 ^ k := Nat.pow_pos (by decide)
/-- an aligned block is told by any of its addresses -/
theorem base_of {a k x : Nat} (ha : a % 2 ^ k = 0) (h1 : a ≤ x) (h2 : x < a + 2 ^ k) : x / 2 ^ k * 2 ^ k = a := by
  obtain ⟨q, rfl⟩ := Nat.dvd_of_mod_eq_zero ha
  have hp := pow_pos' k
  have : x / 2 ^ k = q := by
    apply Nat.div_eq_of_lt_le
    · rw [Nat.mul_comm]; exact h1
    · rw [Nat.succ_mul, Nat.mul_comm q]; exact h2
  rw [this, Nat.mul_comm]
theorem in_base (x k : Nat) : x / 2 ^ k * 2 ^ k ≤ x ∧ x < x / 2 ^ k * 2 ^ k + 2 ^ k := by
  have hp := pow_pos' k
  have h1 := Nat.div_add_mod x (2 ^ k)
  have h2 := Nat.mod_lt x hp
  rw [Nat.mul_comm] at h1
  omega
theorem base_al (x k : Nat) : x / 2 ^ k * 2 ^ k % 2 ^ k = 0 := Nat.mul_mod_left _ _
/-- the smaller of two aligned blocks that share an address lies in the larger one -/
theorem nest {a k b j x : Nat} (ha : a % 2 ^ k = 0) (hb : b % 2 ^ j = 0) (hjk : j ≤ k) (h1 : a ≤ x) (h2 : x < a + 2 ^ k) (h3 : b ≤ x) (h4 : x < b + 2 ^ j) :
    a ≤ b ∧ b + 2 ^ j ≤ a + 2 ^ k := by
  have e1 := base_of ha h1 h2
  have e2 := base_of hb h3 h4
  have hpj := pow_pos' j
  obtain ⟨d, rfl⟩ := Nat.le.dest hjk
  have hd : x / 2 ^ (j + d) = x / 2 ^ j / 2 ^ d := by rw [Nat.div_div_eq_div_mul, ← Nat.pow_add]
  have h5 := in_base (x / 2 ^ j) d
  rw [← hd] at h5
  rw [← e1, ← e2, Nat.pow_add, show x / (2 ^ j * 2 ^ d) = x / 2 ^ (j + d) by rw [Nat.pow_add]]
  generalize x / 2 ^ (j + d) = q at h5 ⊢
  generalize x / 2 ^ j = r at h5 ⊢
  have g1 : q * (2 ^ j * 2 ^ d) = q * 2 ^ d * 2 ^ j := by rw [Nat.mul_assoc, Nat.mul_comm (2 ^ d)]
  constructor
  · rw [g1]; exact Nat.mul_le_mul_right _ h5.1
  · rw [g1, Nat.mul_comm (2 ^ j) (2 ^ d), ← Nat.add_mul, ← Nat.succ_mul]
    exact Nat.mul_le_mul_right _ (by omega)
/-- the ascending list of the largest aligned blocks of a set of addresses -/
structure Nrm (S : Nat → Bool) (l : List (Nat × Nat)) : Prop where
  asc : l.Pairwise (fun x y => x.1 + 2 ^ x.2 ≤ y.1)
  al : ∀ x ∈ l, x.1 % 2 ^ x.2 = 0
  le : ∀ x ∈ l, x.2 ≤ 32
  fl : ∀ x ∈ l, full S x.1 x.2
  mx : ∀ x ∈ l, x.2 < 32 → ¬ full S (x.1 / 2 ^ (x.2 + 1) * 2 ^ (x.2 + 1)) (x.2 + 1)
  all : ∀ y, S y = true → ∃ x ∈ l, x.1 ≤ y ∧ y < x.1 + 2 ^ x.2
theorem full.sub {S : Nat → Bool} {a k b j : Nat} (h : full S a k) (h1 : a ≤ b) (h2 : b + 2 ^ j ≤ a + 2 ^ k) : full S b j := fun x hx1 hx2 => h x (by omega) (by omega)
/-- a member of one such list lies in no member of another one that is larger -/
theorem Nrm.not_lt {S : Nat → Bool} {x y : Nat × Nat} (hx : x.1 % 2 ^ x.2 = 0) (hm : x.2 < 32 → ¬ full S (x.1 / 2 ^ (x.2 + 1) * 2 ^ (x.2 + 1)) (x.2 + 1))
    (hy : y.1 % 2 ^ y.2 = 0) (hf : full S y.1 y.2) (hl : y.2 ≤ 32) {z : Nat} (h1 : x.1 ≤ z) (h2 : z < x.1 + 2 ^ x.2) (h3 : y.1 ≤ z) (h4 : z < y.1 + 2 ^ y.2) : y.2 ≤ x.2 := by
  refine Nat.le_of_not_lt fun hlt => hm (by omega) ?_
  have hb := in_base x.1 (x.2 + 1)
  have hp := pow_pos' x.2
  have hin := nest (base_al x.1 (x.2 + 1)) hx (Nat.le_succ _) hb.1 hb.2 (Nat.le_refl _) (by omega)
  have := nest hy (base_al x.1 (x.2 + 1)) hlt h3 h4 (by omega) (by omega)
  exact hf.sub this.1 this.2
theorem Nrm.mem {S : Nat → Bool} {l m : List (Nat × Nat)} (h : Nrm S l) (h' : Nrm S m) : ∀ x ∈ l, x ∈ m := by
  intro x hx
  have hp := pow_pos' x.2
  obtain ⟨y, hy, h1, h2⟩ := h'.all x.1 (h.fl x hx x.1 (Nat.le_refl _) (by omega))
  have a1 := Nrm.not_lt (h.al x hx) (h.mx x hx) (h'.al y hy) (h'.fl y hy) (h'.le y hy) (Nat.le_refl x.1) (by omega) h1 h2
  have a2 := Nrm.not_lt (h'.al y hy) (h'.mx y hy) (h.al x hx) (h.fl x hx) (h.le x hx) h1 h2 (Nat.le_refl x.1) (by omega)
  have e : x.2 = y.2 := by omega
  have b1 := base_of (h'.al y hy) h1 h2
  have b2 := base_of (h.al x hx) (Nat.le_refl x.1) (by omega)
  have : x = y := by
    obtain ⟨xa, xk⟩ := x
    obtain ⟨ya, yk⟩ := y
    dsimp only at e b1 b2
    subst e
    rw [b1] at b2
    rw [b2]
  rw [this]; exact hy
/-- ascending lists with the same members are the same list -/
theorem asc_ext : ∀ {l m : List (Nat × Nat)}, l.Pairwise (fun x y => x.1 + 2 ^ x.2 ≤ y.1) → m.Pairwise (fun x y => x.1 + 2 ^ x.2 ≤ y.1) → (∀ x ∈ l, x ∈ m) → (∀ x ∈ m, x ∈ l) → l = m
  | [], [], _, _, _, _ => rfl
  | [], y :: m, _, _, _, h => by have := h y (by simp); cases this
  | x :: l, [], _, _, h, _ => by have := h x (by simp); cases this
  | x :: l, y :: m, hl, hm, h1, h2 => by
    obtain ⟨hx, hl'⟩ := List.pairwise_cons.1 hl
    obtain ⟨hy, hm'⟩ := List.pairwise_cons.1 hm
    have px := pow_pos' x.2
    have py := pow_pos' y.2
    have e : x = y := by
      rcases List.mem_cons.1 (h1 x (by simp)) with e | h
      · exact e
      · rcases List.mem_cons.1 (h2 y (by simp)) with e | h'
        · exact e.symm
        · have := hy x h
          have := hx y h'
          omega
    subst e
    have no1 : ∀ z ∈ l, z ≠ x := fun z hz e => by have := hx z hz; rw [e] at this; omega
    have no2 : ∀ z ∈ m, z ≠ x := fun z hz e => by have := hy z hz; rw [e] at this; omega
    rw [asc_ext hl' hm' (fun z hz => (List.mem_cons.1 (h1 z (by simp [hz]))).resolve_left (no1 z hz)) (fun z hz => (List.mem_cons.1 (h2 z (by simp [hz]))).resolve_left (no2 z hz))]
/-- a set of addresses has one such list only -/
theorem Nrm.unique {S : Nat → Bool} {l m : List (Nat × Nat)} (h : Nrm S l) (h' : Nrm S m) : l = m :=
  asc_ext h.asc h'.asc (h.mem h') (h'.mem h)
end Go.Proofs.Ytegponbmelgngaa.CM
