/-
  Plain facts about bits of numbers, without any program: bits of a word of 32 bits from the front, sums of bits, the first index with a property.
  Plain facts on prefixes as a pair of an address and a length: validity, covering, sides, order, the longest common prefix.
  Plain facts on lists of prefixes: the order, the reference's insertion, a list sorted and each once, the library's compaction.
  Plain facts on tries: a tree's shape, its entries in order, putting, dropping, the entries above and under a prefix.
-/
import Derived.Lib.SlicesCompact
import Derived.ProofKit
section
namespace Go.Proofs.Ytegponbmelgngaa.M

def atN (x i : Nat) : Nat := x / 2 ^ (31 - i) % 2
def topN (x n : Nat) : Nat := x / 2 ^ (32 - n)
def maskN (n : Nat) : Nat := 4294967296 - 2 ^ (32 - n)
def keepN (x n : Nat) : Nat := x / 2 ^ (32 - n) * 2 ^ (32 - n)
def bitN (x k : Nat) : Nat := x / 2 ^ k % 2
def rankN (x : Nat) : Nat → Nat
  | 0 => 0
  | k + 1 => rankN x k + bitN x k
def lowN (n : Int) (l : Nat) : Nat := min n.toNat l

theorem lowN_le (n : Int) (l : Nat) : lowN n l ≤ l := Nat.min_le_right _ _
theorem atN_le (x i : Nat) : atN x i ≤ 1 := by unfold atN; omega
theorem bitN_le (x i : Nat) : bitN x i ≤ 1 := by unfold bitN; omega
theorem rankN_le (x k : Nat) : rankN x k ≤ k := by
  induction k with
  | zero => simp [rankN]
  | succ k ih => have := bitN_le x k; simp only [rankN]; omega

theorem pow_split {a b : Nat} (h : a ≤ b) : 2 ^ b = 2 ^ a * 2 ^ (b - a) := by
  rw [← Nat.pow_add]; congr 1; omega
theorem pow_succ' (k : Nat) : 2 ^ (k + 1) = 2 * 2 ^ k := by rw [Nat.pow_succ]; omega
theorem pow_le32 {k : Nat} (h : k ≤ 32) : 2 ^ k ≤ 4294967296 := by
  have := Nat.pow_le_pow_right (n := 2) (by omega) h; simpa using this

theorem maskN_lt (n : Nat) : maskN n < 4294967296 := by
  unfold maskN; have : 0 < 2 ^ (32 - n) := Nat.pow_pos (by omega); omega
theorem keepN_le (x n : Nat) : keepN x n ≤ x := Nat.div_mul_le_self _ _

theorem maskN_zero : maskN 0 = 0 := by decide
theorem maskN_succ (k : Nat) (h : k < 32) : maskN (k + 1) = maskN k + 2 ^ (31 - k) := by
  unfold maskN
  have e : 32 - k = (31 - k) + 1 := by omega
  have e2 : 32 - (k + 1) = 31 - k := by omega
  rw [e2, e, pow_succ']
  have := pow_le32 (k := (31 - k) + 1) (by omega)
  rw [pow_succ'] at this
  omega
theorem maskN_mod (k : Nat) (h : k ≤ 32) : maskN k % 2 ^ (32 - k) = 0 := by
  unfold maskN
  have e : 4294967296 = 2 ^ (32 - k) * 2 ^ k := by rw [← Nat.pow_add]; have : 32 - k + k = 32 := by omega
                                                   rw [this]
  have h2 : 4294967296 - 2 ^ (32 - k) = 2 ^ (32 - k) * (2 ^ k - 1) := by rw [Nat.mul_sub, ← e, Nat.mul_one]
  rw [h2]; exact Nat.mul_mod_right _ _

theorem topN_zero (x : Nat) (h : x < 4294967296) : topN x 0 = 0 := by unfold topN; exact Nat.div_eq_of_lt (by simpa using h)
theorem topN_all (x : Nat) : topN x 32 = x := by simp [topN]
theorem topN_succ (x k : Nat) (h : k < 32) : topN x (k + 1) = topN x k * 2 + atN x k := by
  unfold topN atN
  have e : 32 - k = (31 - k) + 1 := by omega
  have e2 : 32 - (k + 1) = 31 - k := by omega
  rw [e2, e, Nat.pow_succ, ← Nat.div_div_eq_div_mul]
  omega
theorem topN_lt (x k : Nat) (h : x < 4294967296) (hk : k ≤ 32) : topN x k < 2 ^ k := by
  unfold topN
  rw [Nat.div_lt_iff_lt_mul (Nat.pow_pos (by omega)), ← Nat.pow_add]
  have : k + (32 - k) = 32 := by omega
  rw [this]; simpa using h
theorem topN_double (x k : Nat) (h : x < 4294967296) (hk : k < 32) : topN x k * 2 + 1 < 4294967296 := by
  have := topN_lt x k h (by omega)
  have h31 := Nat.pow_le_pow_right (n := 2) (by omega) (show k ≤ 31 by omega)
  have : (2 : Nat) ^ 31 = 2147483648 := by decide
  omega

theorem keepN_zero (x : Nat) (h : x < 4294967296) : keepN x 0 = 0 := by
  have := topN_zero x h; unfold topN at this; simp only [keepN, this, Nat.zero_mul]
theorem keepN_all (x : Nat) : keepN x 32 = x := by simp [keepN]
theorem keepN_mod (x k : Nat) : keepN x k % 2 ^ (32 - k) = 0 := by unfold keepN; exact Nat.mul_mod_left _ _
theorem keepN_succ (x k : Nat) (h : k < 32) : keepN x (k + 1) = keepN x k + atN x k * 2 ^ (31 - k) := by
  have t := topN_succ x k h
  unfold topN at t
  unfold keepN
  rw [t, Nat.add_mul]
  have e : 32 - k = (31 - k) + 1 := by omega
  have e2 : 32 - (k + 1) = 31 - k := by omega
  rw [e2]
  congr 1
  rw [Nat.mul_assoc, e, pow_succ']
theorem keepN_eq_iff (x y k : Nat) : keepN x k = keepN y k ↔ topN x k = topN y k := by
  unfold keepN topN
  constructor
  · exact fun h => Nat.eq_of_mul_eq_mul_right (Nat.pow_pos (by omega)) h
  · exact fun h => by rw [h]

theorem nat_join (i x y : Nat) (hx : x % 2 ^ i = 0) (hy : y < 2 ^ i) : x ||| y = x + y := by
  have h := Nat.two_pow_add_eq_or_of_lt hy (x / 2 ^ i)
  have e : 2 ^ i * (x / 2 ^ i) = x := by have := Nat.div_add_mod x (2 ^ i); omega
  rw [e] at h; exact h.symm

theorem maskN_or (k : Nat) (h : k < 32) : maskN k ||| 2 ^ (31 - k) = maskN (k + 1) := by
  rw [maskN_succ k h]
  refine nat_join (32 - k) _ _ (maskN_mod k (by omega)) ?_
  exact Nat.pow_lt_pow_right (by omega) (by omega)
theorem keepN_or (x k : Nat) (h : k < 32) : keepN x k ||| atN x k * 2 ^ (31 - k) = keepN x (k + 1) := by
  rw [keepN_succ x k h]
  refine nat_join (32 - k) _ _ (keepN_mod x k) ?_
  have e : 32 - k = (31 - k) + 1 := by omega
  have := atN_le x k
  rw [e, pow_succ']
  have hp : 0 < 2 ^ (31 - k) := Nat.pow_pos (by omega)
  have := Nat.mul_le_mul_right (2 ^ (31 - k)) this
  omega

theorem testBit_maskN (n j : Nat) (hn : n ≤ 32) : (maskN n).testBit j = (decide (32 - n ≤ j) && decide (j < 32)) := by
  have e : maskN n = 2 ^ 32 - (2 ^ (32 - n) - 1 + 1) := by
    unfold maskN; have : 0 < 2 ^ (32 - n) := Nat.pow_pos (by omega); simp only [show (2:Nat) ^ 32 = 4294967296 by decide]; omega
  rw [e]
  have hlt : 2 ^ (32 - n) - 1 < 2 ^ 32 := by
    have : 0 < 2 ^ (32 - n) := Nat.pow_pos (by omega)
    have := pow_le32 (k := 32 - n) (by omega)
    simp only [show (2:Nat) ^ 32 = 4294967296 by decide]; omega
  rw [Nat.testBit_two_pow_sub_succ hlt, Nat.testBit_two_pow_sub_one]
  by_cases h1 : 32 - n ≤ j <;> by_cases h2 : j < 32 <;> simp [h1, h2] <;> omega
theorem testBit_keepN (x n j : Nat) : (keepN x n).testBit j = (decide (32 - n ≤ j) && x.testBit j) := by
  unfold keepN
  rw [Nat.testBit_mul_two_pow, Nat.testBit_div_two_pow]
  by_cases h : 32 - n ≤ j
  · simp [h]
  · simp [h]
theorem and_maskN (x n : Nat) (hx : x < 4294967296) (hn : n ≤ 32) : x &&& maskN n = keepN x n := by
  apply Nat.eq_of_testBit_eq
  intro j
  rw [Nat.testBit_and, testBit_maskN n j hn, testBit_keepN]
  by_cases h2 : j < 32
  · cases x.testBit j <;> simp [h2]
  · have : x.testBit j = false := Nat.testBit_lt_two_pow (Nat.lt_of_lt_of_le hx (by
      have := Nat.pow_le_pow_right (n := 2) (by omega) (show 32 ≤ j by omega); simpa using this))
    simp [this]

theorem atN_testBit (x i : Nat) : decide (atN x i = 1) = x.testBit (31 - i) := by
  rw [Nat.testBit_eq_decide_div_mod_eq]; rfl
theorem atN_xor (a b i : Nat) : decide (atN (a ^^^ b) i = 1) = decide (atN a i ≠ atN b i) := by
  rw [atN_testBit, Nat.testBit_xor, ← atN_testBit, ← atN_testBit]
  have := atN_le a i; have := atN_le b i
  by_cases h1 : atN a i = 1 <;> by_cases h2 : atN b i = 1 <;> simp [h1, h2] <;> omega

/- the first index below n with a property, or n -/
def first (p : Nat → Bool) : Nat → Nat → Nat
  | k, 0 => k
  | k, f + 1 => if p k then k else first p (k + 1) f
def firstN (p : Nat → Bool) (n : Nat) : Nat := first p 0 n
def NoneTo (p : Nat → Bool) (k : Nat) : Prop := ∀ j, j < k → p j = false
theorem noneTo_zero (p : Nat → Bool) : NoneTo p 0 := fun _ h => absurd h (by omega)
theorem noneTo_succ {p : Nat → Bool} {k : Nat} (h : NoneTo p k) (h1 : p k = false) : NoneTo p (k + 1) := fun j hj => by
  by_cases e : j = k
  · rw [e]; exact h1
  · exact h j (by omega)
theorem first_eq (p : Nat → Bool) (d : Nat) : ∀ (k f : Nat), d ≤ f → (∀ j, k ≤ j → j < k + d → p j = false) → (d < f → p (k + d) = true) → first p k f = k + d := by
  induction d with
  | zero =>
    intro k f _ _ h1
    cases f with
    | zero => simp [first]
    | succ f => simp only [first]; rw [if_pos (by simpa using h1 (by omega))]; rfl
  | succ d ih =>
    intro k f hf h0 h1
    cases f with
    | zero => omega
    | succ f =>
      simp only [first]
      rw [if_neg (by simp [h0 k (by omega) (by omega)]), ih (k + 1) f (by omega) (fun j hj hj' => h0 j (by omega) (by omega)) (fun hd => by
        have := h1 (by omega)
        have e : k + 1 + d = k + (d + 1) := by omega
        rw [e]; exact this)]
      omega
theorem firstN_hit {p : Nat → Bool} {n k : Nat} (h : NoneTo p k) (hk : k < n) (h1 : p k = true) : firstN p n = k := by
  have := first_eq p k 0 n (by omega) (fun j _ hj => h j (by omega)) (fun _ => by simpa using h1)
  simpa [firstN] using this
theorem firstN_miss {p : Nat → Bool} {n : Nat} (h : NoneTo p n) : firstN p n = n := by
  have := first_eq p n 0 n (by omega) (fun j _ hj => h j (by omega)) (fun h => absurd h (by omega))
  simpa [firstN] using this
theorem first_spec (p : Nat → Bool) (f : Nat) : ∀ k, k ≤ first p k f ∧ first p k f ≤ k + f ∧ (∀ j, k ≤ j → j < first p k f → p j = false) ∧ (first p k f < k + f → p (first p k f) = true) := by
  induction f with
  | zero => intro k; simp only [first]; exact ⟨by omega, by omega, fun j h1 h2 => by omega, fun h => by omega⟩
  | succ f ih =>
    intro k
    simp only [first]
    by_cases h : p k = true
    · rw [if_pos h]; exact ⟨by omega, by omega, fun j h1 h2 => by omega, fun _ => h⟩
    · rw [if_neg h]
      obtain ⟨a, b, c, d⟩ := ih (k + 1)
      exact ⟨by omega, by omega, fun j h1 h2 => by
        by_cases e : j = k
        · rw [e]; simpa using h
        · exact c j (by omega) h2, fun hh => d (by omega)⟩
theorem firstN_le (p : Nat → Bool) (n : Nat) : firstN p n ≤ n := by have := first_spec p n 0; unfold firstN; omega
theorem firstN_none (p : Nat → Bool) (n : Nat) : NoneTo p (firstN p n) := fun j hj => (first_spec p n 0).2.2.1 j (by omega) hj
theorem firstN_at (p : Nat → Bool) (n : Nat) (h : firstN p n < n) : p (firstN p n) = true := (first_spec p n 0).2.2.2 (by unfold firstN at h; omega)
theorem firstN_congr {p q : Nat → Bool} (h : ∀ i, p i = q i) (n : Nat) : firstN p n = firstN q n := by
  have : p = q := funext h
  rw [this]

def leadN (x : Nat) : Nat := firstN (fun i => decide (atN x i = 1)) 32
def trailN (x : Nat) : Nat := firstN (fun i => decide (atN x (31 - i) = 1)) 32
def comN (a b : Nat) : Nat := firstN (fun i => decide (atN a i ≠ atN b i)) 32
theorem leadN_le (x : Nat) : leadN x ≤ 32 := firstN_le _ _
theorem trailN_le (x : Nat) : trailN x ≤ 32 := firstN_le _ _
theorem comN_le (a b : Nat) : comN a b ≤ 32 := firstN_le _ _
theorem leadN_xor (a b : Nat) : leadN (a ^^^ b) = comN a b := firstN_congr (fun i => atN_xor a b i) 32
theorem atN_zero (i : Nat) : atN 0 i = 0 := by unfold atN; rw [Nat.zero_div]
theorem comN_zero (a : Nat) : comN a 0 = leadN a := firstN_congr (fun i => by
  have := atN_le a i
  rw [atN_zero]
  by_cases h : atN a i = 1 <;> simp [h] <;> omega) 32

theorem topN_eq_iff (a b : Nat) (ha : a < 4294967296) (hb : b < 4294967296) (n : Nat) (hn : n ≤ 32) : topN a n = topN b n ↔ ∀ i, i < n → atN a i = atN b i := by
  induction n with
  | zero => simp [topN_zero a ha, topN_zero b hb]
  | succ n ih =>
    have ih := ih (by omega)
    rw [topN_succ a n (by omega), topN_succ b n (by omega)]
    have h1 := atN_le a n; have h2 := atN_le b n
    constructor
    · intro h i hi
      have e : topN a n = topN b n := by omega
      by_cases e2 : i = n
      · rw [e2]; omega
      · exact ih.1 e i (by omega)
    · intro h
      have e := ih.2 (fun i hi => h i (by omega))
      have := h n (by omega)
      omega
theorem keep_com (a b : Nat) (ha : a < 4294967296) (hb : b < 4294967296) (n : Nat) (hn : n ≤ 32) : keepN a n = keepN b n ↔ n ≤ comN a b := by
  rw [keepN_eq_iff, topN_eq_iff a b ha hb n hn]
  constructor
  · intro h
    by_cases hc : comN a b < n
    · have := firstN_at (fun i => decide (atN a i ≠ atN b i)) 32 (show comN a b < 32 by omega)
      have h2 := h _ hc
      exact absurd h2 (of_decide_eq_true this)
    · omega
  · intro h i hi
    have := firstN_none (fun i => decide (atN a i ≠ atN b i)) 32 i (show i < comN a b by omega)
    simpa using this
end Go.Proofs.Ytegponbmelgngaa.M
end

section
namespace Go.Proofs.Ytegponbmelgngaa
set_option linter.unusedSimpArgs false
set_option linter.unusedVariables false

abbrev I64 (n : Int) : Prop := -9223372036854775808 ≤ n ∧ n ≤ 9223372036854775807
def atZ (x : Nat) (n : Int) : Nat := if 0 ≤ n ∧ n ≤ 31 then M.atN x n.toNat else 0
def vld (a : Nat) (n : Int) : Bool := decide (0 ≤ n ∧ n ≤ 32 ∧ M.keepN a (M.lowN n 32) = a)
theorem vld_yes {a : Nat} {n : Int} (h0 : 0 ≤ n) (h1 : n ≤ 32) (h : M.keepN a (M.lowN n 32) = a) : vld a n = true := by unfold vld; simp [h0, h1, h]
theorem vld_no {a : Nat} {n : Int} (h : M.keepN a (M.lowN n 32) ≠ a) : vld a n = false := by unfold vld; simp [h]
theorem vld_out {a : Nat} {n : Int} (h : n < 0 ∨ 32 < n) : vld a n = false := by unfold vld; simp; omega
theorem vld_in {a : Nat} {n : Int} (h : vld a n = true) : 0 ≤ n ∧ n ≤ 32 ∧ M.keepN a (M.lowN n 32) = a := by unfold vld at h; simpa using h
def con (a : Nat) (n : Int) (x : Nat) : Bool := vld a n && decide (M.keepN x (M.lowN n 32) = a)
theorem con_out {a : Nat} {n : Int} {x : Nat} (h : vld a n = false) : con a n x = false := by unfold con; simp [h]
theorem con_yes {a : Nat} {n : Int} {x : Nat} (h : vld a n = true) (h2 : M.keepN x (M.lowN n 32) = a) : con a n x = true := by unfold con; simp [h, h2]
theorem con_no {a : Nat} {n : Int} {x : Nat} (h2 : M.keepN x (M.lowN n 32) ≠ a) : con a n x = false := by unfold con; simp [h2]
def cov (a : Nat) (n : Int) (b : Nat) (m : Int) : Bool := vld b m && (decide (n ≤ m) && con a n b)
theorem cov_out {a : Nat} {n : Int} {b : Nat} {m : Int} (h : vld b m = false) : cov a n b m = false := by unfold cov; simp [h]
theorem cov_gt {a : Nat} {n : Int} {b : Nat} {m : Int} (h : ¬ n ≤ m) : cov a n b m = false := by unfold cov; simp [h]
theorem cov_in {a : Nat} {n : Int} {b : Nat} {m : Int} (h : vld b m = true) (h2 : n ≤ m) : cov a n b m = con a n b := by unfold cov; simp [h, h2]
theorem cov_con {a : Nat} {n : Int} {b : Nat} {m : Int} (h : con a n b = false) : cov a n b m = false := by unfold cov; simp [h]

/-- a prefix as its address and its length -/
abbrev PP : Type := Nat × Int
def ltP (x y : PP) : Prop := x.1 < y.1 ∨ (x.1 = y.1 ∧ x.2 < y.2)
instance (x y : PP) : Decidable (ltP x y) := inferInstanceAs (Decidable (_ ∨ _))
theorem ltP_irrefl (x : PP) : ¬ ltP x x := by unfold ltP; omega
theorem ltP_trans {x y z : PP} (h1 : ltP x y) (h2 : ltP y z) : ltP x z := by unfold ltP at *; omega
theorem ltP_asymm {x y : PP} (h1 : ltP x y) (h2 : ltP y x) : False := ltP_irrefl _ (ltP_trans h1 h2)
theorem ltP_or (x y : PP) : ltP x y ∨ x = y ∨ ltP y x := by
  unfold ltP
  rcases Nat.lt_trichotomy x.1 y.1 with h | h | h
  · left; omega
  · rcases Int.lt_trichotomy x.2 y.2 with h' | h' | h'
    · left; omega
    · right; left; exact Prod.ext h h'
    · right; right; omega
  · right; right; omega
theorem ltP_ne {x y : PP} (h : ltP x y) : x ≠ y := fun e => ltP_irrefl _ (e ▸ h)

/-- p is a valid prefix -/
def V (p : PP) : Bool := vld p.1 p.2
/-- p covers q -/
def C (p q : PP) : Bool := cov p.1 p.2 q.1 q.2
/-- a valid prefix of a 32-bit address -/
def PV (p : PP) : Prop := p.1 < 4294967296 ∧ V p = true

theorem low_in {n : Int} (h0 : 0 ≤ n) (h1 : n ≤ 32) : M.lowN n 32 = n.toNat := by unfold M.lowN; omega
theorem V_iff (p : PP) : V p = true ↔ 0 ≤ p.2 ∧ p.2 ≤ 32 ∧ M.keepN p.1 p.2.toNat = p.1 := by
  constructor
  · intro h; have := vld_in h; rw [low_in this.1 this.2.1] at this; exact this
  · rintro ⟨h0, h1, h2⟩; exact vld_yes h0 h1 (by rw [low_in h0 h1]; exact h2)
theorem C_iff (p q : PP) : C p q = true ↔ V p = true ∧ V q = true ∧ p.2 ≤ q.2 ∧ M.topN q.1 p.2.toNat = M.topN p.1 p.2.toNat := by
  unfold C cov con
  rw [Bool.and_eq_true, Bool.and_eq_true, Bool.and_eq_true, decide_eq_true_iff, decide_eq_true_iff]
  constructor
  · rintro ⟨h1, h2, h3, h4⟩
    have i := vld_in h3
    refine ⟨h3, h1, h2, ?_⟩
    rw [low_in i.1 i.2.1] at h4 i
    exact (M.keepN_eq_iff _ _ _).1 (h4.trans i.2.2.symm)
  · rintro ⟨h3, h1, h2, h4⟩
    have i := vld_in h3
    refine ⟨h1, h2, h3, ?_⟩
    rw [low_in i.1 i.2.1] at *
    exact ((M.keepN_eq_iff _ _ _).2 h4).trans i.2.2
theorem top_trunc {x y j k : Nat} (hj : j ≤ k) (hk : k ≤ 32) (h : M.topN x k = M.topN y k) : M.topN x j = M.topN y j := by
  have e : ∀ z, M.topN z j = M.topN z k / 2 ^ (k - j) := fun z => by
    unfold M.topN; rw [Nat.div_div_eq_div_mul, ← Nat.pow_add]; congr 2; omega
  rw [e, e, h]
theorem at_top (x i : Nat) (h : i < 32) : M.atN x i = M.topN x (i + 1) % 2 := by
  rw [M.topN_succ x i h]; have := M.atN_le x i; omega
theorem at_of_top {x y i k : Nat} (hi : i < k) (hk : k ≤ 32) (h : M.topN x k = M.topN y k) : M.atN x i = M.atN y i := by
  rw [at_top x i (by omega), at_top y i (by omega), top_trunc (by omega) hk h]
theorem atZ_in {x : Nat} {n : Int} (h0 : 0 ≤ n) (h1 : n ≤ 31) : atZ x n = M.atN x n.toNat := by unfold atZ; rw [if_pos ⟨h0, h1⟩]
theorem atZ_le (x : Nat) (n : Int) : atZ x n ≤ 1 := by unfold atZ; split; exact M.atN_le _ _; omega

theorem C_V {p q : PP} (h : C p q = true) : V p = true ∧ V q = true ∧ p.2 ≤ q.2 ∧ 0 ≤ p.2 ∧ q.2 ≤ 32 :=
  have h1 := (C_iff p q).1 h
  ⟨h1.1, h1.2.1, h1.2.2.1, ((V_iff p).1 h1.1).1, ((V_iff q).1 h1.2.1).2.1⟩
theorem C_refl {p : PP} (h : V p = true) : C p p = true := (C_iff p p).2 ⟨h, h, Int.le_refl _, rfl⟩
theorem C_trans {p q r : PP} (h1 : C p q = true) (h2 : C q r = true) : C p r = true := by
  obtain ⟨a1, a2, a3, a4⟩ := (C_iff _ _).1 h1
  obtain ⟨b1, b2, b3, b4⟩ := (C_iff _ _).1 h2
  have i := (V_iff _).1 b1
  have j := (V_iff _).1 a1
  exact (C_iff _ _).2 ⟨a1, b2, by omega, (top_trunc (by omega) (by omega) b4).trans a4⟩
theorem C_nest {p q r : PP} (h1 : C p r = true) (h2 : C q r = true) : C p q = true ∨ C q p = true := by
  obtain ⟨a1, a2, a3, a4⟩ := (C_iff _ _).1 h1
  obtain ⟨b1, b2, b3, b4⟩ := (C_iff _ _).1 h2
  have i := (V_iff _).1 a1
  have j := (V_iff _).1 b1
  rcases (by omega : p.2 ≤ q.2 ∨ q.2 ≤ p.2) with h | h
  · exact .inl ((C_iff _ _).2 ⟨a1, b1, h, (top_trunc (by omega) (by omega) b4).symm.trans a4⟩)
  · exact .inr ((C_iff _ _).2 ⟨b1, a1, h, (top_trunc (by omega) (by omega) a4).symm.trans b4⟩)
theorem C_len {p q : PP} (h : C p q = true) (e : q.2 ≤ p.2) : p = q := by
  obtain ⟨a1, a2, a3, a4⟩ := (C_iff _ _).1 h
  have i := (V_iff _).1 a1
  have j := (V_iff _).1 a2
  have e2 : p.2 = q.2 := by omega
  refine Prod.ext ?_ e2
  rw [← i.2.2, ← j.2.2, ← e2]; exact ((M.keepN_eq_iff _ _ _).2 a4).symm
theorem C_anti {p q : PP} (h : C p q = true) (h2 : C q p = true) : p = q := C_len h (C_V h2).2.2.1
theorem C_strict {p q : PP} (h : C p q = true) (hn : p ≠ q) : p.2 < q.2 := by
  rcases (by omega : p.2 < q.2 ∨ q.2 ≤ p.2) with h1 | h1
  · exact h1
  · exact absurd (C_len h h1) hn
theorem C_side {p q r : PP} (h : C q r = true) (hl : p.2 < q.2) : atZ r.1 p.2 = atZ q.1 p.2 := by
  obtain ⟨a1, a2, a3, a4⟩ := (C_iff _ _).1 h
  have i := (V_iff _).1 a1
  unfold atZ
  by_cases hc : 0 ≤ p.2 ∧ p.2 ≤ 31
  · rw [if_pos hc, if_pos hc]; exact at_of_top (k := q.2.toNat) (by omega) (by omega) a4
  · rw [if_neg hc, if_neg hc]
theorem C_le {p q : PP} (h : C p q = true) : p.1 ≤ q.1 := by
  obtain ⟨a1, a2, a3, a4⟩ := (C_iff _ _).1 h
  have i := (V_iff _).1 a1
  have := M.keepN_le q.1 p.2.toNat
  rw [(M.keepN_eq_iff _ _ _).2 a4, i.2.2] at this
  exact this
theorem C_lt {p q : PP} (h : C p q = true) (hl : p.2 < q.2) : ltP p q := by
  have := C_le h
  unfold ltP; omega
theorem sides_lt {p q r : PP} (h1 : C p q = true) (h2 : C p r = true) (l1 : p.2 < q.2) (l2 : p.2 < r.2) (s1 : atZ q.1 p.2 = 0) (s2 : atZ r.1 p.2 = 1) : ltP q r := by
  obtain ⟨a1, a2, a3, a4⟩ := (C_iff _ _).1 h1
  obtain ⟨b1, b2, b3, b4⟩ := (C_iff _ _).1 h2
  have i := (V_iff _).1 a1
  have j := (V_iff _).1 a2
  rw [atZ_in (by omega) (by omega)] at s1 s2
  left
  have t1 := M.topN_succ q.1 p.2.toNat (by omega)
  have t2 := M.topN_succ r.1 p.2.toNat (by omega)
  rw [a4, s1] at t1
  rw [b4, s2] at t2
  rcases (by omega : q.1 < r.1 ∨ r.1 ≤ q.1) with h | h
  · exact h
  · have : M.topN r.1 (p.2.toNat + 1) ≤ M.topN q.1 (p.2.toNat + 1) := by unfold M.topN; exact Nat.div_le_div_right h
    omega
theorem C_sides {p q r : PP} (l1 : p.2 < q.2) (hs : atZ q.1 p.2 ≠ atZ r.1 p.2) : C q r = false := by
  cases h : C q r
  · rfl
  · exact absurd (C_side h l1).symm hs

/-- the longest prefix that covers both -/
def shr (p o : PP) : PP := (M.keepN p.1 (M.lowN (min p.2 (M.comN p.1 o.1 : Nat)) 32), min p.2 (M.comN p.1 o.1 : Nat))
theorem keep_keep (x n m : Nat) (h : m ≤ n) (hn : n ≤ 32) : M.keepN (M.keepN x n) m = M.keepN x m := by
  unfold M.keepN
  have e : 2 ^ (32 - m) = 2 ^ (32 - n) * 2 ^ (n - m) := by rw [← Nat.pow_add]; congr 1; omega
  have hp : 0 < 2 ^ (32 - n) := Nat.pow_pos (by omega)
  rw [e, ← Nat.div_div_eq_div_mul, ← Nat.div_div_eq_div_mul, Nat.mul_div_cancel _ hp]
theorem shr_spec {p o : PP} (hp : PV p) (ho : PV o) (hc : C o p = false) :
    PV (shr p o) ∧ C (shr p o) p = true ∧ C (shr p o) o = true ∧ (shr p o).2 < o.2 ∧ (shr p o ≠ p → (shr p o).2 < p.2 ∧ atZ p.1 (shr p o).2 ≠ atZ o.1 (shr p o).2)
      ∧ ∀ k : Nat, (k : Int) ≤ p.2 → M.topN p.1 k = M.topN o.1 k → (k : Int) ≤ (shr p o).2 := by
  have ip := (V_iff _).1 hp.2
  have io := (V_iff _).1 ho.2
  have hcl := M.comN_le p.1 o.1
  have hk := M.keep_com p.1 o.1 hp.1 ho.1
  have hn : ∃ c : Nat, (shr p o).2 = c ∧ (c : Int) ≤ p.2 ∧ c ≤ M.comN p.1 o.1 ∧ c ≤ 32 ∧ ((c : Int) = p.2 ∨ c = M.comN p.1 o.1) :=
    ⟨(shr p o).2.toNat, by unfold shr; dsimp only; omega, by unfold shr; dsimp only; omega, by unfold shr; dsimp only; omega, by unfold shr; dsimp only; omega, by unfold shr; dsimp only; omega⟩
  obtain ⟨c, e2, c1, c2, c3, c4⟩ := hn
  have e1 : (shr p o).1 = M.keepN p.1 c := by
    have : (shr p o).1 = M.keepN p.1 (M.lowN (shr p o).2 32) := rfl
    rw [this, e2, low_in (by omega) (by omega)]; rfl
  have hle := M.keepN_le p.1 c
  have hpv : V (shr p o) = true := (V_iff _).2 ⟨by omega, by omega, by rw [e1, e2]; exact keep_keep _ _ _ (Nat.le_refl _) c3⟩
  have htp : M.topN (shr p o).1 c = M.topN p.1 c := by rw [e1]; exact (M.keepN_eq_iff _ _ _).1 (keep_keep _ _ _ (Nat.le_refl _) c3)
  have hto : M.topN p.1 c = M.topN o.1 c := (M.keepN_eq_iff _ _ _).1 ((hk c c3).2 c2)
  have hlt : (c : Int) < o.2 := by
    rcases (by omega : (c : Int) < o.2 ∨ o.2 ≤ c) with h | h
    · exact h
    · have : C o p = true := (C_iff _ _).2 ⟨ho.2, hp.2, by omega, top_trunc (by omega) c3 hto⟩
      rw [this] at hc; cases hc
  refine ⟨⟨by rw [e1]; exact Nat.lt_of_le_of_lt hle hp.1, hpv⟩, (C_iff _ _).2 ⟨hpv, hp.2, by omega, by rw [e2]; exact htp.symm⟩, (C_iff _ _).2 ⟨hpv, ho.2, by omega, by rw [e2]; exact (htp.trans hto).symm⟩, by omega, ?_, ?_⟩
  · intro hne
    have hcp : (c : Int) < p.2 := by
      rcases (by omega : (c : Int) < p.2 ∨ (c : Int) = p.2) with h | h
      · exact h
      · exact absurd (Prod.ext (by rw [e1, show c = p.2.toNat by omega]; exact ip.2.2) (by omega)) hne
    refine ⟨by omega, ?_⟩
    rw [e2, atZ_in (by omega) (by omega), atZ_in (by omega) (by omega)]
    have h32 : M.comN p.1 o.1 < 32 := by omega
    have := M.firstN_at (fun i => decide (M.atN p.1 i ≠ M.atN o.1 i)) 32 h32
    have hcc : c = M.comN p.1 o.1 := by omega
    rw [show ((c : Int)).toNat = M.comN p.1 o.1 by omega]
    exact of_decide_eq_true this
  · intro k h1 h2
    have := (hk k (by omega)).1 ((M.keepN_eq_iff _ _ _).2 h2)
    omega
end Go.Proofs.Ytegponbmelgngaa
end

section
namespace Go.Proofs.Ytegponbmelgngaa
open Go.Sort Go.Lib

/-- strictly ascending -/
abbrev AscP (l : List PP) : Prop := l.Pairwise ltP

theorem ascP_ext : ∀ {l m : List PP}, AscP l → AscP m → (∀ x, x ∈ l ↔ x ∈ m) → l = m
  | [], [], _, _, _ => rfl
  | [], y :: m, _, _, h => by have := (h y).2 (by simp); simp at this
  | x :: l, [], _, _, h => by have := (h x).1 (by simp); simp at this
  | x :: l, y :: m, hl, hm, h => by
    replace hl := List.pairwise_cons.1 hl
    replace hm := List.pairwise_cons.1 hm
    have e : x = y := by
      have a := (h x).1 (by simp)
      have b := (h y).2 (by simp)
      rw [List.mem_cons] at a b
      rcases a with a | a
      · exact a
      · rcases b with b | b
        · exact b.symm
        · exact absurd (ltP_trans (hl.1 y b) (hm.1 x a)) (ltP_irrefl x)
    subst e
    rw [ascP_ext hl.2 hm.2 fun z => ⟨fun hz => by
      have := (h z).1 (List.mem_cons_of_mem _ hz)
      rcases List.mem_cons.1 this with rfl | h'
      · exact absurd (hl.1 z hz) (ltP_irrefl z)
      · exact h', fun hz => by
      have := (h z).2 (List.mem_cons_of_mem _ hz)
      rcases List.mem_cons.1 this with rfl | h'
      · exact absurd (hm.1 z hz) (ltP_irrefl z)
      · exact h'⟩]

/-- one round of the reference's insertion -/
def stp (p : PP) (s : List PP × Bool) (x : PP) : List PP × Bool :=
  if ltP p x then (if s.2 then s.1 ++ [x] else s.1 ++ [p] ++ [x], true)
  else if p = x then (if s.2 then s.1 else s.1 ++ [p], true)
  else (s.1 ++ [x], s.2)
def insR (l : List PP) (p : PP) : List PP :=
  let s := l.foldl (stp p) ([], false)
  if s.2 then s.1 else s.1 ++ [p]
def sortR (l : List PP) : List PP := l.foldl insR []
def insA (p : PP) : List PP → List PP
  | [] => [p]
  | x :: r => if ltP p x then p :: x :: r else if p = x then p :: r else x :: insA p r
theorem fold_true (p : PP) : ∀ (l out : List PP), (∀ x ∈ l, ltP p x) → l.foldl (stp p) (out, true) = (out ++ l, true)
  | [], out, _ => by simp
  | x :: r, out, h => by
    rw [List.foldl_cons, stp, if_pos (h x (by simp))]
    simp only [if_true]
    rw [fold_true p r _ fun y hy => h y (List.mem_cons_of_mem _ hy)]
    simp
theorem fold_false (p : PP) : ∀ (l out : List PP), AscP l → (let s := l.foldl (stp p) (out, false); if s.2 then s.1 else s.1 ++ [p]) = out ++ insA p l
  | [], out, _ => by simp [insA]
  | x :: r, out, h => by
    replace h := List.pairwise_cons.1 h
    rw [List.foldl_cons]
    by_cases h1 : ltP p x
    · rw [stp, if_pos h1, insA, if_pos h1]
      simp only [if_neg (show ¬ (false = true) by decide)]
      rw [fold_true p r _ fun y hy => ltP_trans h1 (h.1 y hy)]
      simp
    · by_cases h2 : p = x
      · rw [stp, if_neg h1, if_pos h2, insA, if_neg h1, if_pos h2]
        simp only [if_neg (show ¬ (false = true) by decide)]
        rw [fold_true p r _ fun y hy => h2 ▸ h.1 y hy]
        simp
      · rw [stp, if_neg h1, if_neg h2, insA, if_neg h1, if_neg h2]
        have := fold_false p r (out ++ [x]) h.2
        simp only [] at this ⊢
        rw [this]; simp
theorem insR_eq {l : List PP} (p : PP) (h : AscP l) : insR l p = insA p l := by
  have := fold_false p l [] h
  rw [List.nil_append] at this
  exact this
theorem mem_insA (p : PP) : ∀ (l : List PP) (x : PP), x ∈ insA p l ↔ x = p ∨ x ∈ l
  | [], x => by simp [insA]
  | y :: r, x => by
    rw [insA]
    split
    · simp
    · split
      · rename_i h; subst h; simp
      · rw [List.mem_cons, mem_insA p r x, List.mem_cons]
        constructor
        · rintro (h | h | h)
          · exact .inr (.inl h)
          · exact .inl h
          · exact .inr (.inr h)
        · rintro (h | h | h)
          · exact .inr (.inl h)
          · exact .inl h
          · exact .inr (.inr h)
theorem asc_insA (p : PP) : ∀ {l : List PP}, AscP l → AscP (insA p l)
  | [], _ => by simp [insA, AscP]
  | y :: r, h => by
    have h' := List.pairwise_cons.1 h
    rw [insA]
    split
    · rename_i h1
      refine List.pairwise_cons.2 ⟨fun z hz => ?_, h⟩
      rcases List.mem_cons.1 hz with rfl | hz
      · exact h1
      · exact ltP_trans h1 (h'.1 z hz)
    · split
      · rename_i h1 h2; subst h2; exact h
      · rename_i h1 h2
        refine List.pairwise_cons.2 ⟨fun z hz => ?_, asc_insA p h'.2⟩
        rcases (mem_insA p r z).1 hz with rfl | hz
        · rcases ltP_or z y with h3 | h3 | h3
          · exact absurd h3 h1
          · exact absurd h3 h2
          · exact h3
        · exact h'.1 z hz
theorem sortR_fold : ∀ (l out : List PP), AscP out → AscP (l.foldl insR out) ∧ ∀ x, x ∈ l.foldl insR out ↔ x ∈ out ∨ x ∈ l
  | [], out, h => ⟨h, fun x => by simp⟩
  | p :: r, out, h => by
    rw [List.foldl_cons, insR_eq p h]
    have ih := sortR_fold r (insA p out) (asc_insA p h)
    refine ⟨ih.1, fun x => ?_⟩
    rw [ih.2, mem_insA, List.mem_cons]
    constructor
    · rintro ((h | h) | h)
      · exact .inr (.inl h)
      · exact .inl h
      · exact .inr (.inr h)
    · rintro (h | h | h)
      · exact .inl (.inr h)
      · exact .inl (.inl h)
      · exact .inr h
theorem sortR_asc (l : List PP) : AscP (sortR l) := (sortR_fold l [] List.Pairwise.nil).1
theorem mem_sortR (l : List PP) (x : PP) : x ∈ sortR l ↔ x ∈ l := by
  rw [sortR, (sortR_fold l [] List.Pairwise.nil).2]; simp
theorem sortR_le (l : List PP) (k : Nat) : (sortR (l.take k)).length ≤ k := by
  have h : ∀ (l out : List PP), (l.foldl insR out).length ≤ out.length + l.length := by
    intro l
    induction l with
    | nil => intro out; simp
    | cons p r ih =>
      intro out
      rw [List.foldl_cons]
      refine Nat.le_trans (ih _) ?_
      have : (insR out p).length ≤ out.length + 1 := by
        have g : ∀ (m : List PP) (s : List PP × Bool), (m.foldl (stp p) s).1.length + (if (m.foldl (stp p) s).2 then 0 else 1) ≤ s.1.length + (if s.2 then 0 else 1) + m.length := by
          intro m
          induction m with
          | nil => intro s; exact Nat.le_refl _
          | cons x r ih =>
            intro s
            rw [List.foldl_cons]
            refine Nat.le_trans (ih _) ?_
            have : (stp p s x).1.length + (if (stp p s x).2 then 0 else 1) ≤ s.1.length + (if s.2 then 0 else 1) + 1 := by
              obtain ⟨o, b⟩ := s
              unfold stp
              cases b <;> (repeat' split) <;> simp_all <;> omega
            simp only [List.length_cons]; omega
        have := g out ([], false)
        unfold insR
        simp only [] at this ⊢
        split <;> simp_all <;> omega
      simp only [List.length_cons]; omega
  have := h (l.take k) []
  rw [List.length_take] at this
  simp only [List.length_nil] at this
  unfold sortR
  omega
/-- the library's compaction of a sorted row -/
theorem compact_sorted (d : Array PP) (hs : ∀ i j, i < j → j < d.size → ¬ ltP d[j]! d[i]!) : ∀ m, m ≤ d.size →
    AscP (compactUpTo d m) ∧ ∀ x, x ∈ compactUpTo d m ↔ ∃ j, j < m ∧ d[j]! = x
  | 0, _ => ⟨List.Pairwise.nil, fun x => by simp [compactUpTo]⟩
  | m + 1, hm => by
    have ih := compact_sorted d hs m (by omega)
    rw [compactUpTo_succ]
    by_cases hk : keeps d m = true
    · rw [if_pos hk]
      have hk' : m = 0 ∨ d[m]! ≠ d[m - 1]! := by simpa [keeps] using hk
      refine ⟨?_, fun x => ?_⟩
      · refine List.pairwise_append.2 ⟨ih.1, List.pairwise_singleton _ _, fun x hx y hy => ?_⟩
        rw [List.mem_singleton] at hy
        subst hy
        obtain ⟨j, hj, rfl⟩ := (ih.2 x).1 hx
        rcases ltP_or d[j]! d[m]! with h | h | h
        · exact h
        · exfalso
          have hm1 : d[m]! ≠ d[m - 1]! := by rcases hk' with h0 | h0; · omega
                                             · exact h0
          rcases Nat.lt_or_ge j (m - 1) with hjm | hjm
          · rcases ltP_or d[m]! d[m - 1]! with h3 | h3 | h3
            · exact hs (m - 1) m (by omega) (by omega) h3
            · exact hm1 h3
            · rw [← h] at h3; exact hs j (m - 1) hjm (by omega) h3
          · obtain rfl : j = m - 1 := by omega
            exact hm1 h.symm
        · exact absurd h (hs j m hj (by omega))
      · rw [List.mem_append, ih.2, List.mem_singleton]
        constructor
        · rintro (⟨j, hj, h⟩ | h)
          · exact ⟨j, by omega, h⟩
          · exact ⟨m, by omega, h.symm⟩
        · rintro ⟨j, hj, h⟩
          rcases Nat.lt_or_ge j m with h1 | h1
          · exact .inl ⟨j, h1, h⟩
          · obtain rfl : j = m := by omega
            exact .inr h.symm
    · rw [if_neg hk, List.append_nil]
      have hk' : ¬ (m = 0 ∨ d[m]! ≠ d[m - 1]!) := by simpa [keeps] using hk
      have e : d[m]! = d[m - 1]! := Classical.byContradiction fun h => hk' (.inr h)
      refine ⟨ih.1, fun x => ?_⟩
      rw [ih.2]
      constructor
      · rintro ⟨j, hj, h⟩; exact ⟨j, by omega, h⟩
      · rintro ⟨j, hj, h⟩
        rcases Nat.lt_or_ge j m with h1 | h1
        · exact ⟨j, h1, h⟩
        · obtain rfl : j = m := by omega
          exact ⟨j - 1, by have := fun h => hk' (.inl h); omega, by rw [← e]; exact h⟩
theorem compact_le (d : Array PP) (m : Nat) : (compactUpTo d m).length ≤ m := by
  unfold compactUpTo
  rw [List.length_map]
  exact Nat.le_trans (List.length_filter_le _ _) (by simp)
/-- sorted and compacted: what the reference says -/
theorem compact_sortR (d d' : Array PP) (hs : ∀ i j, i < j → j < d'.size → ¬ ltP d'[j]! d'[i]!) (hp : d'.toList.Perm d.toList) : compactUpTo d' d'.size = sortR d.toList := by
  have h := compact_sorted d' hs d'.size (Nat.le_refl _)
  refine ascP_ext h.1 (sortR_asc _) fun x => ?_
  rw [h.2, mem_sortR, ← hp.mem_iff]
  constructor
  · rintro ⟨j, hj, rfl⟩; rw [getElem!_pos d' j hj]; simp
  · intro hx
    obtain ⟨j, hj, e⟩ := List.getElem_of_mem hx
    have hj' : j < d'.size := by simpa using hj
    exact ⟨j, hj', by rw [getElem!_pos d' j hj', ← e]; simp⟩
end Go.Proofs.Ytegponbmelgngaa
end

section
namespace Go.Proofs.Ytegponbmelgngaa
set_option linter.unusedSimpArgs false
set_option linter.unusedVariables false

/-- an entry: its prefix and its value -/
abbrev En : Type := PP × Int
abbrev AscE (l : List En) : Prop := l.Pairwise (fun x y => ltP x.1 y.1)
inductive Sh where
  | nil : Sh
  | node (p : PP) (v : Int) (s : Bool) (l r : Sh) : Sh
def prefs : Sh → List PP
  | .nil => []
  | .node p _ _ l r => p :: (prefs l ++ prefs r)
def ents : Sh → List En
  | .nil => []
  | .node p v s l r => (if s then [(p, v)] else []) ++ (ents l ++ ents r)
/-- all prefixes of the tree lie strictly below p, on side b -/
def Un (p : PP) (b : Nat) (T : Sh) : Prop := ∀ q ∈ prefs T, C p q = true ∧ p.2 < q.2 ∧ atZ q.1 p.2 = b
def WF : Sh → Prop
  | .nil => True
  | .node p _ _ l r => PV p ∧ Un p 0 l ∧ Un p 1 r ∧ WF l ∧ WF r

theorem ents_node (p : PP) (v : Int) (s : Bool) (l r : Sh) : ents (.node p v s l r) = (if s then [(p, v)] else []) ++ (ents l ++ ents r) := rfl
theorem ents_pref : ∀ (T : Sh) (x : En), x ∈ ents T → x.1 ∈ prefs T
  | .nil, x, h => by simp [ents] at h
  | .node p v s l r, x, h => by
    simp only [ents, List.mem_append] at h
    simp only [prefs, List.mem_cons, List.mem_append]
    rcases h with h | h | h
    · cases s <;> simp at h; left; rw [h]
    · right; left; exact ents_pref l x h
    · right; right; exact ents_pref r x h
theorem asc_app {l m : List En} (hl : AscE l) (hm : AscE m) (h : ∀ x ∈ l, ∀ y ∈ m, ltP x.1 y.1) : AscE (l ++ m) :=
  List.pairwise_append.2 ⟨hl, hm, h⟩
theorem ents_asc : ∀ {T : Sh}, WF T → AscE (ents T)
  | .nil, _ => List.Pairwise.nil
  | .node p v s l r, h => by
    obtain ⟨hp, hl, hr, wl, wr⟩ := h
    refine asc_app (by cases s <;> simp) (asc_app (ents_asc wl) (ents_asc wr) ?_) ?_
    · intro x hx y hy
      have a := hl _ (ents_pref _ _ hx)
      have b := hr _ (ents_pref _ _ hy)
      exact sides_lt a.1 b.1 a.2.1 b.2.1 a.2.2 b.2.2
    · intro x hx y hy
      cases s <;> simp at hx
      subst hx
      rcases List.mem_append.1 hy with hy | hy
      · have a := hl _ (ents_pref _ _ hy); exact C_lt a.1 a.2.1
      · have a := hr _ (ents_pref _ _ hy); exact C_lt a.1 a.2.1
theorem asc_ext : ∀ {l m : List En}, AscE l → AscE m → (∀ x, x ∈ l ↔ x ∈ m) → l = m
  | [], [], _, _, _ => rfl
  | [], y :: m, _, _, h => by have := (h y).2 (by simp); simp at this
  | x :: l, [], _, _, h => by have := (h x).1 (by simp); simp at this
  | x :: l, y :: m, hl, hm, h => by
    have hl' := List.pairwise_cons.1 hl
    have hm' := List.pairwise_cons.1 hm
    have e : x = y := by
      rcases List.mem_cons.1 ((h x).1 (by simp)) with h1 | h1
      · exact h1
      · rcases List.mem_cons.1 ((h y).2 (by simp)) with h2 | h2
        · exact h2.symm
        · exact absurd (ltP_trans (hm'.1 x h1) (hl'.1 y h2)) (ltP_irrefl _)
    subst e
    congr 1
    refine asc_ext hl'.2 hm'.2 fun z => ⟨fun hz => ?_, fun hz => ?_⟩
    · rcases List.mem_cons.1 ((h z).1 (List.mem_cons_of_mem _ hz)) with h1 | h1
      · exact absurd (hl'.1 z hz) (h1 ▸ ltP_irrefl _)
      · exact h1
    · rcases List.mem_cons.1 ((h z).2 (List.mem_cons_of_mem _ hz)) with h1 | h1
      · exact absurd (hm'.1 z hz) (h1 ▸ ltP_irrefl _)
      · exact h1

/-- the entry put into a list -/
def insE (l : List En) (e : En) : List En := l.filter (fun x => decide (ltP x.1 e.1)) ++ e :: l.filter (fun x => decide (ltP e.1 x.1))
/-- the list without the entry of a prefix -/
def delE (l : List En) (p : PP) : List En := l.filter (fun x => decide (x.1 ≠ p))
/-- whether the list has an entry for a prefix -/
def hasE (l : List En) (p : PP) : Bool := l.any (fun x => decide (x.1 = p))
theorem asc_filter {l : List En} (f : En → Bool) (h : AscE l) : AscE (l.filter f) := h.sublist List.filter_sublist
theorem mem_insE {l : List En} {e x : En} : x ∈ insE l e ↔ x = e ∨ (x ∈ l ∧ x.1 ≠ e.1) := by
  unfold insE
  simp only [List.mem_append, List.mem_cons, List.mem_filter, decide_eq_true_eq]
  constructor
  · rintro (⟨h1, h2⟩ | h | ⟨h1, h2⟩)
    · exact .inr ⟨h1, ltP_ne h2⟩
    · exact .inl h
    · exact .inr ⟨h1, fun e => ltP_ne h2 e.symm⟩
  · rintro (h | ⟨h1, h2⟩)
    · exact .inr (.inl h)
    · rcases ltP_or x.1 e.1 with h | h | h
      · exact .inl ⟨h1, h⟩
      · exact absurd h h2
      · exact .inr (.inr ⟨h1, h⟩)
theorem asc_insE {l : List En} (e : En) (h : AscE l) : AscE (insE l e) := by
  unfold insE
  refine asc_app (asc_filter _ h) (List.pairwise_cons.2 ⟨fun y hy => ?_, asc_filter _ h⟩) ?_
  · simpa using (List.mem_filter.1 hy).2
  · intro x hx y hy
    have h1 : ltP x.1 e.1 := by simpa using (List.mem_filter.1 hx).2
    rcases List.mem_cons.1 hy with rfl | hy
    · exact h1
    · exact ltP_trans h1 (by simpa using (List.mem_filter.1 hy).2)
theorem mem_delE {l : List En} {p : PP} {x : En} : x ∈ delE l p ↔ x ∈ l ∧ x.1 ≠ p := by unfold delE; simp
theorem asc_delE {l : List En} (p : PP) (h : AscE l) : AscE (delE l p) := asc_filter _ h
theorem hasE_iff {l : List En} {p : PP} : hasE l p = true ↔ ∃ x ∈ l, x.1 = p := by unfold hasE; simp
theorem hasE_not {l : List En} {p : PP} : hasE l p = false ↔ ∀ x ∈ l, x.1 ≠ p := by unfold hasE; simp
theorem asc_inj {l : List En} (h : AscE l) {x y : En} (hx : x ∈ l) (hy : y ∈ l) (e : x.1 = y.1) : x = y := by
  induction l with
  | nil => cases hx
  | cons z r ih =>
    have h' := List.pairwise_cons.1 h
    rcases List.mem_cons.1 hx with h1 | h1 <;> rcases List.mem_cons.1 hy with h2 | h2
    · rw [h1, h2]
    · rw [h1] at e; exact absurd e (ltP_ne (h'.1 _ h2))
    · rw [h2] at e; exact absurd e.symm (ltP_ne (h'.1 _ h1))
    · exact ih h'.2 h1 h2

theorem len3 (p : PP) : ∀ l : List En, l.length = (l.filter (fun x => decide (ltP x.1 p))).length + (l.filter (fun x => decide (x.1 = p))).length + (l.filter (fun x => decide (ltP p x.1))).length
  | [] => rfl
  | x :: r => by
    have ih := len3 p r
    rcases ltP_or x.1 p with h | h | h
    · rw [List.filter_cons_of_pos (by simpa using h), List.filter_cons_of_neg (by simpa using ltP_ne h), List.filter_cons_of_neg (by simpa using fun h2 => ltP_asymm h h2)]
      simp only [List.length_cons]; omega
    · rw [List.filter_cons_of_neg (by simpa using h ▸ ltP_irrefl _), List.filter_cons_of_pos (by simpa using h), List.filter_cons_of_neg (by simpa using h ▸ ltP_irrefl _)]
      simp only [List.length_cons]; omega
    · rw [List.filter_cons_of_neg (by simpa using fun h2 => ltP_asymm h h2), List.filter_cons_of_neg (by simpa using fun e => ltP_ne h e.symm), List.filter_cons_of_pos (by simpa using h)]
      simp only [List.length_cons]; omega
theorem eq_len {l : List En} (ha : AscE l) (p : PP) : (l.filter (fun x => decide (x.1 = p))).length = if hasE l p then 1 else 0 := by
  induction l with
  | nil => rfl
  | cons x r ih =>
    have ha' := List.pairwise_cons.1 ha
    have ih := ih ha'.2
    by_cases h : x.1 = p
    · have hn : hasE r p = false := hasE_not.2 (fun y hy e => ltP_ne (ha'.1 y hy) (h.trans e.symm))
      rw [List.filter_cons_of_pos (by simpa using h), List.length_cons, ih, hn, if_pos (hasE_iff.2 ⟨x, by simp, h⟩)]
      simp
    · have e : hasE (x :: r) p = hasE r p := by unfold hasE; rw [List.any_cons]; simp [h]
      rw [List.filter_cons_of_neg (by simpa using h), ih, e]
theorem insE_len {l : List En} (ha : AscE l) (e : En) : (insE l e).length = if hasE l e.1 then l.length else l.length + 1 := by
  have h1 := len3 e.1 l
  have h2 := eq_len ha e.1
  unfold insE
  rw [List.length_append, List.length_cons]
  split
  · rename_i h; rw [if_pos h] at h2; omega
  · rename_i h; rw [if_neg h] at h2; omega
theorem delE_len {l : List En} (ha : AscE l) (p : PP) : (delE l p).length + (if hasE l p then 1 else 0) = l.length := by
  have h2 := eq_len ha p
  rw [← h2]
  unfold delE
  clear h2 ha
  induction l with
  | nil => rfl
  | cons x r ih =>
    by_cases h : x.1 = p
    · rw [List.filter_cons_of_neg (by simpa using h), List.filter_cons_of_pos (by simpa using h)]
      simp only [List.length_cons]; omega
    · rw [List.filter_cons_of_pos (by simpa using h), List.filter_cons_of_neg (by simpa using h)]
      simp only [List.length_cons]; omega

/-! above and under -/
def abv (p : PP) : Sh → List En
  | .nil => []
  | .node q v s l r => if C q p then (if s then [(q, v)] else []) ++ (if atZ p.1 q.2 = 0 then abv p l else abv p r) else []
def und (p : PP) : Sh → List En
  | .nil => []
  | .node q v s l r => if C q p || C p q then (if s && C p q then [(q, v)] else []) ++ (und p l ++ und p r) else []
theorem filter_none {l : List En} {f : En → Bool} (h : ∀ x ∈ l, f x = false) : l.filter f = [] := by
  rw [List.filter_eq_nil_iff]; intro x hx; rw [h x hx]; simp
theorem side_none {p q : PP} {T : Sh} {b : Nat} (hU : Un q b T) (hb : atZ p.1 q.2 ≠ b) : (ents T).filter (fun x => C x.1 p) = [] := by
  refine filter_none fun x hx => ?_
  have a := hU _ (ents_pref _ _ hx)
  exact C_sides a.2.1 (by rw [a.2.2]; exact fun e => hb e.symm)
theorem abv_eq (p : PP) : ∀ {T : Sh}, WF T → abv p T = (ents T).filter (fun x => C x.1 p)
  | .nil, _ => rfl
  | .node q v s l r, h => by
    obtain ⟨hq, hl, hr, wl, wr⟩ := h
    rw [ents_node, List.filter_append, List.filter_append]
    simp only [abv]
    cases hc : C q p
    · have n1 : (ents l).filter (fun x => C x.1 p) = [] := filter_none fun x hx => by
        have a := hl _ (ents_pref _ _ hx)
        cases h2 : C x.1 p
        · rfl
        · rw [C_trans a.1 h2] at hc; cases hc
      have n2 : (ents r).filter (fun x => C x.1 p) = [] := filter_none fun x hx => by
        have a := hr _ (ents_pref _ _ hx)
        cases h2 : C x.1 p
        · rfl
        · rw [C_trans a.1 h2] at hc; cases hc
      rw [n1, n2]
      cases s <;> simp [hc]
    · have h0 : (if s then [(q, v)] else []).filter (fun x => C x.1 p) = if s then [(q, v)] else [] := by cases s <;> simp [hc]
      rw [h0, if_pos rfl]
      by_cases hs : atZ p.1 q.2 = 0
      · rw [if_pos hs, abv_eq p wl, side_none hr (by rw [hs]; decide), List.append_nil]
      · rw [if_neg hs, abv_eq p wr, side_none hl hs, List.nil_append]
theorem und_eq (p : PP) : ∀ {T : Sh}, WF T → und p T = (ents T).filter (fun x => C p x.1)
  | .nil, _ => rfl
  | .node q v s l r, h => by
    obtain ⟨hq, hl, hr, wl, wr⟩ := h
    rw [ents_node, List.filter_append, List.filter_append, und, und_eq p wl, und_eq p wr]
    have h0 : (if s then [(q, v)] else []).filter (fun x => C p x.1) = if s && C p q then [(q, v)] else [] := by cases s <;> cases hc : C p q <;> simp [hc]
    rw [h0]
    cases ho : C q p || C p q
    · have h1 : C q p = false := by cases h : C q p <;> simp [h] at ho ⊢
      have h2 : C p q = false := by cases h : C p q <;> simp [h] at ho ⊢
      have nn : ∀ (T : Sh) (b : Nat), Un q b T → (ents T).filter (fun x => C p x.1) = [] := fun T b hU => filter_none fun x hx => by
        have a := hU _ (ents_pref _ _ hx)
        cases h3 : C p x.1
        · rfl
        · rcases C_nest h3 a.1 with h | h
          · rw [h] at h2; cases h2
          · rw [h] at h1; cases h1
      rw [nn l 0 hl, nn r 1 hr, h2]
      cases s <;> rfl
    · rfl

/-! putting -/
def leaf (e : En) : Sh := .node e.1 e.2 true .nil .nil
def putS : Sh → En → Sh × Bool
  | .nil, e => (leaf e, true)
  | .node p v s l r, e =>
    if p = e.1 then (.node p e.2 true l r, !s)
    else if C p e.1 then
      if atZ e.1.1 p.2 = 0 then (.node p v s (putS l e).1 r, (putS l e).2) else (.node p v s l (putS r e).1, (putS r e).2)
    else if shr e.1 p = e.1 then
      (if atZ p.1 (shr e.1 p).2 = 0 then .node e.1 e.2 true (.node p v s l r) .nil else .node e.1 e.2 true .nil (.node p v s l r), true)
    else (if atZ p.1 (shr e.1 p).2 = 0 then .node (shr e.1 p) 0 false (.node p v s l r) (leaf e) else .node (shr e.1 p) 0 false (leaf e) (.node p v s l r), true)

theorem un_top {p : PP} {b : Nat} {T : Sh} (h : Un p b T) {q : PP} {v : Int} {s : Bool} {l r : Sh} (e : T = .node q v s l r) : C p q = true ∧ p.2 < q.2 ∧ atZ q.1 p.2 = b := by
  subst e; exact h q (by simp [prefs])
theorem un_node {p q : PP} {b : Nat} {v : Int} {s : Bool} {l r : Sh} (h : C p q = true ∧ p.2 < q.2 ∧ atZ q.1 p.2 = b) (hl : ∀ x ∈ prefs l, C q x = true) (hr : ∀ x ∈ prefs r, C q x = true) : Un p b (.node q v s l r) := by
  intro x hx
  have key : ∀ y, C q y = true → C p y = true ∧ p.2 < y.2 ∧ atZ y.1 p.2 = b := fun y hy => ⟨C_trans h.1 hy, by have := (C_V hy).2.2.1; omega, by rw [C_side hy h.2.1]; exact h.2.2⟩
  simp only [prefs, List.mem_cons, List.mem_append] at hx
  rcases hx with rfl | hx | hx
  · exact h
  · exact key x (hl x hx)
  · exact key x (hr x hx)
theorem wf_cov {q : PP} {v : Int} {s : Bool} {l r : Sh} (h : WF (.node q v s l r)) : ∀ x ∈ prefs (.node q v s l r), C q x = true := by
  intro x hx
  simp only [prefs, List.mem_cons, List.mem_append] at hx
  rcases hx with rfl | hx | hx
  · exact C_refl h.1.2
  · exact (h.2.1 x hx).1
  · exact (h.2.2.1 x hx).1
/-- what putting keeps: below whatever prefix the tree and the entry lie, the new tree lies -/
theorem shr_under {p o a : PP} {b : Nat} (hp : PV p) (ho : PV o) (hc : C o p = false) (h1 : C a p = true ∧ a.2 < p.2 ∧ atZ p.1 a.2 = b) (h2 : C a o = true ∧ a.2 < o.2 ∧ atZ o.1 a.2 = b) :
    C a (shr p o) = true ∧ a.2 < (shr p o).2 ∧ atZ (shr p o).1 a.2 = b := by
  obtain ⟨s1, s2, s3, s4, s5, s6⟩ := shr_spec hp ho hc
  have ia := C_V h1.1
  have io := C_V h2.1
  obtain ⟨_, _, _, t1⟩ := (C_iff _ _).1 h1.1
  obtain ⟨_, _, _, t2⟩ := (C_iff _ _).1 h2.1
  have hl : a.2 < (shr p o).2 := by
    have k := s6 (a.2.toNat + 1) (by omega) (by
      rw [M.topN_succ _ _ (by omega), M.topN_succ _ _ (by omega), t1, t2]
      have e1 := h1.2.2; have e2 := h2.2.2
      rw [atZ_in (by omega) (by omega)] at e1 e2
      rw [e1, e2])
    omega
  refine ⟨?_, hl, ?_⟩
  · rcases C_nest h1.1 s2 with h | h
    · exact h
    · have := (C_V h).2.2.1; omega
  · rw [← C_side s2 hl]; exact h1.2.2
theorem putS_un (a : PP) (b : Nat) : ∀ {T : Sh} {e : En}, WF T → PV e.1 → Un a b T → (C a e.1 = true ∧ a.2 < e.1.2 ∧ atZ e.1.1 a.2 = b) → Un a b (putS T e).1
  | .nil, e, _, he, _, h => un_node h (by simp [prefs]) (by simp [prefs])
  | .node p v s l r, e, hw, he, hU, h => by
    have ht := un_top hU rfl
    obtain ⟨hq, hl, hr, wl, wr⟩ := hw
    rw [putS]
    split
    · exact un_node ht (fun x hx => (hl x hx).1) (fun x hx => (hr x hx).1)
    · rename_i hne
      split
      · rename_i hc
        have hs := C_strict hc hne
        split
        · rename_i h0
          have ih := putS_un p 0 wl he hl ⟨hc, hs, h0⟩
          exact un_node ht (fun x hx => (ih x hx).1) (fun x hx => (hr x hx).1)
        · rename_i h0
          have h1 : atZ e.1.1 p.2 = 1 := by have := atZ_le e.1.1 p.2; omega
          have ih := putS_un p 1 wr he hr ⟨hc, hs, h1⟩
          exact un_node ht (fun x hx => (hl x hx).1) (fun x hx => (ih x hx).1)
      · rename_i hc
        have hc : C p e.1 = false := by simpa using hc
        have sp := shr_spec he hq hc
        have su := shr_under he hq hc h ht
        have hw : WF (.node p v s l r) := ⟨hq, hl, hr, wl, wr⟩
        have hcv := wf_cov hw
        have key : ∀ x ∈ prefs (.node p v s l r), C (shr e.1 p) x = true := fun x hx => C_trans sp.2.2.1 (hcv x hx)
        have kl : ∀ x ∈ prefs (leaf e), C (shr e.1 p) x = true := fun x hx => by
          simp [leaf, prefs] at hx; subst hx; exact sp.2.1
        split
        · rename_i hse
          rw [hse] at key
          dsimp only
          split
          · exact un_node h key (by simp [prefs])
          · exact un_node h (by simp [prefs]) key
        · dsimp only
          split
          · exact un_node su key kl
          · exact un_node su kl key
theorem un_of_cov {q a : PP} {b : Nat} {v : Int} {s : Bool} {l r : Sh} (hw : WF (.node q v s l r)) (h : C a q = true ∧ a.2 < q.2 ∧ atZ q.1 a.2 = b) : Un a b (.node q v s l r) :=
  un_node h (fun x hx => (hw.2.1 x hx).1) (fun x hx => (hw.2.2.1 x hx).1)
theorem un_nil (a : PP) (b : Nat) : Un a b .nil := by intro q hq; simp [prefs] at hq
theorem wf_leaf {e : En} (he : PV e.1) : WF (leaf e) := ⟨he, un_nil _ _, un_nil _ _, trivial, trivial⟩
theorem at_one {x : Nat} {n : Int} (h : ¬ atZ x n = 0) : atZ x n = 1 := by have := atZ_le x n; omega
theorem putS_wf : ∀ {T : Sh} {e : En}, WF T → PV e.1 → WF (putS T e).1
  | .nil, e, _, he => wf_leaf he
  | .node p v s l r, e, hw, he => by
    have hw' := hw
    obtain ⟨hq, hl, hr, wl, wr⟩ := hw
    rw [putS]
    split
    · exact ⟨hq, hl, hr, wl, wr⟩
    · rename_i hne
      split
      · rename_i hc
        have hs := C_strict hc hne
        split
        · rename_i h0
          exact ⟨hq, putS_un p 0 wl he hl ⟨hc, hs, h0⟩, hr, putS_wf wl he, wr⟩
        · rename_i h0
          exact ⟨hq, hl, putS_un p 1 wr he hr ⟨hc, hs, at_one h0⟩, wl, putS_wf wr he⟩
      · rename_i hc
        have hc : C p e.1 = false := by simpa using hc
        obtain ⟨s1, s2, s3, s4, s5, s6⟩ := shr_spec he hq hc
        split
        · rename_i hse
          rw [hse] at s3 s4 ⊢
          dsimp only
          split
          · rename_i h0; exact ⟨he, un_of_cov hw' ⟨s3, s4, h0⟩, un_nil _ _, hw', trivial⟩
          · rename_i h0; exact ⟨he, un_nil _ _, un_of_cov hw' ⟨s3, s4, at_one h0⟩, trivial, hw'⟩
        · rename_i hse
          have s5 := s5 hse
          have := atZ_le e.1.1 (shr e.1 p).2
          dsimp only
          split
          · rename_i h0; exact ⟨s1, un_of_cov hw' ⟨s3, s4, h0⟩, un_of_cov (wf_leaf he) ⟨s2, s5.1, by omega⟩, hw', wf_leaf he⟩
          · rename_i h0
            have := at_one h0
            exact ⟨s1, un_of_cov (wf_leaf he) ⟨s2, s5.1, by omega⟩, un_of_cov hw' ⟨s3, s4, by omega⟩, wf_leaf he, hw'⟩
theorem ne_side {p q : PP} {b : Nat} {T : Sh} (hU : Un p b T) (h : p = q ∨ C p q = false ∨ (atZ q.1 p.2 ≠ b)) : ∀ x ∈ ents T, x.1 ≠ q := by
  intro x hx e
  have a := hU _ (ents_pref _ _ hx)
  rw [e] at a
  rcases h with h | h | h
  · rw [h] at a; omega
  · rw [a.1] at h; cases h
  · exact h a.2.2
theorem putS_mem : ∀ {T : Sh} {e : En}, WF T → PV e.1 → (∀ x, x ∈ ents (putS T e).1 ↔ x = e ∨ (x ∈ ents T ∧ x.1 ≠ e.1)) ∧ (putS T e).2 = !hasE (ents T) e.1
  | .nil, e, _, he => ⟨fun x => by simp [putS, leaf, ents], rfl⟩
  | .node p v s l r, e, hw, he => by
    have hw' := hw
    obtain ⟨hq, hl, hr, wl, wr⟩ := hw
    have hasA : hasE (ents (.node p v s l r)) e.1 = ((s && decide (p = e.1)) || (hasE (ents l) e.1 || hasE (ents r) e.1)) := by
      rw [ents_node]; unfold hasE; rw [List.any_append, List.any_append]; cases s <;> simp
    rw [hasA]
    rw [putS]
    split
    · rename_i hpe
      have n1 := ne_side hl (.inl hpe)
      have n2 := ne_side hr (.inl hpe)
      rw [hasE_not.2 n1, hasE_not.2 n2]
      refine ⟨fun x => ?_, by simp [hpe]⟩
      simp only [ents, List.mem_append]
      constructor
      · rintro (h | h | h)
        · left; simp at h; rw [h, hpe]
        · right; exact ⟨.inr (.inl h), n1 x h⟩
        · right; exact ⟨.inr (.inr h), n2 x h⟩
      · rintro (h | ⟨h | h | h, h2⟩)
        · left; rw [h, hpe]; simp
        · cases s <;> simp at h; rw [h] at h2; exact absurd hpe h2
        · exact .inr (.inl h)
        · exact .inr (.inr h)
    · rename_i hne
      have hd : decide (p = e.1) = false := by simpa using hne
      rw [hd, Bool.and_false, Bool.false_or]
      split
      · rename_i hc
        split
        · rename_i h0
          have n2 := ne_side hr (.inr (.inr (by rw [h0]; decide)) : p = e.1 ∨ C p e.1 = false ∨ _)
          obtain ⟨i1, i2⟩ := putS_mem wl he
          rw [hasE_not.2 n2, Bool.or_false]
          refine ⟨fun x => ?_, i2⟩
          simp only [ents, List.mem_append, i1]
          constructor
          · rintro (h | (h | ⟨h, h2⟩) | h)
            · right; refine ⟨.inl h, ?_⟩; cases s <;> simp at h; rw [h]; exact hne
            · exact .inl h
            · exact .inr ⟨.inr (.inl h), h2⟩
            · exact .inr ⟨.inr (.inr h), n2 x h⟩
          · rintro (h | ⟨h | h | h, h2⟩)
            · exact .inr (.inl (.inl h))
            · exact .inl h
            · exact .inr (.inl (.inr ⟨h, h2⟩))
            · exact .inr (.inr h)
        · rename_i h0
          have n1 := ne_side hl (.inr (.inr h0) : p = e.1 ∨ C p e.1 = false ∨ _)
          obtain ⟨i1, i2⟩ := putS_mem wr he
          rw [hasE_not.2 n1, Bool.false_or]
          refine ⟨fun x => ?_, i2⟩
          simp only [ents, List.mem_append, i1]
          constructor
          · rintro (h | h | (h | ⟨h, h2⟩))
            · right; refine ⟨.inl h, ?_⟩; cases s <;> simp at h; rw [h]; exact hne
            · exact .inr ⟨.inr (.inl h), n1 x h⟩
            · exact .inl h
            · exact .inr ⟨.inr (.inr h), h2⟩
          · rintro (h | ⟨h | h | h, h2⟩)
            · exact .inr (.inr (.inl h))
            · exact .inl h
            · exact .inr (.inl h)
            · exact .inr (.inr (.inr ⟨h, h2⟩))
      · rename_i hc
        have hc : C p e.1 = false := by simpa using hc
        have n1 := ne_side hl (.inr (.inl hc))
        have n2 := ne_side hr (.inr (.inl hc))
        have n3 : ∀ x ∈ ents (.node p v s l r), x.1 ≠ e.1 := by
          intro x hx
          simp only [ents, List.mem_append] at hx
          rcases hx with h | h | h
          · cases s <;> simp at h; rw [h]; exact hne
          · exact n1 x h
          · exact n2 x h
        rw [hasE_not.2 n1, hasE_not.2 n2]
        have fin : ∀ x, (x = e ∨ x ∈ ents (.node p v s l r)) ↔ (x = e ∨ (x ∈ ents (.node p v s l r) ∧ x.1 ≠ e.1)) := fun x =>
          ⟨fun h => h.imp id (fun h => ⟨h, n3 x h⟩), fun h => h.imp id (fun h => h.1)⟩
        have le : ents (leaf e) = [e] := rfl
        refine ⟨fun x => ?_, by split <;> rfl⟩
        rw [← fin x]
        have hen : ∀ p v s l r, ents (.node p v s l r) = (if s then [(p, v)] else []) ++ (ents l ++ ents r) := fun _ _ _ _ _ => rfl
        split
        · dsimp only
          split
          · rw [hen e.1]; simp [ents]
          · rw [hen e.1]; simp [ents]
        · dsimp only
          split
          · rw [hen (shr e.1 p), le]; simp; exact Or.comm
          · rw [hen (shr e.1 p), le]; simp
theorem putS_ents {T : Sh} {e : En} (hw : WF T) (he : PV e.1) : ents (putS T e).1 = insE (ents T) e :=
  asc_ext (ents_asc (putS_wf hw he)) (asc_insE _ (ents_asc hw)) fun x => by rw [(putS_mem hw he).1 x, mem_insE]

/-- the fork over a tree that does not cover the entry's prefix -/
def forkT (T : Sh) (p o : PP) : Sh := .node (shr p o) 0 false (if atZ o.1 (shr p o).2 = 0 then T else .nil) (if atZ o.1 (shr p o).2 = 0 then .nil else T)
theorem putS_fork {p : PP} {v : Int} {s : Bool} {l r : Sh} {e : En} (he : PV e.1) (hq : PV p) (hne : p ≠ e.1) (hc : C p e.1 = false) : putS (.node p v s l r) e = putS (forkT (.node p v s l r) e.1 p) e := by
  obtain ⟨s1, s2, s3, s4, s5, s6⟩ := shr_spec he hq hc
  have a1 := atZ_le p.1 (shr e.1 p).2
  have a2 := atZ_le e.1.1 (shr e.1 p).2
  rw [putS, if_neg hne, hc, if_neg (by decide)]
  unfold forkT
  by_cases h : shr e.1 p = e.1
  · rw [if_pos h, putS, if_pos h]
    rw [h]
    by_cases h0 : atZ p.1 e.1.2 = 0
    · simp [h0]
    · simp [h0]
  · have s5 := s5 h
    rw [if_neg h, putS, if_neg h, s2, if_pos rfl]
    by_cases h0 : atZ p.1 (shr e.1 p).2 = 0
    · rw [if_pos h0, if_pos h0, if_pos h0, if_neg (by omega)]; rfl
    · rw [if_neg h0, if_neg h0, if_neg h0, if_pos (by omega)]; rfl

/-! dropping -/
def Sh.isNil : Sh → Bool
  | .nil => true
  | _ => false
def need : Sh → Sh
  | .nil => .nil
  | .node q v s l r => if s || (!l.isNil && !r.isNil) then .node q v s l r else if !l.isNil then l else r
def dropS : Sh → PP → Sh × Bool
  | .nil, _ => (.nil, false)
  | .node q v s l r, p =>
    if C q p then
      if q = p then (need (.node q 0 false l r), s)
      else if atZ p.1 q.2 = 0 then (need (.node q v s (dropS l p).1 r), (dropS l p).2) else (need (.node q v s l (dropS r p).1), (dropS r p).2)
    else (.node q v s l r, false)
theorem isNil_iff {T : Sh} : T.isNil = true ↔ T = .nil := by cases T <;> simp [Sh.isNil]
theorem need_ents : ∀ T : Sh, ents (need T) = ents T
  | .nil => rfl
  | .node q v s l r => by
    rw [need]
    split
    · rfl
    · rename_i h
      cases s
      · cases hl : l.isNil
        · cases hr : r.isNil
          · simp [hl, hr] at h
          · rw [isNil_iff.1 hr]; simp [ents]
        · rw [isNil_iff.1 hl]; simp [ents]
      · simp at h
theorem need_prefs : ∀ (T : Sh) x, x ∈ prefs (need T) → x ∈ prefs T
  | .nil, x, h => h
  | .node q v s l r, x, h => by
    rw [need] at h
    split at h
    · exact h
    · split at h
      · simp [prefs, h]
      · simp [prefs, h]
theorem need_wf : ∀ {T : Sh}, WF T → WF (need T)
  | .nil, h => h
  | .node q v s l r, h => by
    rw [need]
    split
    · exact h
    · split
      · exact h.2.2.2.1
      · exact h.2.2.2.2
theorem dropS_prefs : ∀ (T : Sh) (p x : PP), x ∈ prefs (dropS T p).1 → x ∈ prefs T
  | .nil, p, x, h => h
  | .node q v s l r, p, x, h => by
    rw [dropS] at h
    split at h
    · split at h
      · dsimp only at h; have := need_prefs _ _ h; simpa [prefs] using this
      · split at h
        · dsimp only at h
          have := need_prefs _ _ h
          simp only [prefs, List.mem_cons, List.mem_append] at this ⊢
          exact this.imp id (fun h => h.imp (dropS_prefs l p x) id)
        · dsimp only at h
          have := need_prefs _ _ h
          simp only [prefs, List.mem_cons, List.mem_append] at this ⊢
          exact this.imp id (fun h => h.imp id (dropS_prefs r p x))
    · exact h
theorem dropS_wf : ∀ {T : Sh} (p : PP), WF T → WF (dropS T p).1
  | .nil, p, h => h
  | .node q v s l r, p, h => by
    obtain ⟨hq, hl, hr, wl, wr⟩ := h
    rw [dropS]
    split
    · split
      · exact need_wf (T := .node q 0 false l r) ⟨hq, hl, hr, wl, wr⟩
      · split
        · exact need_wf (T := .node q v s (dropS l p).1 r) ⟨hq, fun x hx => hl x (dropS_prefs _ _ _ hx), hr, dropS_wf p wl, wr⟩
        · exact need_wf (T := .node q v s l (dropS r p).1) ⟨hq, hl, fun x hx => hr x (dropS_prefs _ _ _ hx), wl, dropS_wf p wr⟩
    · exact ⟨hq, hl, hr, wl, wr⟩
theorem del_none {l : List En} {p : PP} (h : ∀ x ∈ l, x.1 ≠ p) : delE l p = l := by
  unfold delE; rw [List.filter_eq_self]; intro x hx; simpa using h x hx
theorem dropS_ents : ∀ {T : Sh} (p : PP), WF T → ents (dropS T p).1 = delE (ents T) p ∧ (dropS T p).2 = hasE (ents T) p
  | .nil, p, h => ⟨rfl, rfl⟩
  | .node q v s l r, p, h => by
    obtain ⟨hq, hl, hr, wl, wr⟩ := h
    have hasA : hasE (ents (.node q v s l r)) p = ((s && decide (q = p)) || (hasE (ents l) p || hasE (ents r) p)) := by
      rw [ents_node]; unfold hasE; rw [List.any_append, List.any_append]; cases s <;> simp
    have delA : delE (ents (.node q v s l r)) p = delE (if s then [(q, v)] else []) p ++ (delE (ents l) p ++ delE (ents r) p) := by
      unfold delE; rw [show ents (.node q v s l r) = (if s then [(q, v)] else []) ++ (ents l ++ ents r) from rfl, List.filter_append, List.filter_append]
    rw [hasA, delA]
    rw [dropS]
    split
    · rename_i hc
      split
      · rename_i hpe
        have n1 := ne_side hl (.inl hpe)
        have n2 := ne_side hr (.inl hpe)
        rw [hasE_not.2 n1, hasE_not.2 n2, del_none n1, del_none n2]
        dsimp only
        rw [need_ents]
        refine ⟨?_, by cases s <;> simp [hpe]⟩
        cases s <;> simp [ents, delE, hpe]
      · rename_i hne
        have hd : decide (q = p) = false := by simpa using hne
        have d0 : delE (if s then [(q, v)] else []) p = if s then [(q, v)] else [] := by cases s <;> simp [delE, hne]
        rw [hd, Bool.and_false, Bool.false_or, d0]
        split
        · rename_i h0
          have n2 := ne_side hr (.inr (.inr (by rw [h0]; decide)) : q = p ∨ C q p = false ∨ _)
          obtain ⟨i1, i2⟩ := dropS_ents p wl
          rw [hasE_not.2 n2, del_none n2, Bool.or_false]
          dsimp only
          rw [need_ents, i2]
          exact ⟨by simp only [ents, i1], rfl⟩
        · rename_i h0
          have n1 := ne_side hl (.inr (.inr h0) : q = p ∨ C q p = false ∨ _)
          obtain ⟨i1, i2⟩ := dropS_ents p wr
          rw [hasE_not.2 n1, del_none n1, Bool.false_or]
          dsimp only
          rw [need_ents, i2]
          exact ⟨by simp only [ents, i1], rfl⟩
    · rename_i hc
      have hc : C q p = false := by simpa using hc
      have hne : q ≠ p := fun e => by rw [e, C_refl (e ▸ hq.2)] at hc; cases hc
      have n1 := ne_side hl (.inr (.inl hc))
      have n2 := ne_side hr (.inr (.inl hc))
      rw [hasE_not.2 n1, hasE_not.2 n2, del_none n1, del_none n2]
      refine ⟨?_, by simp [hne]⟩
      cases s <;> simp [ents, delE, hne]
end Go.Proofs.Ytegponbmelgngaa
end
