/-
  Plain facts about bits of numbers, without any program: bits of a word of 32 bits from the front, sums of bits, the first index with a property.
-/
namespace Go.Proofs.Ytenfcnappjekgaa.M

def atN (x i : Nat) : Nat := x / 2 ^ (31 - i) % 2
def topN (x n : Nat) : Nat := x / 2 ^ (32 - n)
def maskN (n : Nat) : Nat := 4294967296 - 2 ^ (32 - n)
def keepN (x n : Nat) : Nat := x / 2 ^ (32 - n) * 2 ^ (32 - n)
def bitN (x k : Nat) : Nat := x / 2 ^ k % 2
def rankN (x : Nat) : Nat → Nat
  | 0 => 0
  | k + 1 => rankN x k + bitN x k
def lowN (n : Int) (l : Nat) : Nat := min n.toNat l

theorem lowN_le (n : Int) (l : Nat) : lowN n l ≤ l := Nat.min_le_right _ _
theorem atN_le (x i : Nat) : atN x i ≤ 1 := by unfold atN; omega
theorem bitN_le (x i : Nat) : bitN x i ≤ 1 := by unfold bitN; omega
theorem rankN_le (x k : Nat) : rankN x k ≤ k := by
  induction k with
  | zero => simp [rankN]
  | succ k ih => have := bitN_le x k; simp only [rankN]; omega

theorem pow_split {a b : Nat} (h : a ≤ b) : 2 ^ b = 2 ^ a * 2 ^ (b - a) := by
  rw [← Nat.pow_add]; congr 1; omega
theorem pow_succ' (k : Nat) : 2 ^ (k + 1) = 2 * 2 ^ k := by rw [Nat.pow_succ]; omega
theorem pow_le32 {k : Nat} (h : k ≤ 32) : 2 ^ k ≤ 4294967296 := by
  have := Nat.pow_le_pow_right (n := 2) (by omega) h; simpa using this

theorem maskN_lt (n : Nat) : maskN n < 4294967296 := by
  unfold maskN; have : 0 < 2 ^ (32 - n) := Nat.pow_pos (by omega); omega
theorem keepN_le (x n : Nat) : keepN x n ≤ x := Nat.div_mul_le_self _ _

theorem maskN_zero : maskN 0 = 0 := by decide
theorem maskN_succ (k : Nat) (h : k < 32) : maskN (k + 1) = maskN k + 2 ^ (31 - k) := by
  unfold maskN
  have e : 32 - k = (31 - k) + 1 := by omega
  have e2 : 32 - (k + 1) = 31 - k := by omega
  rw [e2, e, pow_succ']
  have := pow_le32 (k := (31 - k) + 1) (by omega)
  rw [pow_succ'] at this
  omega
theorem maskN_mod (k : Nat) (h : k ≤ 32) : maskN k % 2 ^ (32 - k) = 0 := by
  unfold maskN
  have e : 4294967296 = 2 ^ (32 - k) * 2 ^ k := by rw [← Nat.pow_add]; have : 32 - k + k = 32 := by omega
                                                   rw [this]
  have h2 : 4294967296 - 2 ^ (32 - k) = 2 ^ (32 - k) * (2 ^ k - 1) := by rw [Nat.mul_sub, ← e, Nat.mul_one]
  rw [h2]; exact Nat.mul_mod_right _ _

theorem topN_zero (x : Nat) (h : x < 4294967296) : topN x 0 = 0 := by unfold topN; exact Nat.div_eq_of_lt (by simpa using h)
theorem topN_all (x : Nat) : topN x 32 = x := by simp [topN]
theorem topN_succ (x k : Nat) (h : k < 32) : topN x (k + 1) = topN x k * 2 + atN x k := by
  unfold topN atN
  have e : 32 - k = (31 - k) + 1 := by omega
  have e2 : 32 - (k + 1) = 31 - k := by omega
  rw [e2, e, Nat.pow_succ, ← Nat.div_div_eq_div_mul]
  omega
theorem topN_lt (x k : Nat) (h : x < 4294967296) (hk : k ≤ 32) : topN x k < 2 ^ k := by
  unfold topN
  rw [Nat.div_lt_iff_lt_mul (Nat.pow_pos (by omega)), ← Nat.pow_add]
  have : k + (32 - k) = 32 := by omega
  rw [this]; simpa using h
theorem topN_double (x k : Nat) (h : x < 4294967296) (hk : k < 32) : topN x k * 2 + 1 < 4294967296 := by
  have := topN_lt x k h (by omega)
  have h31 := Nat.pow_le_pow_right (n := 2) (by omega) (show k ≤ 31 by omega)
  have : (2 : Nat) ^ 31 = 2147483648 := by decide
  omega

theorem keepN_zero (x : Nat) (h : x < 4294967296) : keepN x 0 = 0 := by
  have := topN_zero x h; unfold topN at this; simp only [keepN, this, Nat.zero_mul]
theorem keepN_all (x : Nat) : keepN x 32 = x := by simp [keepN]
theorem keepN_mod (x k : Nat) : keepN x k % 2 ^ (32 - k) = 0 := by unfold keepN; exact Nat.mul_mod_left _ _
theorem keepN_succ (x k : Nat) (h : k < 32) : keepN x (k + 1) = keepN x k + atN x k * 2 ^ (31 - k) := by
  have t := topN_succ x k h
  unfold topN at t
  unfold keepN
  rw [t, Nat.add_mul]
  have e : 32 - k = (31 - k) + 1 := by omega
  have e2 : 32 - (k + 1) = 31 - k := by omega
  rw [e2]
  congr 1
  rw [Nat.mul_assoc, e, pow_succ']
theorem keepN_eq_iff (x y k : Nat) : keepN x k = keepN y k ↔ topN x k = topN y k := by
  unfold keepN topN
  constructor
  · exact fun h => Nat.eq_of_mul_eq_mul_right (Nat.pow_pos (by omega)) h
  · exact fun h => by rw [h]

theorem nat_join (i x y : Nat) (hx : x % 2 ^ i = 0) (hy : y < 2 ^ i) : x ||| y = x + y := by
  have h := Nat.two_pow_add_eq_or_of_lt hy (x / 2 ^ i)
  have e : 2 ^ i * (x / 2 ^ i) = x := by have := Nat.div_add_mod x (2 ^ i); omega
  rw [e] at h; exact h.symm

theorem maskN_or (k : Nat) (h : k < 32) : maskN k ||| 2 ^ (31 - k) = maskN (k + 1) := by
  rw [maskN_succ k h]
  refine nat_join (32 - k) _ _ (maskN_mod k (by omega)) ?_
  exact Nat.pow_lt_pow_right (by omega) (by omega)
theorem keepN_or (x k : Nat) (h : k < 32) : keepN x k ||| atN x k * 2 ^ (31 - k) = keepN x (k + 1) := by
  rw [keepN_succ x k h]
  refine nat_join (32 - k) _ _ (keepN_mod x k) ?_
  have e : 32 - k = (31 - k) + 1 := by omega
  have := atN_le x k
  rw [e, pow_succ']
  have hp : 0 < 2 ^ (31 - k) := Nat.pow_pos (by omega)
  have := Nat.mul_le_mul_right (2 ^ (31 - k)) this
  omega

theorem testBit_maskN (n j : Nat) (hn : n ≤ 32) : (maskN n).testBit j = (decide (32 - n ≤ j) && decide (j < 32)) := by
  have e : maskN n = 2 ^ 32 - (2 ^ (32 - n) - 1 + 1) := by
    unfold maskN; have : 0 < 2 ^ (32 - n) := Nat.pow_pos (by omega); simp only [show (2:Nat) ^ 32 = 4294967296 by decide]; omega
  rw [e]
  have hlt : 2 ^ (32 - n) - 1 < 2 ^ 32 := by
    have : 0 < 2 ^ (32 - n) := Nat.pow_pos (by omega)
    have := pow_le32 (k := 32 - n) (by omega)
    simp only [show (2:Nat) ^ 32 = 4294967296 by decide]; omega
  rw [Nat.testBit_two_pow_sub_succ hlt, Nat.testBit_two_pow_sub_one]
  by_cases h1 : 32 - n ≤ j <;> by_cases h2 : j < 32 <;> simp [h1, h2] <;> omega
theorem testBit_keepN (x n j : Nat) : (keepN x n).testBit j = (decide (32 - n ≤ j) && x.testBit j) := by
  unfold keepN
  rw [Nat.testBit_mul_two_pow, Nat.testBit_div_two_pow]
  by_cases h : 32 - n ≤ j
  · simp [h]
  · simp [h]
theorem and_maskN (x n : Nat) (hx : x < 4294967296) (hn : n ≤ 32) : x &&& maskN n = keepN x n := by
  apply Nat.eq_of_testBit_eq
  intro j
  rw [Nat.testBit_and, testBit_maskN n j hn, testBit_keepN]
  by_cases h2 : j < 32
  · cases x.testBit j <;> simp [h2]
  · have : x.testBit j = false := Nat.testBit_lt_two_pow (Nat.lt_of_lt_of_le hx (by
      have := Nat.pow_le_pow_right (n := 2) (by omega) (show 32 ≤ j by omega); simpa using this))
    simp [this]

theorem atN_testBit (x i : Nat) : decide (atN x i = 1) = x.testBit (31 - i) := by
  rw [Nat.testBit_eq_decide_div_mod_eq]; rfl
theorem atN_xor (a b i : Nat) : decide (atN (a ^^^ b) i = 1) = decide (atN a i ≠ atN b i) := by
  rw [atN_testBit, Nat.testBit_xor, ← atN_testBit, ← atN_testBit]
  have := atN_le a i; have := atN_le b i
  by_cases h1 : atN a i = 1 <;> by_cases h2 : atN b i = 1 <;> simp [h1, h2] <;> omega

/- the first index below n with a property, or n -/
def first (p : Nat → Bool) : Nat → Nat → Nat
  | k, 0 => k
  | k, f + 1 => if p k then k else first p (k + 1) f
def firstN (p : Nat → Bool) (n : Nat) : Nat := first p 0 n
def NoneTo (p : Nat → Bool) (k : Nat) : Prop := ∀ j, j < k → p j = false
theorem noneTo_zero (p : Nat → Bool) : NoneTo p 0 := fun _ h => absurd h (by omega)
theorem noneTo_succ {p : Nat → Bool} {k : Nat} (h : NoneTo p k) (h1 : p k = false) : NoneTo p (k + 1) := fun j hj => by
  by_cases e : j = k
  · rw [e]; exact h1
  · exact h j (by omega)
theorem first_eq (p : Nat → Bool) (d : Nat) : ∀ (k f : Nat), d ≤ f → (∀ j, k ≤ j → j < k + d → p j = false) → (d < f → p (k + d) = true) → first p k f = k + d := by
  induction d with
  | zero =>
    intro k f _ _ h1
    cases f with
    | zero => simp [first]
    | succ f => simp only [first]; rw [if_pos (by simpa using h1 (by omega))]; rfl
  | succ d ih =>
    intro k f hf h0 h1
    cases f with
    | zero => omega
    | succ f =>
      simp only [first]
      rw [if_neg (by simp [h0 k (by omega) (by omega)]), ih (k + 1) f (by omega) (fun j hj hj' => h0 j (by omega) (by omega)) (fun hd => by
        have := h1 (by omega)
        have e : k + 1 + d = k + (d + 1) := by omega
        rw [e]; exact this)]
      omega
theorem firstN_hit {p : Nat → Bool} {n k : Nat} (h : NoneTo p k) (hk : k < n) (h1 : p k = true) : firstN p n = k := by
  have := first_eq p k 0 n (by omega) (fun j _ hj => h j (by omega)) (fun _ => by simpa using h1)
  simpa [firstN] using this
theorem firstN_miss {p : Nat → Bool} {n : Nat} (h : NoneTo p n) : firstN p n = n := by
  have := first_eq p n 0 n (by omega) (fun j _ hj => h j (by omega)) (fun h => absurd h (by omega))
  simpa [firstN] using this
theorem first_spec (p : Nat → Bool) (f : Nat) : ∀ k, k ≤ first p k f ∧ first p k f ≤ k + f ∧ (∀ j, k ≤ j → j < first p k f → p j = false) ∧ (first p k f < k + f → p (first p k f) = true) := by
  induction f with
  | zero => intro k; simp only [first]; exact ⟨by omega, by omega, fun j h1 h2 => by omega, fun h => by omega⟩
  | succ f ih =>
    intro k
    simp only [first]
    by_cases h : p k = true
    · rw [if_pos h]; exact ⟨by omega, by omega, fun j h1 h2 => by omega, fun _ => h⟩
    · rw [if_neg h]
      obtain ⟨a, b, c, d⟩ := ih (k + 1)
      exact ⟨by omega, by omega, fun j h1 h2 => by
        by_cases e : j = k
        · rw [e]; simpa using h
        · exact c j (by omega) h2, fun hh => d (by omega)⟩
theorem firstN_le (p : Nat → Bool) (n : Nat) : firstN p n ≤ n := by have := first_spec p n 0; unfold firstN; omega
theorem firstN_none (p : Nat → Bool) (n : Nat) : NoneTo p (firstN p n) := fun j hj => (first_spec p n 0).2.2.1 j (by omega) hj
theorem firstN_at (p : Nat → Bool) (n : Nat) (h : firstN p n < n) : p (firstN p n) = true := (first_spec p n 0).2.2.2 (by unfold firstN at h; omega)
theorem firstN_congr {p q : Nat → Bool} (h : ∀ i, p i = q i) (n : Nat) : firstN p n = firstN q n := by
  have : p = q := funext h
  rw [this]

def leadN (x : Nat) : Nat := firstN (fun i => decide (atN x i = 1)) 32
def trailN (x : Nat) : Nat := firstN (fun i => decide (atN x (31 - i) = 1)) 32
def comN (a b : Nat) : Nat := firstN (fun i => decide (atN a i ≠ atN b i)) 32
theorem leadN_le (x : Nat) : leadN x ≤ 32 := firstN_le _ _
theorem trailN_le (x : Nat) : trailN x ≤ 32 := firstN_le _ _
theorem comN_le (a b : Nat) : comN a b ≤ 32 := firstN_le _ _
theorem leadN_xor (a b : Nat) : leadN (a ^^^ b) = comN a b := firstN_congr (fun i => atN_xor a b i) 32
theorem atN_zero (i : Nat) : atN 0 i = 0 := by unfold atN; rw [Nat.zero_div]
theorem comN_zero (a : Nat) : comN a 0 = leadN a := firstN_congr (fun i => by
  have := atN_le a i
  rw [atN_zero]
  by_cases h : atN a i = 1 <;> simp [h] <;> omega) 32

theorem topN_eq_iff (a b : Nat) (ha : a < 4294967296) (hb : b < 4294967296) (n : Nat) (hn : n ≤ 32) : topN a n = topN b n ↔ ∀ i, i < n → atN a i = atN b i := by
  induction n with
  | zero => simp [topN_zero a ha, topN_zero b hb]
  | succ n ih =>
    have ih := ih (by omega)
    rw [topN_succ a n (by omega), topN_succ b n (by omega)]
    have h1 := atN_le a n; have h2 := atN_le b n
    constructor
    · intro h i hi
      have e : topN a n = topN b n := by omega
      by_cases e2 : i = n
      · rw [e2]; omega
      · exact ih.1 e i (by omega)
    · intro h
      have e := ih.2 (fun i hi => h i (by omega))
      have := h n (by omega)
      omega
theorem keep_com (a b : Nat) (ha : a < 4294967296) (hb : b < 4294967296) (n : Nat) (hn : n ≤ 32) : keepN a n = keepN b n ↔ n ≤ comN a b := by
  rw [keepN_eq_iff, topN_eq_iff a b ha hb n hn]
  constructor
  · intro h
    by_cases hc : comN a b < n
    · have := firstN_at (fun i => decide (atN a i ≠ atN b i)) 32 (show comN a b < 32 by omega)
      have h2 := h _ hc
      exact absurd h2 (of_decide_eq_true this)
    · omega
  · intro h i hi
    have := firstN_none (fun i => decide (atN a i ≠ atN b i)) 32 i (show i < comN a b by omega)
    simpa using this
end Go.Proofs.Ytenfcnappjekgaa.M
