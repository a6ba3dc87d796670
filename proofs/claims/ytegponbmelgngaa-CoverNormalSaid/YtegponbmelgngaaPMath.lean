/-
  Plain facts on prefixes as a pair of an address and a length: validity, covering, sides, order, the longest common prefix.
-/
import Derived.Test.YtegponbmelgngaaMath
namespace Go.Proofs.Ytegponbmelgngaa
set_option linter.unusedSimpArgs false
set_option linter.unusedVariables false

abbrev I64 (n : Int) : Prop := -9223372036854775808 ≤ n ∧ n ≤ 9223372036854775807
def atZ (x : Nat) (n : Int) : Nat := if 0 ≤ n ∧ n ≤ 31 then M.atN x n.toNat else 0
def vld (a : Nat) (n : Int) : Bool := decide (0 ≤ n ∧ n ≤ 32 ∧ M.keepN a (M.lowN n 32) = a)
theorem vld_yes {a : Nat} {n : Int} (h0 : 0 ≤ n) (h1 : n ≤ 32) (h : M.keepN a (M.lowN n 32) = a) : vld a n = true := by unfold vld; simp [h0, h1, h]
theorem vld_no {a : Nat} {n : Int} (h : M.keepN a (M.lowN n 32) ≠ a) : vld a n = false := by unfold vld; simp [h]
theorem vld_out {a : Nat} {n : Int} (h : n < 0 ∨ 32 < n) : vld a n = false := by unfold vld; simp; omega
theorem vld_in {a : Nat} {n : Int} (h : vld a n = true) : 0 ≤ n ∧ n ≤ 32 ∧ M.keepN a (M.lowN n 32) = a := by unfold vld at h; simpa using h
def con (a : Nat) (n : Int) (x : Nat) : Bool := vld a n && decide (M.keepN x (M.lowN n 32) = a)
theorem con_out {a : Nat} {n : Int} {x : Nat} (h : vld a n = false) : con a n x = false := by unfold con; simp [h]
theorem con_yes {a : Nat} {n : Int} {x : Nat} (h : vld a n = true) (h2 : M.keepN x (M.lowN n 32) = a) : con a n x = true := by unfold con; simp [h, h2]
theorem con_no {a : Nat} {n : Int} {x : Nat} (h2 : M.keepN x (M.lowN n 32) ≠ a) : con a n x = false := by unfold con; simp [h2]
def cov (a : Nat) (n : Int) (b : Nat) (m : Int) : Bool := vld b m && (decide (n ≤ m) && con a n b)
theorem cov_out {a : Nat} {n : Int} {b : Nat} {m : Int} (h : vld b m = false) : cov a n b m = false := by unfold cov; simp [h]
theorem cov_gt {a : Nat} {n : Int} {b : Nat} {m : Int} (h : ¬ n ≤ m) : cov a n b m = false := by unfold cov; simp [h]
theorem cov_in {a : Nat} {n : Int} {b : Nat} {m : Int} (h : vld b m = true) (h2 : n ≤ m) : cov a n b m = con a n b := by unfold cov; simp [h, h2]
theorem cov_con {a : Nat} {n : Int} {b : Nat} {m : Int} (h : con a n b = false) : cov a n b m = false := by unfold cov; simp [h]

/-- a prefix as its address and its length -/
abbrev PP : Type := Nat × Int
def ltP (x y : PP) : Prop := x.1 < y.1 ∨ (x.1 = y.1 ∧ x.2 < y.2)
instance (x y : PP) : Decidable (ltP x y) := inferInstanceAs (Decidable (_ ∨ _))
theorem ltP_irrefl (x : PP) : ¬ ltP x x := by unfold ltP; omega
theorem ltP_trans {x y z : PP} (h1 : ltP x y) (h2 : ltP y z) : ltP x z := by unfold ltP at *; omega
theorem ltP_asymm {x y : PP} (h1 : ltP x y) (h2 : ltP y x) : False := ltP_irrefl _ (ltP_trans h1 h2)
theorem ltP_or (x y : PP) : ltP x y ∨ x = y ∨ ltP y x := by
  unfold ltP
  rcases Nat.lt_trichotomy x.1 y.1 with h | h | h
  · left; omega
  · rcases Int.lt_trichotomy x.2 y.2 with h' | h' | h'
    · left; omega
    · right; left; exact Prod.ext h h'
    · right; right; omega
  · right; right; omega
theorem ltP_ne {x y : PP} (h : ltP x y) : x ≠ y := fun e => ltP_irrefl _ (e ▸ h)

/-- p is a valid prefix -/
def V (p : PP) : Bool := vld p.1 p.2
/-- p covers q -/
def C (p q : PP) : Bool := cov p.1 p.2 q.1 q.2
/-- a valid prefix of a 32-bit address -/
def PV (p : PP) : Prop := p.1 < 4294967296 ∧ V p = true

theorem low_in {n : Int} (h0 : 0 ≤ n) (h1 : n ≤ 32) : M.lowN n 32 = n.toNat := by unfold M.lowN; omega
theorem V_iff (p : PP) : V p = true ↔ 0 ≤ p.2 ∧ p.2 ≤ 32 ∧ M.keepN p.1 p.2.toNat = p.1 := by
  constructor
  · intro h; have := vld_in h; rw [low_in this.1 this.2.1] at this; exact this
  · rintro ⟨h0, h1, h2⟩; exact vld_yes h0 h1 (by rw [low_in h0 h1]; exact h2)
theorem C_iff (p q : PP) : C p q = true ↔ V p = true ∧ V q = true ∧ p.2 ≤ q.2 ∧ M.topN q.1 p.2.toNat = M.topN p.1 p.2.toNat := by
  unfold C cov con
  rw [Bool.and_eq_true, Bool.and_eq_true, Bool.and_eq_true, decide_eq_true_iff, decide_eq_true_iff]
  constructor
  · rintro ⟨h1, h2, h3, h4⟩
    have i := vld_in h3
    refine ⟨h3, h1, h2, ?_⟩
    rw [low_in i.1 i.2.1] at h4 i
    exact (M.keepN_eq_iff _ _ _).1 (h4.trans i.2.2.symm)
  · rintro ⟨h3, h1, h2, h4⟩
    have i := vld_in h3
    refine ⟨h1, h2, h3, ?_⟩
    rw [low_in i.1 i.2.1] at *
    exact ((M.keepN_eq_iff _ _ _).2 h4).trans i.2.2
theorem top_trunc {x y j k : Nat} (hj : j ≤ k) (hk : k ≤ 32) (h : M.topN x k = M.topN y k) : M.topN x j = M.topN y j := by
  have e : ∀ z, M.topN z j = M.topN z k / 2 ^ (k - j) := fun z => by
    unfold M.topN; rw [Nat.div_div_eq_div_mul, ← Nat.pow_add]; congr 2; omega
  rw [e, e, h]
theorem at_top (x i : Nat) (h : i < 32) : M.atN x i = M.topN x (i + 1) % 2 := by
  rw [M.topN_succ x i h]; have := M.atN_le x i; omega
theorem at_of_top {x y i k : Nat} (hi : i < k) (hk : k ≤ 32) (h : M.topN x k = M.topN y k) : M.atN x i = M.atN y i := by
  rw [at_top x i (by omega), at_top y i (by omega), top_trunc (by omega) hk h]
theorem atZ_in {x : Nat} {n : Int} (h0 : 0 ≤ n) (h1 : n ≤ 31) : atZ x n = M.atN x n.toNat := by unfold atZ; rw [if_pos ⟨h0, h1⟩]
theorem atZ_le (x : Nat) (n : Int) : atZ x n ≤ 1 := by unfold atZ; split; exact M.atN_le _ _; omega

theorem C_V {p q : PP} (h : C p q = true) : V p = true ∧ V q = true ∧ p.2 ≤ q.2 ∧ 0 ≤ p.2 ∧ q.2 ≤ 32 :=
  have h1 := (C_iff p q).1 h
  ⟨h1.1, h1.2.1, h1.2.2.1, ((V_iff p).1 h1.1).1, ((V_iff q).1 h1.2.1).2.1⟩
theorem C_refl {p : PP} (h : V p = true) : C p p = true := (C_iff p p).2 ⟨h, h, Int.le_refl _, rfl⟩
theorem C_trans {p q r : PP} (h1 : C p q = true) (h2 : C q r = true) : C p r = true := by
  obtain ⟨a1, a2, a3, a4⟩ := (C_iff _ _).1 h1
  obtain ⟨b1, b2, b3, b4⟩ := (C_iff _ _).1 h2
  have i := (V_iff _).1 b1
  have j := (V_iff _).1 a1
  exact (C_iff _ _).2 ⟨a1, b2, by omega, (top_trunc (by omega) (by omega) b4).trans a4⟩
theorem C_nest {p q r : PP} (h1 : C p r = true) (h2 : C q r = true) : C p q = true ∨ C q p = true := by
  obtain ⟨a1, a2, a3, a4⟩ := (C_iff _ _).1 h1
  obtain ⟨b1, b2, b3, b4⟩ := (C_iff _ _).1 h2
  have i := (V_iff _).1 a1
  have j := (V_iff _).1 b1
  rcases (by omega : p.2 ≤ q.2 ∨ q.2 ≤ p.2) with h | h
  · exact .inl ((C_iff _ _).2 ⟨a1, b1, h, (top_trunc (by omega) (by omega) b4).symm.trans a4⟩)
  · exact .inr ((C_iff _ _).2 ⟨b1, a1, h, (top_trunc (by omega) (by omega) a4).symm.trans b4⟩)
theorem C_len {p q : PP} (h : C p q = true) (e : q.2 ≤ p.2) : p = q := by
  obtain ⟨a1, a2, a3, a4⟩ := (C_iff _ _).1 h
  have i := (V_iff _).1 a1
  have j := (V_iff _).1 a2
  have e2 : p.2 = q.2 := by omega
  refine Prod.ext ?_ e2
  rw [← i.2.2, ← j.2.2, ← e2]; exact ((M.keepN_eq_iff _ _ _).2 a4).symm
theorem C_anti {p q : PP} (h : C p q = true) (h2 : C q p = true) : p = q := C_len h (C_V h2).2.2.1
theorem C_strict {p q : PP} (h : C p q = true) (hn : p ≠ q) : p.2 < q.2 := by
  rcases (by omega : p.2 < q.2 ∨ q.2 ≤ p.2) with h1 | h1
  · exact h1
  · exact absurd (C_len h h1) hn
theorem C_side {p q r : PP} (h : C q r = true) (hl : p.2 < q.2) : atZ r.1 p.2 = atZ q.1 p.2 := by
  obtain ⟨a1, a2, a3, a4⟩ := (C_iff _ _).1 h
  have i := (V_iff _).1 a1
  unfold atZ
  by_cases hc : 0 ≤ p.2 ∧ p.2 ≤ 31
  · rw [if_pos hc, if_pos hc]; exact at_of_top (k := q.2.toNat) (by omega) (by omega) a4
  · rw [if_neg hc, if_neg hc]
theorem C_le {p q : PP} (h : C p q = true) : p.1 ≤ q.1 := by
  obtain ⟨a1, a2, a3, a4⟩ := (C_iff _ _).1 h
  have i := (V_iff _).1 a1
  have := M.keepN_le q.1 p.2.toNat
  rw [(M.keepN_eq_iff _ _ _).2 a4, i.2.2] at this
  exact this
theorem C_lt {p q : PP} (h : C p q = true) (hl : p.2 < q.2) : ltP p q := by
  have := C_le h
  unfold ltP; omega
theorem sides_lt {p q r : PP} (h1 : C p q = true) (h2 : C p r = true) (l1 : p.2 < q.2) (l2 : p.2 < r.2) (s1 : atZ q.1 p.2 = 0) (s2 : atZ r.1 p.2 = 1) : ltP q r := by
  obtain ⟨a1, a2, a3, a4⟩ := (C_iff _ _).1 h1
  obtain ⟨b1, b2, b3, b4⟩ := (C_iff _ _).1 h2
  have i := (V_iff _).1 a1
  have j := (V_iff _).1 a2
  rw [atZ_in (by omega) (by omega)] at s1 s2
  left
  have t1 := M.topN_succ q.1 p.2.toNat (by omega)
  have t2 := M.topN_succ r.1 p.2.toNat (by omega)
  rw [a4, s1] at t1
  rw [b4, s2] at t2
  rcases (by omega : q.1 < r.1 ∨ r.1 ≤ q.1) with h | h
  · exact h
  · have : M.topN r.1 (p.2.toNat + 1) ≤ M.topN q.1 (p.2.toNat + 1) := by unfold M.topN; exact Nat.div_le_div_right h
    omega
theorem C_sides {p q r : PP} (l1 : p.2 < q.2) (hs : atZ q.1 p.2 ≠ atZ r.1 p.2) : C q r = false := by
  cases h : C q r
  · rfl
  · exact absurd (C_side h l1).symm hs

/-- the longest prefix that covers both -/
def shr (p o : PP) : PP := (M.keepN p.1 (M.lowN (min p.2 (M.comN p.1 o.1 : Nat)) 32), min p.2 (M.comN p.1 o.1 : Nat))
theorem keep_keep (x n m : Nat) (h : m ≤ n) (hn : n ≤ 32) : M.keepN (M.keepN x n) m = M.keepN x m := by
  unfold M.keepN
  have e : 2 ^ (32 - m) = 2 ^ (32 - n) * 2 ^ (n - m) := by rw [← Nat.pow_add]; congr 1; omega
  have hp : 0 < 2 ^ (32 - n) := Nat.pow_pos (by omega)
  rw [e, ← Nat.div_div_eq_div_mul, ← Nat.div_div_eq_div_mul, Nat.mul_div_cancel _ hp]
theorem shr_spec {p o : PP} (hp : PV p) (ho : PV o) (hc : C o p = false) :
    PV (shr p o) ∧ C (shr p o) p = true ∧ C (shr p o) o = true ∧ (shr p o).2 < o.2 ∧ (shr p o ≠ p → (shr p o).2 < p.2 ∧ atZ p.1 (shr p o).2 ≠ atZ o.1 (shr p o).2)
      ∧ ∀ k : Nat, (k : Int) ≤ p.2 → M.topN p.1 k = M.topN o.1 k → (k : Int) ≤ (shr p o).2 := by
  have ip := (V_iff _).1 hp.2
  have io := (V_iff _).1 ho.2
  have hcl := M.comN_le p.1 o.1
  have hk := M.keep_com p.1 o.1 hp.1 ho.1
  have hn : ∃ c : Nat, (shr p o).2 = c ∧ (c : Int) ≤ p.2 ∧ c ≤ M.comN p.1 o.1 ∧ c ≤ 32 ∧ ((c : Int) = p.2 ∨ c = M.comN p.1 o.1) :=
    ⟨(shr p o).2.toNat, by unfold shr; dsimp only; omega, by unfold shr; dsimp only; omega, by unfold shr; dsimp only; omega, by unfold shr; dsimp only; omega, by unfold shr; dsimp only; omega⟩
  obtain ⟨c, e2, c1, c2, c3, c4⟩ := hn
  have e1 : (shr p o).1 = M.keepN p.1 c := by
    have : (shr p o).1 = M.keepN p.1 (M.lowN (shr p o).2 32) := rfl
    rw [this, e2, low_in (by omega) (by omega)]; rfl
  have hle := M.keepN_le p.1 c
  have hpv : V (shr p o) = true := (V_iff _).2 ⟨by omega, by omega, by rw [e1, e2]; exact keep_keep _ _ _ (Nat.le_refl _) c3⟩
  have htp : M.topN (shr p o).1 c = M.topN p.1 c := by rw [e1]; exact (M.keepN_eq_iff _ _ _).1 (keep_keep _ _ _ (Nat.le_refl _) c3)
  have hto : M.topN p.1 c = M.topN o.1 c := (M.keepN_eq_iff _ _ _).1 ((hk c c3).2 c2)
  have hlt : (c : Int) < o.2 := by
    rcases (by omega : (c : Int) < o.2 ∨ o.2 ≤ c) with h | h
    · exact h
    · have : C o p = true := (C_iff _ _).2 ⟨ho.2, hp.2, by omega, top_trunc (by omega) c3 hto⟩
      rw [this] at hc; cases hc
  refine ⟨⟨by rw [e1]; exact Nat.lt_of_le_of_lt hle hp.1, hpv⟩, (C_iff _ _).2 ⟨hpv, hp.2, by omega, by rw [e2]; exact htp.symm⟩, (C_iff _ _).2 ⟨hpv, ho.2, by omega, by rw [e2]; exact (htp.trans hto).symm⟩, by omega, ?_, ?_⟩
  · intro hne
    have hcp : (c : Int) < p.2 := by
      rcases (by omega : (c : Int) < p.2 ∨ (c : Int) = p.2) with h | h
      · exact h
      · exact absurd (Prod.ext (by rw [e1, show c = p.2.toNat by omega]; exact ip.2.2) (by omega)) hne
    refine ⟨by omega, ?_⟩
    rw [e2, atZ_in (by omega) (by omega), atZ_in (by omega) (by omega)]
    have h32 : M.comN p.1 o.1 < 32 := by omega
    have := M.firstN_at (fun i => decide (M.atN p.1 i ≠ M.atN o.1 i)) 32 h32
    have hcc : c = M.comN p.1 o.1 := by omega
    rw [show ((c : Int)).toNat = M.comN p.1 o.1 by omega]
    exact of_decide_eq_true this
  · intro k h1 h2
    have := (hk k (by omega)).1 ((M.keepN_eq_iff _ _ _).2 h2)
    omega
end Go.Proofs.Ytegponbmelgngaa
