/-
  A list is the list of the largest blocks of its addresses if and only if it is normal by the definition.
-/
import Derived.Test.YtegponbmelgngaaCoverCnt
namespace Go.Proofs.Ytegponbmelgngaa.CM
set_option linter.unusedSimpArgs false
set_option linter.unusedVariables false

/-- the address lies in the block -/
def inB (x : Nat × Nat) (y : Nat) : Prop := x.1 ≤ y ∧ y < x.1 + 2 ^ x.2
theorem same_block {x y : Nat × Nat} {z : Nat} (ax : x.1 % 2 ^ x.2 = 0) (ay : y.1 % 2 ^ y.2 = 0) (e : x.2 = y.2) (h1 : inB x z) (h2 : inB y z) : x = y := by
  obtain ⟨xa, xk⟩ := x
  obtain ⟨ya, yk⟩ := y
  dsimp only at e ax ay
  subst e
  have b1 := base_of ax h1.1 h1.2
  have b2 := base_of ay h2.1 h2.2
  rw [← b1, ← b2]
/-- normal by the definition: aligned blocks, ascending, apart, and no two are the halves of a block -/
structure Def (l : List (Nat × Nat)) : Prop where
  asc : l.Pairwise (fun x y => x.1 < y.1)
  al : ∀ x ∈ l, x.1 % 2 ^ x.2 = 0
  le : ∀ x ∈ l, x.2 ≤ 32
  dis : ∀ x ∈ l, ∀ y ∈ l, ∀ z, inB x z → inB y z → x = y
  sib : ∀ x ∈ l, ∀ y ∈ l, x.2 < 32 → x.2 = y.2 → y.1 = x.1 + 2 ^ x.2 → x.1 % 2 ^ (x.2 + 1) = 0 → False
/-- the addresses of a list of blocks -/
def setOf (l : List (Nat × Nat)) (y : Nat) : Bool := l.any (fun x => decide (x.1 ≤ y) && decide (y < x.1 + 2 ^ x.2))
theorem setOf_iff (l : List (Nat × Nat)) (y : Nat) : setOf l y = true ↔ ∃ x ∈ l, inB x y := by
  unfold setOf inB; simp
theorem half {l : List (Nat × Nat)} (h : Def l) {c j : Nat} (ha : c % 2 ^ j = 0) (hf : full (setOf l) c j) (hs : ∀ x ∈ l, ∀ z, inB x z → inB (c, j) z → x.2 ≤ j) :
    (c, j) ∈ l ∨ (0 < j ∧ ∀ x ∈ l, ∀ z, inB x z → inB (c, j) z → x.2 < j) := by
  have hp := pow_pos' j
  have hc : inB (c, j) c := ⟨Nat.le_refl _, by dsimp only; omega⟩
  obtain ⟨x, hx, hxc⟩ := (setOf_iff l c).1 (hf c (Nat.le_refl _) (by omega))
  have hle := hs x hx c hxc hc
  by_cases e : x.2 = j
  · have := same_block (h.al x hx) (y := (c, j)) ha e hxc hc
    exact .inl (this ▸ hx)
  · refine .inr ⟨by omega, fun z hz w h1 h2 => ?_⟩
    have hle2 := hs z hz w h1 h2
    refine Nat.lt_of_le_of_ne hle2 fun e2 => ?_
    have hzc := same_block (h.al z hz) (y := (c, j)) ha e2 h1 h2
    have : x = z := h.dis x hx z hz c hxc (hzc ▸ hc)
    rw [this] at e
    exact e e2
theorem sib_of_full {l : List (Nat × Nat)} (h : Def l) : ∀ (j b : Nat), b % 2 ^ (j + 1) = 0 → j < 32 → full (setOf l) b (j + 1) → (∀ x ∈ l, ∀ z, inB x z → inB (b, j + 1) z → x.2 ≤ j) → False := by
  intro j
  induction j with
  | zero =>
    intro b ha hj hf hs
    have e2 : 2 ^ (0 + 1) = 2 ^ 0 + 2 ^ 0 := by decide
    rcases half h (c := b) (j := 0) (mod_of_le (by omega) ha) (hf.sub (Nat.le_refl _) (by omega)) (fun x hx z h1 h2 => hs x hx z h1 ⟨h2.1, by have := h2.2; dsimp only at this ⊢; omega⟩) with h1 | ⟨h1, _⟩
    · rcases half h (c := b + 2 ^ 0) (j := 0) (by rw [Nat.add_mod_right]; exact mod_of_le (by omega) ha) (hf.sub (by omega) (by omega)) (fun x hx z h1 h2 => hs x hx z h1 ⟨by have := h2.1; dsimp only at this ⊢; omega, by have := h2.2; dsimp only at this ⊢; omega⟩) with h2 | ⟨h2, _⟩
      · exact h.sib _ h1 _ h2 hj rfl rfl ha
      · omega
    · omega
  | succ i ih =>
    intro b ha hj hf hs
    have e2 : 2 ^ (i + 1 + 1) = 2 ^ (i + 1) + 2 ^ (i + 1) := by rw [Nat.pow_succ 2 (i + 1)]; omega
    have hp := pow_pos' (i + 1)
    have ha1 : b % 2 ^ (i + 1) = 0 := mod_of_le (by omega) ha
    have ha2 : (b + 2 ^ (i + 1)) % 2 ^ (i + 1) = 0 := by rw [Nat.add_mod_right]; exact ha1
    have f1 : full (setOf l) b (i + 1) := hf.sub (Nat.le_refl _) (by omega)
    have f2 : full (setOf l) (b + 2 ^ (i + 1)) (i + 1) := hf.sub (by omega) (by omega)
    rcases half h ha1 f1 (fun x hx z h1 h2 => hs x hx z h1 ⟨h2.1, by have := h2.2; dsimp only at this ⊢; omega⟩) with h1 | ⟨_, h1⟩
    · rcases half h ha2 f2 (fun x hx z h1 h2 => hs x hx z h1 ⟨by have := h2.1; dsimp only at this ⊢; omega, by have := h2.2; dsimp only at this ⊢; omega⟩) with h2 | ⟨_, h2⟩
      · exact h.sib _ h1 _ h2 hj rfl rfl ha
      · exact ih _ ha2 (by omega) f2 (fun x hx z h3 h4 => Nat.le_of_lt_succ (h2 x hx z h3 h4))
    · exact ih _ ha1 (by omega) f1 (fun x hx z h3 h4 => Nat.le_of_lt_succ (h1 x hx z h3 h4))
theorem Def.nrm {l : List (Nat × Nat)} (h : Def l) : Nrm (setOf l) l := by
  refine ⟨?_, h.al, h.le, fun x hx y h1 h2 => (setOf_iff l y).2 ⟨x, hx, h1, h2⟩, ?_, fun y hy => (setOf_iff l y).1 hy⟩
  · refine h.asc.imp_of_mem fun {x y} hx hy hlt => Nat.le_of_not_lt fun hh => ?_
    have := h.dis x hx y hy y.1 ⟨by omega, hh⟩ ⟨Nat.le_refl _, by have := pow_pos' y.2; omega⟩
    rw [this] at hlt; exact absurd hlt (Nat.lt_irrefl _)
  · intro x hx hk hf
    have hb := in_base x.1 (x.2 + 1)
    have ha := base_al x.1 (x.2 + 1)
    have hp := pow_pos' x.2
    refine sib_of_full h x.2 _ ha hk hf fun z hz w h1 h2 => Nat.le_of_not_lt fun hlt => ?_
    -- a larger member would hold x
    have n1 := nest (h.al z hz) ha hlt h1.1 h1.2 h2.1 h2.2
    have n2 := h.dis x hx z hz x.1 ⟨Nat.le_refl _, by omega⟩ ⟨by omega, by omega⟩
    rw [n2] at hlt; exact absurd hlt (Nat.lt_irrefl _)
theorem Nrm.def {S : Nat → Bool} {l : List (Nat × Nat)} (h : Nrm S l) : Def l := by
  have hdis : ∀ x ∈ l, ∀ y ∈ l, ∀ z, inB x z → inB y z → x = y := by
    intro x hx y hy z h1 h2
    have a1 := Nrm.not_lt (h.al x hx) (h.mx x hx) (h.al y hy) (h.fl y hy) (h.le y hy) h1.1 h1.2 h2.1 h2.2
    have a2 := Nrm.not_lt (h.al y hy) (h.mx y hy) (h.al x hx) (h.fl x hx) (h.le x hx) h2.1 h2.2 h1.1 h1.2
    exact same_block (h.al x hx) (h.al y hy) (by omega) h1 h2
  refine ⟨h.asc.imp fun {x y} hxy => by have := pow_pos' x.2; omega, h.al, h.le, hdis, ?_⟩
  intro x hx y hy hk e e1 ha
  refine h.mx x hx hk ?_
  have hp := pow_pos' x.2
  have e2 : 2 ^ (x.2 + 1) = 2 ^ x.2 + 2 ^ x.2 := by rw [Nat.pow_succ]; omega
  rw [base_of ha (Nat.le_refl _) (by omega)]
  intro z h1 h2
  by_cases hz : z < x.1 + 2 ^ x.2
  · exact h.fl x hx z h1 hz
  · exact h.fl y hy z (by omega) (by rw [← e]; omega)
/-- the list of a set is the list of its own addresses -/
theorem Nrm.setOf_eq {S : Nat → Bool} {l : List (Nat × Nat)} (h : Nrm S l) : setOf l = S := by
  funext y
  by_cases hs : S y = true
  · rw [hs]; exact (setOf_iff l y).2 (h.all y hs)
  · have : setOf l y ≠ true := fun e => by
      obtain ⟨x, hx, h1, h2⟩ := (setOf_iff l y).1 e
      exact hs (h.fl x hx y h1 h2)
    rw [Bool.eq_false_iff.2 hs, Bool.eq_false_iff.2 this]
/-- a list that is normal by the definition is left as it is -/
theorem Def.fixed {l m : List (Nat × Nat)} (h : Def l) (hm : Nrm (setOf l) m) : m = l := hm.unique h.nrm
end Go.Proofs.Ytegponbmelgngaa.CM
