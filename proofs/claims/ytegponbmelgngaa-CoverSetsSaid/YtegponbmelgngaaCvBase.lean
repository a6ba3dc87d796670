/-
  Lists of prefixes as sets of addresses; a sorted list of valid prefixes as blocks; the summary in numbers.
-/
import Derived.Test.YtegponbmelgngaaCoverNum
import Derived.Test.YtegponbmelgngaaSortMath
namespace Go.Proofs.Ytegponbmelgngaa
set_option linter.unusedSimpArgs false
set_option linter.unusedVariables false

/-- a block as a prefix, a prefix as a block -/
def pfx (x : Nat × Nat) : PP := (x.1, ((32 - x.2 : Nat) : Int))
def blk (p : PP) : Nat × Nat := (p.1, 32 - p.2.toNat)
theorem pfx_blk {p : PP} (h : V p = true) : pfx (blk p) = p := by
  have := (V_iff p).1 h
  unfold pfx blk
  exact Prod.ext rfl (by dsimp only; omega)
theorem blk_pfx {x : Nat × Nat} (h : x.2 ≤ 32) : blk (pfx x) = x := by
  unfold pfx blk
  exact Prod.ext rfl (by dsimp only; omega)
theorem blk_al {p : PP} (h : V p = true) : (blk p).1 % 2 ^ (blk p).2 = 0 := ((V_al p.1 p.2).1 h).2.2
theorem blk_le (p : PP) : (blk p).2 ≤ 32 := by unfold blk; dsimp only; omega
theorem V_pfx {x : Nat × Nat} (h : x.2 ≤ 32) (ha : x.1 % 2 ^ x.2 = 0) : V (pfx x) = true := by
  refine (V_al _ _).2 ⟨by omega, by omega, ?_⟩
  show x.1 % 2 ^ (32 - ((32 - x.2 : Nat) : Int).toNat) = 0
  rw [show 32 - ((32 - x.2 : Nat) : Int).toNat = x.2 by omega]; exact ha
/-- the address lies in one of the prefixes -/
def mem (l : List PP) (y : Nat) : Bool := l.any (fun p => con p.1 p.2 y)
theorem mem_iff (l : List PP) (y : Nat) : mem l y = true ↔ ∃ p ∈ l, V p = true ∧ CM.inB (blk p) y := by
  unfold mem
  rw [List.any_eq_true]
  constructor
  · rintro ⟨p, hp, h⟩
    have hv : V p = true := by unfold con at h; rw [Bool.and_eq_true] at h; exact h.1
    exact ⟨p, hp, hv, (con_in hv y).1 h⟩
  · rintro ⟨p, hp, hv, h⟩
    exact ⟨p, hp, (con_in hv y).2 h⟩
/-- the valid prefixes, ascending, each once -/
def ascd (l : List PP) : List PP := (sortR l).filter V
theorem ascd_mem (l : List PP) (p : PP) : p ∈ ascd l ↔ p ∈ l ∧ V p = true := by unfold ascd; rw [List.mem_filter, mem_sortR]
theorem ascd_asc (l : List PP) : (ascd l).Pairwise ltP := (sortR_asc l).sublist List.filter_sublist
theorem ltB_blk {p q : PP} (hp : V p = true) (hq : V q = true) : CM.ltB (blk p) (blk q) ↔ ltP p q := by
  have a := (V_iff p).1 hp
  have b := (V_iff q).1 hq
  unfold CM.ltB ltP blk
  dsimp only
  omega
/-- addresses fit -/
def FitP (l : List PP) : Prop := ∀ x ∈ l, x.1 < 4294967296
theorem blk_top {p : PP} (h : p.1 < 4294967296) (hv : V p = true) : (blk p).1 + 2 ^ (blk p).2 ≤ 4294967296 := block_top h hv
theorem mem_lt {l : List PP} (hf : FitP l) : ∀ y, mem l y = true → y < 4294967296 := fun y hy => by
  obtain ⟨p, hp, hv, h⟩ := (mem_iff l y).1 hy
  have := blk_top (hf p hp) hv
  have := h.2
  omega
theorem pairwise_blk : ∀ {l : List PP}, (∀ p ∈ l, V p = true) → l.Pairwise ltP → (l.map blk).Pairwise CM.ltB
  | [], _, _ => List.Pairwise.nil
  | x :: r, hv, ha => by
    obtain ⟨h1, h2⟩ := List.pairwise_cons.1 ha
    rw [List.map_cons, List.pairwise_cons]
    refine ⟨fun y hy => ?_, pairwise_blk (fun p hp => hv p (by simp [hp])) h2⟩
    obtain ⟨q, hq, rfl⟩ := List.mem_map.1 hy
    exact (ltB_blk (hv x (by simp)) (hv q (by simp [hq]))).2 (h1 q hq)
theorem lies_ascd {l : List PP} (hf : FitP l) : CM.Lies (mem l) ((ascd l).map blk) 0 32 := by
  refine ⟨pairwise_blk (fun p hp => ((ascd_mem l p).1 hp).2) (ascd_asc l), ?_, ?_, ?_⟩
  · intro x hx
    obtain ⟨p, hp, rfl⟩ := List.mem_map.1 hx
    exact blk_al ((ascd_mem l p).1 hp).2
  · intro x hx
    obtain ⟨p, hp, rfl⟩ := List.mem_map.1 hx
    have h := (ascd_mem l p).1 hp
    have := blk_top (hf p h.1) h.2
    exact ⟨Nat.zero_le _, by simpa using this⟩
  · intro y _ _
    rw [mem_iff]
    constructor
    · rintro ⟨p, hp, hv, h⟩; exact ⟨blk p, List.mem_map.2 ⟨p, (ascd_mem l p).2 ⟨hp, hv⟩, rfl⟩, h⟩
    · rintro ⟨x, hx, h⟩
      obtain ⟨p, hp, rfl⟩ := List.mem_map.1 hx
      have g := (ascd_mem l p).1 hp
      exact ⟨p, g.1, g.2, h⟩
theorem inv_ascd {l : List PP} (hf : FitP l) : CM.Inv (mem l) ((ascd l).map blk) 0 32 := (lies_ascd hf).inv (Nat.zero_mod _)
/-- how many blocks a list has, at most -/
theorem asc_len : ∀ {l : List (Nat × Nat)} {N : Nat}, l.Pairwise (fun x y => x.1 + 2 ^ x.2 ≤ y.1) → (∀ x ∈ l, x.1 + 2 ^ x.2 ≤ N) → ∀ A, (∀ x ∈ l, A ≤ x.1) → A ≤ N → l.length + A ≤ N
  | [], N, _, _, A, _, h => by simpa using h
  | x :: r, N, ha, hb, A, hA, h => by
    obtain ⟨h1, h2⟩ := List.pairwise_cons.1 ha
    have hp := CM.pow_pos' x.2
    have := asc_len (l := r) (N := N) h2 (fun y hy => hb y (by simp [hy])) (x.1 + 2 ^ x.2) (fun y hy => h1 y hy) (hb x (by simp))
    have := hA x (by simp)
    rw [List.length_cons]
    omega
theorem nrm_top {S : Nat → Bool} {l : List (Nat × Nat)} (h : CM.Nrm S l) (hS : ∀ y, S y = true → y < 4294967296) : ∀ x ∈ l, x.1 + 2 ^ x.2 ≤ 4294967296 := by
  intro x hx
  have hp := CM.pow_pos' x.2
  have := hS _ (h.fl x hx (x.1 + 2 ^ x.2 - 1) (by omega) (by omega))
  omega
theorem nrm_len {S : Nat → Bool} {l : List (Nat × Nat)} (h : CM.Nrm S l) (hS : ∀ y, S y = true → y < 4294967296) : l.length ≤ 4294967296 := by
  have := asc_len h.asc (nrm_top h hS) 0 (fun x _ => Nat.zero_le _) (Nat.zero_le _)
  omega
/-- a normal list as prefixes has the same addresses -/
theorem mem_pfx {S : Nat → Bool} {B : List (Nat × Nat)} (h : CM.Nrm S B) : mem (B.map pfx) = S := by
  funext y
  rw [Bool.eq_iff_iff, mem_iff]
  constructor
  · rintro ⟨p, hp, hv, hi⟩
    obtain ⟨x, hx, rfl⟩ := List.mem_map.1 hp
    rw [blk_pfx (h.le x hx)] at hi
    exact h.fl x hx y hi.1 hi.2
  · intro hy
    obtain ⟨x, hx, h1, h2⟩ := h.all y hy
    refine ⟨pfx x, List.mem_map.2 ⟨x, hx, rfl⟩, V_pfx (h.le x hx) (h.al x hx), ?_⟩
    rw [blk_pfx (h.le x hx)]; exact ⟨h1, h2⟩
theorem fit_pfx {S : Nat → Bool} {B : List (Nat × Nat)} (h : CM.Nrm S B) (hS : ∀ y, S y = true → y < 4294967296) : FitP (B.map pfx) := by
  intro p hp
  obtain ⟨x, hx, rfl⟩ := List.mem_map.1 hp
  have := nrm_top h hS x hx
  have hp := CM.pow_pos' x.2
  show x.1 < _
  omega
/-- lists of one set are the same -/
theorem nrm_same {S T : Nat → Bool} {B C : List (Nat × Nat)} (h : CM.Nrm S B) (h' : CM.Nrm T C) (e : ∀ y, S y = T y) : B.map pfx = C.map pfx := by
  have : S = T := funext e
  subst this
  rw [h.unique h']
theorem pfx_inj {B C : List (Nat × Nat)} (hB : ∀ x ∈ B, x.2 ≤ 32) (hC : ∀ x ∈ C, x.2 ≤ 32) (h : B.map pfx = C.map pfx) : B = C := by
  have e : ∀ {l : List (Nat × Nat)}, (∀ x ∈ l, x.2 ≤ 32) → (l.map pfx).map blk = l := fun {l} hl => by
    rw [List.map_map]
    conv => rhs; rw [← List.map_id l]
    exact List.map_congr_left fun x hx => blk_pfx (hl x hx)
  rw [← e hB, h, e hC]
/-- the summary of a set between its least and its greatest address -/
def sumP (lo hi : Nat) : PP := (M.keepN lo (M.comN lo hi), (M.comN lo hi : Int))
end Go.Proofs.Ytegponbmelgngaa
