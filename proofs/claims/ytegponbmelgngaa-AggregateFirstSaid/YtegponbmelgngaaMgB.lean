/-
  Prefixes as blocks: validity, membership, last address, halves in numbers.
  Lists of prefixes as sets of addresses; a sorted list of valid prefixes as blocks; the summary in numbers.
  Tables of entries as the program has them, and as blocks with values: the error of a table, lookups.
-/
import Derived.Test.YtegponbmelgngaaMgM
import Derived.Test.YtegponbmelgngaaMgWb
import Derived.Test.YtegponbmelgngaaMgP
section
namespace Go.Proofs.Ytegponbmelgngaa
set_option linter.unusedSimpArgs false
set_option linter.unusedVariables false

theorem keepN_fix (a k : Nat) : M.keepN a k = a ↔ a % 2 ^ (32 - k) = 0 := by
  unfold M.keepN
  have h1 := Nat.div_add_mod a (2 ^ (32 - k))
  rw [Nat.mul_comm] at h1
  constructor <;> intro h <;> omega
theorem V_al (a : Nat) (n : Int) : V (a, n) = true ↔ 0 ≤ n ∧ n ≤ 32 ∧ a % 2 ^ (32 - n.toNat) = 0 := by
  rw [V_iff]
  dsimp only
  rw [keepN_fix]
theorem con_in {a : Nat} {n : Int} (hv : vld a n = true) (x : Nat) : con a n x = true ↔ a ≤ x ∧ x < a + 2 ^ (32 - n.toNat) := by
  obtain ⟨h0, h1, h2⟩ := (V_al a n).1 hv
  unfold con
  rw [hv, low_in h0 h1]
  simp only [Bool.true_and, decide_eq_true_eq]
  unfold M.keepN
  constructor
  · intro h
    have := CM.in_base x (32 - n.toNat)
    omega
  · intro h
    exact CM.base_of h2 h.1 h.2
theorem mid_eq {a : Nat} {n : Int} (hv : vld a n = true) (h31 : n ≤ 31) : midN a n = a + 2 ^ (31 - n.toNat) := by
  obtain ⟨h0, h1, h2⟩ := (V_al a n).1 hv
  unfold midN
  refine M.nat_join (32 - n.toNat) _ _ h2 (Nat.pow_lt_pow_right (by decide) (by omega))
theorem last_eq {a : Nat} {n : Int} (hv : vld a n = true) : lastN a n = a + 2 ^ (32 - n.toNat) - 1 := by
  obtain ⟨h0, h1, h2⟩ := (V_al a n).1 hv
  have hp := CM.pow_pos' (32 - n.toNat)
  have hle := M.pow_le32 (k := 32 - n.toNat) (by omega)
  have e : 4294967295 - M.maskN n.toNat = 2 ^ (32 - n.toNat) - 1 := by unfold M.maskN; omega
  unfold lastN
  rw [low_in h0 h1, e, M.nat_join (32 - n.toNat) _ _ h2 (by omega)]
  omega
theorem block_top {a : Nat} {n : Int} (ha : a < 4294967296) (hv : vld a n = true) : a + 2 ^ (32 - n.toNat) ≤ 4294967296 := by
  obtain ⟨h0, h1, h2⟩ := (V_al a n).1 hv
  obtain ⟨q, rfl⟩ := Nat.dvd_of_mod_eq_zero h2
  have e : 4294967296 = 2 ^ (32 - n.toNat) * 2 ^ n.toNat := by rw [← Nat.pow_add, show 32 - n.toNat + n.toNat = 32 by omega]
  have hq : q < 2 ^ n.toNat := by
    rw [e] at ha
    exact Nat.lt_of_mul_lt_mul_left ha
  calc 2 ^ (32 - n.toNat) * q + 2 ^ (32 - n.toNat) = 2 ^ (32 - n.toNat) * (q + 1) := by rw [Nat.mul_add, Nat.mul_one]
    _ ≤ 2 ^ (32 - n.toNat) * 2 ^ n.toNat := Nat.mul_le_mul_left _ hq
    _ = 4294967296 := e.symm
theorem low_half {a : Nat} {n : Int} (hv : vld a n = true) (h31 : n ≤ 31) : vld a (n + 1) = true := by
  obtain ⟨h0, h1, h2⟩ := (V_al a n).1 hv
  exact (V_al a (n + 1)).2 ⟨by omega, by omega, CM.mod_of_le (by omega) h2⟩
theorem high_half {a : Nat} {n : Int} (hv : vld a n = true) (h31 : n ≤ 31) : vld (midN a n) (n + 1) = true := by
  obtain ⟨h0, h1, h2⟩ := (V_al a n).1 hv
  rw [mid_eq hv h31]
  refine (V_al _ (n + 1)).2 ⟨by omega, by omega, ?_⟩
  rw [show 32 - (n + 1).toNat = 31 - n.toNat by omega, Nat.add_mod_right]
  exact CM.mod_of_le (by omega) h2
end Go.Proofs.Ytegponbmelgngaa
end

section
namespace Go.Proofs.Ytegponbmelgngaa
set_option linter.unusedSimpArgs false
set_option linter.unusedVariables false

/-- a block as a prefix, a prefix as a block -/
def pfx (x : Nat × Nat) : PP := (x.1, ((32 - x.2 : Nat) : Int))
def blk (p : PP) : Nat × Nat := (p.1, 32 - p.2.toNat)
theorem pfx_blk {p : PP} (h : V p = true) : pfx (blk p) = p := by
  have := (V_iff p).1 h
  unfold pfx blk
  exact Prod.ext rfl (by dsimp only; omega)
theorem blk_pfx {x : Nat × Nat} (h : x.2 ≤ 32) : blk (pfx x) = x := by
  unfold pfx blk
  exact Prod.ext rfl (by dsimp only; omega)
theorem blk_al {p : PP} (h : V p = true) : (blk p).1 % 2 ^ (blk p).2 = 0 := ((V_al p.1 p.2).1 h).2.2
theorem blk_le (p : PP) : (blk p).2 ≤ 32 := by unfold blk; dsimp only; omega
theorem V_pfx {x : Nat × Nat} (h : x.2 ≤ 32) (ha : x.1 % 2 ^ x.2 = 0) : V (pfx x) = true := by
  refine (V_al _ _).2 ⟨by omega, by omega, ?_⟩
  show x.1 % 2 ^ (32 - ((32 - x.2 : Nat) : Int).toNat) = 0
  rw [show 32 - ((32 - x.2 : Nat) : Int).toNat = x.2 by omega]; exact ha
/-- the address lies in one of the prefixes -/
def mem (l : List PP) (y : Nat) : Bool := l.any (fun p => con p.1 p.2 y)
theorem mem_iff (l : List PP) (y : Nat) : mem l y = true ↔ ∃ p ∈ l, V p = true ∧ CM.inB (blk p) y := by
  unfold mem
  rw [List.any_eq_true]
  constructor
  · rintro ⟨p, hp, h⟩
    have hv : V p = true := by unfold con at h; rw [Bool.and_eq_true] at h; exact h.1
    exact ⟨p, hp, hv, (con_in hv y).1 h⟩
  · rintro ⟨p, hp, hv, h⟩
    exact ⟨p, hp, (con_in hv y).2 h⟩
/-- the valid prefixes, ascending, each once -/
def ascd (l : List PP) : List PP := (sortR l).filter V
theorem ascd_mem (l : List PP) (p : PP) : p ∈ ascd l ↔ p ∈ l ∧ V p = true := by unfold ascd; rw [List.mem_filter, mem_sortR]
theorem ascd_asc (l : List PP) : (ascd l).Pairwise ltP := (sortR_asc l).sublist List.filter_sublist
theorem ltB_blk {p q : PP} (hp : V p = true) (hq : V q = true) : CM.ltB (blk p) (blk q) ↔ ltP p q := by
  have a := (V_iff p).1 hp
  have b := (V_iff q).1 hq
  unfold CM.ltB ltP blk
  dsimp only
  omega
/-- addresses fit -/
def FitP (l : List PP) : Prop := ∀ x ∈ l, x.1 < 4294967296
theorem blk_top {p : PP} (h : p.1 < 4294967296) (hv : V p = true) : (blk p).1 + 2 ^ (blk p).2 ≤ 4294967296 := block_top h hv
theorem mem_lt {l : List PP} (hf : FitP l) : ∀ y, mem l y = true → y < 4294967296 := fun y hy => by
  obtain ⟨p, hp, hv, h⟩ := (mem_iff l y).1 hy
  have := blk_top (hf p hp) hv
  have := h.2
  omega
theorem pairwise_blk : ∀ {l : List PP}, (∀ p ∈ l, V p = true) → l.Pairwise ltP → (l.map blk).Pairwise CM.ltB
  | [], _, _ => List.Pairwise.nil
  | x :: r, hv, ha => by
    obtain ⟨h1, h2⟩ := List.pairwise_cons.1 ha
    rw [List.map_cons, List.pairwise_cons]
    refine ⟨fun y hy => ?_, pairwise_blk (fun p hp => hv p (by simp [hp])) h2⟩
    obtain ⟨q, hq, rfl⟩ := List.mem_map.1 hy
    exact (ltB_blk (hv x (by simp)) (hv q (by simp [hq]))).2 (h1 q hq)
theorem lies_ascd {l : List PP} (hf : FitP l) : CM.Lies (mem l) ((ascd l).map blk) 0 32 := by
  refine ⟨pairwise_blk (fun p hp => ((ascd_mem l p).1 hp).2) (ascd_asc l), ?_, ?_, ?_⟩
  · intro x hx
    obtain ⟨p, hp, rfl⟩ := List.mem_map.1 hx
    exact blk_al ((ascd_mem l p).1 hp).2
  · intro x hx
    obtain ⟨p, hp, rfl⟩ := List.mem_map.1 hx
    have h := (ascd_mem l p).1 hp
    have := blk_top (hf p h.1) h.2
    exact ⟨Nat.zero_le _, by simpa using this⟩
  · intro y _ _
    rw [mem_iff]
    constructor
    · rintro ⟨p, hp, hv, h⟩; exact ⟨blk p, List.mem_map.2 ⟨p, (ascd_mem l p).2 ⟨hp, hv⟩, rfl⟩, h⟩
    · rintro ⟨x, hx, h⟩
      obtain ⟨p, hp, rfl⟩ := List.mem_map.1 hx
      have g := (ascd_mem l p).1 hp
      exact ⟨p, g.1, g.2, h⟩
theorem inv_ascd {l : List PP} (hf : FitP l) : CM.Inv (mem l) ((ascd l).map blk) 0 32 := (lies_ascd hf).inv (Nat.zero_mod _)
/-- how many blocks a list has, at most -/
theorem asc_len : ∀ {l : List (Nat × Nat)} {N : Nat}, l.Pairwise (fun x y => x.1 + 2 ^ x.2 ≤ y.1) → (∀ x ∈ l, x.1 + 2 ^ x.2 ≤ N) → ∀ A, (∀ x ∈ l, A ≤ x.1) → A ≤ N → l.length + A ≤ N
  | [], N, _, _, A, _, h => by simpa using h
  | x :: r, N, ha, hb, A, hA, h => by
    obtain ⟨h1, h2⟩ := List.pairwise_cons.1 ha
    have hp := CM.pow_pos' x.2
    have := asc_len (l := r) (N := N) h2 (fun y hy => hb y (by simp [hy])) (x.1 + 2 ^ x.2) (fun y hy => h1 y hy) (hb x (by simp))
    have := hA x (by simp)
    rw [List.length_cons]
    omega
theorem nrm_top {S : Nat → Bool} {l : List (Nat × Nat)} (h : CM.Nrm S l) (hS : ∀ y, S y = true → y < 4294967296) : ∀ x ∈ l, x.1 + 2 ^ x.2 ≤ 4294967296 := by
  intro x hx
  have hp := CM.pow_pos' x.2
  have := hS _ (h.fl x hx (x.1 + 2 ^ x.2 - 1) (by omega) (by omega))
  omega
theorem nrm_len {S : Nat → Bool} {l : List (Nat × Nat)} (h : CM.Nrm S l) (hS : ∀ y, S y = true → y < 4294967296) : l.length ≤ 4294967296 := by
  have := asc_len h.asc (nrm_top h hS) 0 (fun x _ => Nat.zero_le _) (Nat.zero_le _)
  omega
/-- a normal list as prefixes has the same addresses -/
theorem mem_pfx {S : Nat → Bool} {B : List (Nat × Nat)} (h : CM.Nrm S B) : mem (B.map pfx) = S := by
  funext y
  rw [Bool.eq_iff_iff, mem_iff]
  constructor
  · rintro ⟨p, hp, hv, hi⟩
    obtain ⟨x, hx, rfl⟩ := List.mem_map.1 hp
    rw [blk_pfx (h.le x hx)] at hi
    exact h.fl x hx y hi.1 hi.2
  · intro hy
    obtain ⟨x, hx, h1, h2⟩ := h.all y hy
    refine ⟨pfx x, List.mem_map.2 ⟨x, hx, rfl⟩, V_pfx (h.le x hx) (h.al x hx), ?_⟩
    rw [blk_pfx (h.le x hx)]; exact ⟨h1, h2⟩
theorem fit_pfx {S : Nat → Bool} {B : List (Nat × Nat)} (h : CM.Nrm S B) (hS : ∀ y, S y = true → y < 4294967296) : FitP (B.map pfx) := by
  intro p hp
  obtain ⟨x, hx, rfl⟩ := List.mem_map.1 hp
  have := nrm_top h hS x hx
  have hp := CM.pow_pos' x.2
  show x.1 < _
  omega
/-- lists of one set are the same -/
theorem nrm_same {S T : Nat → Bool} {B C : List (Nat × Nat)} (h : CM.Nrm S B) (h' : CM.Nrm T C) (e : ∀ y, S y = T y) : B.map pfx = C.map pfx := by
  have : S = T := funext e
  subst this
  rw [h.unique h']
theorem pfx_inj {B C : List (Nat × Nat)} (hB : ∀ x ∈ B, x.2 ≤ 32) (hC : ∀ x ∈ C, x.2 ≤ 32) (h : B.map pfx = C.map pfx) : B = C := by
  have e : ∀ {l : List (Nat × Nat)}, (∀ x ∈ l, x.2 ≤ 32) → (l.map pfx).map blk = l := fun {l} hl => by
    rw [List.map_map]
    conv => rhs; rw [← List.map_id l]
    exact List.map_congr_left fun x hx => blk_pfx (hl x hx)
  rw [← e hB, h, e hC]
/-- the summary of a set between its least and its greatest address -/
def sumP (lo hi : Nat) : PP := (M.keepN lo (M.comN lo hi), (M.comN lo hi : Int))
end Go.Proofs.Ytegponbmelgngaa
end

section
namespace Go.Proofs.Ytegponbmelgngaa
set_option linter.unusedSimpArgs false
set_option linter.unusedVariables false

/-- is the prefix not greater than the one before it? -/
def badP : Option PP → PP → Bool
  | none, _ => false
  | some p, q => !decide (ltP p q)
theorem badP_iff {o : Option PP} {q : PP} : badP o q = false ↔ ∀ p, o = some p → ltP p q := by
  cases o with
  | none => exact ⟨(fun _ p h => by cases h), fun _ => rfl⟩
  | some p =>
    unfold badP
    constructor
    · intro h x hx; cases hx; simpa using h
    · intro h; simpa using h p rfl
/-- the error of the entries behind one with the prefix 'prev' -/
def ckS : Option PP → List En → Int
  | _, [] => 0
  | prev, e :: r => if V e.1 = false then 1 else if e.2 < -1 then 5 else if badP prev e.1 = true then 16 else ckS (some e.1) r
def prevP (l : List En) : Nat → Option PP
  | 0 => none
  | k + 1 => l[k]?.map (·.1)
/-- the error of a table -/
def ckE (l : List En) : Int := if 2000 < l.length then 4 else ckS none l
theorem ckS_drop {l : List En} {k : Nat} {e : En} (h : l[k]? = some e) : ckS (prevP l k) (l.drop k) = if V e.1 = false then 1 else if e.2 < -1 then 5 else if badP (prevP l k) e.1 = true then 16 else ckS (prevP l (k + 1)) (l.drop (k + 1)) := by
  obtain ⟨hk, he⟩ := List.getElem?_eq_some_iff.1 h
  rw [List.drop_eq_getElem_cons hk, he]
  have : prevP l (k + 1) = some e.1 := by show l[k]?.map (·.1) = _; rw [h]; rfl
  rw [this]; rfl
theorem ckS_end (l : List En) : ckS (prevP l l.length) (l.drop l.length) = 0 := by rw [List.drop_length]; rfl
theorem ckS_iff : ∀ {l : List En} {prev : Option PP}, ckS prev l = 0 ↔ (∀ e ∈ l, V e.1 = true ∧ -1 ≤ e.2) ∧ AscE l ∧ ∀ p, prev = some p → ∀ e ∈ l, ltP p e.1
  | [], prev => by simp [ckS]
  | e :: r, prev => by
    have ih := ckS_iff (l := r) (prev := some e.1)
    unfold ckS
    constructor
    · intro h
      split at h
      · omega
      · rename_i hv
        split at h
        · omega
        · rename_i hr
          split at h
          · omega
          · rename_i hp
            obtain ⟨i1, i2, i3⟩ := ih.1 h
            have hpe : ∀ p, prev = some p → ltP p e.1 := badP_iff.1 (by simpa using hp)
            refine ⟨fun x hx => ?_, List.pairwise_cons.2 ⟨fun x hx => i3 e.1 rfl x hx, i2⟩, fun p hpp x hx => ?_⟩
            · rcases List.mem_cons.1 hx with rfl | hx
              · exact ⟨by simpa using hv, by omega⟩
              · exact i1 x hx
            · rcases List.mem_cons.1 hx with rfl | hx
              · exact hpe p hpp
              · exact ltP_trans (hpe p hpp) (i3 e.1 rfl x hx)
    · rintro ⟨h1, h2, h3⟩
      have he := h1 e (by simp)
      obtain ⟨h4, h5⟩ := List.pairwise_cons.1 h2
      rw [if_neg (by rw [he.1]; simp), if_neg (by omega), if_neg]
      · exact ih.2 ⟨fun x hx => h1 x (List.mem_cons_of_mem _ hx), h5, fun p hp x hx => by cases hp; exact h4 x hx⟩
      · rw [badP_iff.2 fun p hp => h3 p hp e (by simp)]; decide
/-- a table -/
structure TabE (l : List En) : Prop where
  len : l.length ≤ 2000
  val : ∀ e ∈ l, V e.1 = true ∧ -1 ≤ e.2
  asc : AscE l
theorem ckE_iff {l : List En} : ckE l = 0 ↔ TabE l := by
  unfold ckE
  constructor
  · intro h
    split at h
    · omega
    · obtain ⟨h1, h2, _⟩ := ckS_iff.1 h
      exact ⟨by omega, h1, h2⟩
  · intro h
    rw [if_neg (by have := h.len; omega)]
    exact ckS_iff.2 ⟨h.val, h.asc, fun p hp => by cases hp⟩
theorem ckE_cases (l : List En) : ckE l = 0 ∨ ckE l = 4 ∨ ckE l = 1 ∨ ckE l = 5 ∨ ckE l = 16 := by
  have aux : ∀ (l : List En) (p : Option PP), ckS p l = 0 ∨ ckS p l = 1 ∨ ckS p l = 5 ∨ ckS p l = 16 := by
    intro l
    induction l with
    | nil => intro p; exact .inl rfl
    | cons e r ih =>
      intro p
      unfold ckS
      split
      · exact .inr (.inl rfl)
      · split
        · exact .inr (.inr (.inl rfl))
        · split
          · exact .inr (.inr (.inr rfl))
          · exact ih _
  unfold ckE
  split
  · exact .inr (.inl rfl)
  · rcases aux l none with h | h | h | h <;> simp [h]
/-- the lookup: the value of the last entry that has the address -/
def lkE (a : Nat) (v : Int) (l : List En) : Int := l.foldl (fun acc e => if con e.1.1 e.1.2 a = true then e.2 else acc) v
theorem lkE_snoc (a : Nat) (v : Int) (l : List En) (e : En) : lkE a v (l ++ [e]) = if con e.1.1 e.1.2 a = true then e.2 else lkE a v l := by unfold lkE; rw [List.foldl_append]; rfl
/-- an entry as a block with a value -/
def toBe (e : En) : AG.Be := (blk e.1, e.2)
theorem inb_blk {p : PP} (h : V p = true) (a : Nat) : AG.inb (blk p) a = con p.1 p.2 a := by
  have h1 : AG.inb (blk p) a = true ↔ con p.1 p.2 a = true := by rw [AG.inb_iff, con_in h]; rfl
  cases h2 : con p.1 p.2 a
  · cases h3 : AG.inb (blk p) a
    · rfl
    · rw [h1.1 h3] at h2; cases h2
  · exact h1.2 h2
theorem lkE_lk (a : Nat) : ∀ (l : List En) (v : Int), (∀ e ∈ l, V e.1 = true) → lkE a v l = AG.lk a v (l.map toBe)
  | [], v, _ => rfl
  | e :: r, v, h => by
    rw [List.map_cons, AG.lk_cons]
    show lkE a (if con e.1.1 e.1.2 a = true then e.2 else v) r = _
    rw [show (toBe e).1 = blk e.1 from rfl, inb_blk (h e (by simp))]
    exact lkE_lk a r _ (fun x hx => h x (List.mem_cons_of_mem _ hx))
theorem TabE.frag {l : List En} (h : TabE l) (hf : ∀ e ∈ l, e.1.1 < 4294967296) : AG.Frag 0 32 (l.map toBe) := by
  refine ⟨?_, fun e he => ?_, fun e he => ?_⟩
  · rw [List.pairwise_map]
    exact h.asc.imp_of_mem fun {x y} hx hy hxy => (ltB_blk (h.val x hx).1 (h.val y hy).1).2 hxy
  · obtain ⟨x, hx, rfl⟩ := List.mem_map.1 he
    exact blk_al (h.val x hx).1
  · obtain ⟨x, hx, rfl⟩ := List.mem_map.1 he
    have := blk_top (hf x hx) (h.val x hx).1
    refine ⟨Nat.zero_le _, ?_⟩
    show (blk x.1).1 + 2 ^ (blk x.1).2 ≤ 0 + 2 ^ 32
    omega
end Go.Proofs.Ytegponbmelgngaa
end
