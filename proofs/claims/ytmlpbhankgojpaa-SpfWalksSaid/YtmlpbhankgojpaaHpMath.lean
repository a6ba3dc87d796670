/-
  The mathematics of a binary tree of items: places, order, and what an exchange of two items keeps.
-/
namespace Go.Proofs.Ytmlpbhankgojpaa
namespace HM
set_option linter.unusedVariables false
set_option linter.unusedSimpArgs false

/-- leaves the queue earlier -/
def lt (key : Nat → Int) (a b : Nat) : Prop := key a < key b ∨ (key a = key b ∧ a < b)
theorem lt_tri (key : Nat → Int) (a b : Nat) : lt key a b ∨ a = b ∨ lt key b a := by unfold lt; omega
theorem lt_irr {key : Nat → Int} {a : Nat} : ¬ lt key a a := by unfold lt; omega
theorem lt_asymm {key : Nat → Int} {a b : Nat} (h : lt key a b) : ¬ lt key b a := by unfold lt at *; omega
theorem nlt_trans {key : Nat → Int} {a b c : Nat} (h : ¬ lt key a b) (h' : ¬ lt key b c) : ¬ lt key a c := by unfold lt at *; omega
theorem nlt_of_lt_nlt {key : Nat → Int} {a b c : Nat} (h : ¬ lt key a b) (h' : lt key c b) : ¬ lt key a c := nlt_trans h (lt_asymm h')
theorem lt_congr {k k' : Nat → Int} {a b : Nat} (ha : k' a = k a) (hb : k' b = k b) : lt k' a b ↔ lt k a b := by unfold lt; rw [ha, hb]
instance (key : Nat → Int) (a b : Nat) : Decidable (lt key a b) := by unfold lt; infer_instance

def gN (l : List Nat) (p : Nat) : Nat := l[p]?.getD 0
def gI (l : List Int) (p : Nat) : Int := l[p]?.getD 0
theorem gN_set {l : List Nat} {q x p : Nat} (hq : q < l.length) : gN (l.set q x) p = if p = q then x else gN l p := by
  unfold gN; rw [List.getElem?_set]
  by_cases h : q = p
  · subst h; simp [hq]
  · rw [if_neg h, if_neg (fun e => h e.symm)]
theorem gI_set {l : List Int} {q p : Nat} {x : Int} (hq : q < l.length) : gI (l.set q x) p = if p = q then x else gI l p := by
  unfold gI; rw [List.getElem?_set]
  by_cases h : q = p
  · subst h; simp [hq]
  · rw [if_neg h, if_neg (fun e => h e.symm)]
theorem gN_get {l : List Nat} {p : Nat} (h : p < l.length) : l[p]? = some (gN l p) := by unfold gN; simp [h]
theorem gI_get {l : List Int} {p : Nat} (h : p < l.length) : l[p]? = some (gI l p) := by unfold gI; simp [h]
theorem gN_app {l : List Nat} {x p : Nat} : gN (l ++ [x]) p = if p = l.length then x else gN l p := by
  unfold gN
  by_cases h : p < l.length
  · rw [List.getElem?_append_left h, if_neg (by omega)]
  · rw [List.getElem?_append_right (by omega)]
    by_cases e : p = l.length
    · subst e; simp
    · rw [if_neg e, List.getElem?_eq_none (by simp; omega), List.getElem?_eq_none (by omega)]
theorem gN_take {l : List Nat} {n p : Nat} (h : p < n) : gN (l.take n) p = gN l p := by unfold gN; rw [List.getElem?_take, if_pos h]

def cnt (pl : List Int) : Nat := pl.countP (fun v => decide (0 ≤ v))
theorem cnt_le (pl : List Int) : cnt pl ≤ pl.length := List.countP_le_length
theorem cnt_set {pl : List Int} {x : Nat} {v : Int} (hx : x < pl.length) : cnt (pl.set x v) + (if 0 ≤ gI pl x then 1 else 0) = cnt pl + (if 0 ≤ v then 1 else 0) := by
  unfold cnt gI
  induction pl generalizing x with
  | nil => simp at hx
  | cons a r ih =>
    cases x with
    | zero => simp only [List.set_cons_zero, List.countP_cons, List.getElem?_cons_zero, Option.getD_some, decide_eq_true_eq]; omega
    | succ x =>
      have := ih (x := x) (by simpa using hx)
      simp only [List.set_cons_succ, List.countP_cons, List.getElem?_cons_succ, decide_eq_true_eq] at this ⊢
      omega

/-- items and their places -/
structure WF (n : Nat) (its : List Nat) (pl : List Int) : Prop where
  len : pl.length = n
  at' : ∀ p, p < its.length → gN its p < n ∧ gI pl (gN its p) = p
  off : ∀ x, x < n → gI pl x = -1 ∨ ∃ p : Nat, p < its.length ∧ gI pl x = p ∧ gN its p = x
  cnt : its.length = cnt pl
theorem WF.inj {n : Nat} {its : List Nat} {pl : List Int} (h : WF n its pl) {p q : Nat} (hp : p < its.length) (hq : q < its.length) (e : gN its p = gN its q) : p = q := by
  have h1 := (h.at' p hp).2
  have h2 := (h.at' q hq).2
  rw [e] at h1; omega
theorem WF.le {n : Nat} {its : List Nat} {pl : List Int} (h : WF n its pl) : its.length ≤ n := by rw [h.cnt, ← h.len]; exact cnt_le _
theorem WF.lt_len {n : Nat} {its : List Nat} {pl : List Int} (h : WF n its pl) {x : Nat} (hx : x < n) (h0 : 0 ≤ gI pl x) : ∃ p : Nat, p < its.length ∧ gI pl x = p ∧ gN its p = x := by
  rcases h.off x hx with e | e
  · omega
  · exact e

def swapI (its : List Nat) (a b : Nat) : List Nat := (its.set a (gN its b)).set b (gN its a)
def swapP (pl : List Int) (its' : List Nat) (a b : Nat) : List Int := (pl.set (gN its' a) a).set (gN its' b) b
theorem swapI_len (its : List Nat) (a b : Nat) : (swapI its a b).length = its.length := by simp [swapI]
theorem swapI_get {its : List Nat} {a b : Nat} (ha : a < its.length) (hb : b < its.length) (p : Nat) : gN (swapI its a b) p = if p = b then gN its a else if p = a then gN its b else gN its p := by
  unfold swapI; rw [gN_set (by simpa using hb), gN_set ha]
theorem WF.swap {n : Nat} {its : List Nat} {pl : List Int} (h : WF n its pl) {a b : Nat} (ha : a < its.length) (hb : b < its.length) :
    WF n (swapI its a b) (swapP pl (swapI its a b) a b) ∧ ∀ x, x < n → (0 ≤ gI (swapP pl (swapI its a b) a b) x ↔ 0 ≤ gI pl x) := by
  have ga := swapI_get ha hb
  have ea : gN (swapI its a b) b = gN its a := by rw [ga, if_pos rfl]
  have eb : gN (swapI its a b) a = gN its b := by rw [ga]; by_cases e : a = b; simp [e]; simp [e]
  have hA := h.at' a ha
  have hB := h.at' b hb
  have hl := h.len
  have gp : ∀ x, gI (swapP pl (swapI its a b) a b) x = if x = gN its a then (b : Int) else if x = gN its b then (a : Int) else gI pl x := by
    intro x; unfold swapP; rw [ea, eb, gI_set (by simp; omega), gI_set (by omega)]
  have nn : ∀ x, 0 ≤ gI (swapP pl (swapI its a b) a b) x ↔ 0 ≤ gI pl x := by
    intro x; rw [gp]
    split
    · rename_i e; subst e; omega
    · split
      · rename_i e; subst e; omega
      · exact Iff.rfl
  refine ⟨⟨by simp [swapP, hl], fun p hp => ?_, fun x hx => ?_, ?_⟩, fun x hx => nn x⟩
  · rw [swapI_len] at hp
    have hP := h.at' p hp
    rw [ga, gp]
    by_cases e1 : p = b
    · subst e1; rw [if_pos rfl]; exact ⟨hA.1, by rw [if_pos rfl]⟩
    · rw [if_neg e1]
      by_cases e2 : p = a
      · subst e2
        rw [if_pos rfl]
        refine ⟨hB.1, ?_⟩
        rw [if_neg (fun e => e1 (h.inj hp hb e.symm)), if_pos rfl]
      · rw [if_neg e2]
        refine ⟨hP.1, ?_⟩
        rw [if_neg (fun e => e2 (h.inj hp ha e)), if_neg (fun e => e1 (h.inj hp hb e))]
        exact hP.2
  · rw [swapI_len]
    rcases h.off x hx with e | ⟨p, hp, h1, h2⟩
    · left; rw [gp, if_neg (fun e' => by subst e'; omega), if_neg (fun e' => by subst e'; omega)]; exact e
    · right
      by_cases e1 : p = a
      · subst e1; refine ⟨b, hb, ?_, by rw [ea, h2]⟩; rw [gp, if_pos h2.symm]
      · by_cases e2 : p = b
        · subst e2; refine ⟨a, ha, ?_, by rw [eb, h2]⟩
          rw [gp, if_neg (fun e => e1 (h.inj hp ha (by rw [h2, e]))), if_pos h2.symm]
        · refine ⟨p, hp, ?_, by rw [ga, if_neg e2, if_neg e1, h2]⟩
          rw [gp, if_neg (fun e => e1 (h.inj hp ha (by rw [h2, e]))), if_neg (fun e => e2 (h.inj hp hb (by rw [h2, e])))]
          exact h1
  · rw [swapI_len, h.cnt]
    have h1 := cnt_set (pl := pl) (x := gN (swapI its a b) a) (v := (a : Int)) (by rw [eb]; omega)
    have h2 := cnt_set (pl := pl.set (gN (swapI its a b) a) (a : Int)) (x := gN (swapI its a b) b) (v := (b : Int)) (by simp; rw [ea]; omega)
    rw [gI_set (by rw [eb]; omega)] at h2
    unfold swapP
    have p1 : 0 ≤ gI pl (gN (swapI its a b) a) := by rw [eb]; omega
    have p2 : 0 ≤ (if gN (swapI its a b) b = gN (swapI its a b) a then (a : Int) else gI pl (gN (swapI its a b) b)) := by
      split
      · omega
      · rw [ea]; omega
    rw [if_pos p1, if_pos (by omega)] at h1
    rw [if_pos p2, if_pos (by omega)] at h2
    omega
theorem swapI_mem {n : Nat} {its : List Nat} {pl : List Int} (h : WF n its pl) {a b : Nat} (ha : a < its.length) (hb : b < its.length) : ∀ x, x < n → (0 ≤ gI (swapP pl (swapI its a b) a b) x ↔ 0 ≤ gI pl x) := (h.swap ha hb).2

/-! order -/
def par (p : Nat) : Nat := (p - 1) / 2
def OK (key : Nat → Int) (its : List Nat) : Prop := ∀ p, 0 < p → p < its.length → ¬ lt key (gN its p) (gN its (par p))
/-- the kids of c and the parent of c are in order -/
def Grand (key : Nat → Int) (its : List Nat) (c : Nat) : Prop := ∀ p, 0 < p → p < its.length → par p = c → 0 < c → ¬ lt key (gN its p) (gN its (par c))
def Up (key : Nat → Int) (its : List Nat) (c : Nat) : Prop := (∀ p, 0 < p → p < its.length → p ≠ c → par p ≠ c → ¬ lt key (gN its p) (gN its (par p))) ∧ Grand key its c
def Down (key : Nat → Int) (its : List Nat) (c : Nat) : Prop := (∀ p, 0 < p → p < its.length → par p ≠ c → ¬ lt key (gN its p) (gN its (par p))) ∧ Grand key its c
theorem par_lt {p : Nat} (h : 0 < p) : par p < p := by unfold par; omega
theorem up_stop {key : Nat → Int} {its : List Nat} {c : Nat} (h : Up key its c) (hs : c = 0 ∨ ¬ lt key (gN its c) (gN its (par c))) : Down key its c := by
  refine ⟨fun p hp hl hq => ?_, h.2⟩
  by_cases e : p = c
  · subst e
    rcases hs with rfl | hs
    · omega
    · exact hs
  · exact h.1 p hp hl e hq
theorem up_step {key : Nat → Int} {its : List Nat} {c : Nat} (h : Up key its c) (hc : 0 < c) (hl : c < its.length) (hlt : lt key (gN its c) (gN its (par c))) : Up key (swapI its c (par c)) (par c) := by
  have hp := par_lt hc
  have gs := swapI_get hl (show par c < its.length by omega)
  refine ⟨fun p h0 h1 h2 h3 => ?_, fun p h0 h1 h2 h3 => ?_⟩
  · rw [swapI_len] at h1
    rw [gs, gs, if_neg h2, if_neg h3]
    have hpc : p ≠ c := fun e => h3 (by rw [e])
    rw [if_neg hpc]
    by_cases e : par p = c
    · rw [if_pos e]; exact h.2 p h0 h1 e hc
    · rw [if_neg e]; exact h.1 p h0 h1 hpc e
  · rw [swapI_len] at h1
    have hpp := par_lt h3
    rw [gs, gs, if_neg (show ¬ par (par c) = par c by omega), if_neg (show ¬ par (par c) = c by omega)]
    have hpn : p ≠ par c := fun e => by have := par_lt h0; rw [h2] at this; omega
    rw [if_neg hpn]
    have hG : ¬ lt key (gN its (par c)) (gN its (par (par c))) := h.1 (par c) h3 (by omega) (by omega) (by omega)
    by_cases e : p = c
    · rw [if_pos e]; exact hG
    · rw [if_neg e]
      have hS : ¬ lt key (gN its p) (gN its (par p)) := h.1 p h0 h1 e (by omega)
      rw [h2] at hS
      exact nlt_trans hS hG
theorem down_stop {key : Nat → Int} {its : List Nat} {c : Nat} (h : Down key its c) (hk : ∀ q, 0 < q → q < its.length → par q = c → ¬ lt key (gN its q) (gN its c)) : OK key its := by
  intro p hp hl
  by_cases e : par p = c
  · rw [e]; exact hk p hp hl e
  · exact h.1 p hp hl e
theorem down_step {key : Nat → Int} {its : List Nat} {c f : Nat} (h : Down key its c) (hf : 0 < f) (hl : f < its.length) (hfc : par f = c) (hlt : lt key (gN its f) (gN its c)) (hk : ∀ q, 0 < q → q < its.length → par q = c → ¬ lt key (gN its q) (gN its f)) :
    Down key (swapI its c f) f := by
  have hp := par_lt hf
  rw [hfc] at hp
  have gs := swapI_get (show c < its.length by omega) hl
  refine ⟨fun p h0 h1 h2 => ?_, fun p h0 h1 h2 h3 => ?_⟩
  · rw [swapI_len] at h1
    rw [gs, gs, if_neg h2]
    by_cases e : par p = c
    · rw [if_pos e]
      by_cases e1 : p = f
      · rw [if_pos e1]; exact lt_asymm hlt
      · rw [if_neg e1, if_neg (fun e2 => by subst e2; have := par_lt h0; omega)]
        exact hk p h0 h1 e
    · rw [if_neg e]
      by_cases e1 : p = f
      · subst e1; exact absurd hfc e
      · rw [if_neg e1]
        by_cases e2 : p = c
        · rw [if_pos e2]
          rw [e2]
          exact h.2 f hf hl hfc (by omega)
        · rw [if_neg e2]; exact h.1 p h0 h1 e
  · rw [swapI_len] at h1
    have hpf := par_lt h0
    rw [h2] at hpf
    rw [gs, gs, hfc, if_neg (by omega), if_neg (show ¬ p = c by omega), if_neg (show ¬ c = f by omega), if_pos rfl]
    have := h.1 p h0 h1 (by omega)
    rw [h2] at this
    exact this
theorem ok_min {key : Nat → Int} {its : List Nat} (h : OK key its) : ∀ p, p < its.length → ¬ lt key (gN its p) (gN its 0) := by
  intro p
  induction p using Nat.strongRecOn with
  | _ p ih =>
    intro hp
    by_cases e : p = 0
    · subst e; exact lt_irr
    · have h0 : 0 < p := by omega
      exact nlt_trans (h p h0 hp) (ih (par p) (par_lt h0) (by have := par_lt h0; omega))
/-- another key for the item at c -/
theorem up_set {k k' : Nat → Int} {n : Nat} {its : List Nat} {pl : List Int} (hw : WF n its pl) (h : OK k its) {c : Nat} (hc : c < its.length) (hk : ∀ x, x ≠ gN its c → k' x = k x) : Up k' its c := by
  have hi : ∀ p, p < its.length → p ≠ c → k' (gN its p) = k (gN its p) := fun p hp hn => hk _ (fun e => hn (hw.inj hp hc e))
  refine ⟨fun p h0 h1 h2 h3 => ?_, fun p h0 h1 h2 h3 => ?_⟩
  · have := par_lt h0
    rw [lt_congr (hi p h1 h2) (hi _ (by omega) h3)]; exact h p h0 h1
  · have a1 := par_lt h0
    have a2 := par_lt h3
    rw [lt_congr (hi p h1 (by omega)) (hi _ (by omega) (by omega))]
    have b1 := h p h0 h1
    rw [h2] at b1
    exact nlt_trans b1 (h c h3 hc)
/-- an item at the end -/
theorem up_app {k k' : Nat → Int} {n : Nat} {its : List Nat} {pl : List Int} (hw : WF n its pl) (h : OK k its) {x : Nat} (hx : x < n) (hn : gI pl x = -1) (hk : ∀ y, y ≠ x → k' y = k y) : Up k' (its ++ [x]) its.length := by
  have hi : ∀ p, p < its.length → k' (gN its p) = k (gN its p) := fun p hp => hk _ (fun e => by have := (hw.at' p hp).2; rw [e] at this; omega)
  refine ⟨fun p h0 h1 h2 h3 => ?_, fun p h0 h1 h2 h3 => ?_⟩
  · simp at h1
    have := par_lt h0
    rw [gN_app, gN_app, if_neg h2, if_neg h3, lt_congr (hi p (by omega)) (hi _ (by omega))]
    exact h p h0 (by omega)
  · simp at h1
    have := par_lt h0
    omega
theorem WF.app {n : Nat} {its : List Nat} {pl : List Int} (hw : WF n its pl) {x : Nat} (hx : x < n) (hn : gI pl x = -1) : WF n (its ++ [x]) (pl.set x (its.length : Int)) ∧ ∀ y, y < n → (0 ≤ gI (pl.set x (its.length : Int)) y ↔ (y = x ∨ 0 ≤ gI pl y)) := by
  have hl := hw.len
  have gp : ∀ y, gI (pl.set x (its.length : Int)) y = if y = x then (its.length : Int) else gI pl y := fun y => gI_set (by omega)
  refine ⟨⟨by simp [hl], fun p hp => ?_, fun y hy => ?_, ?_⟩, fun y hy => ?_⟩
  · simp at hp
    rw [gN_app, gp]
    by_cases e : p = its.length
    · rw [if_pos e, if_pos rfl]; exact ⟨hx, by rw [e]⟩
    · rw [if_neg e]
      have := hw.at' p (by omega)
      refine ⟨this.1, ?_⟩
      rw [if_neg (fun e1 => by rw [e1] at this; omega)]
      exact this.2
  · rw [gp]
    by_cases e : y = x
    · subst e; rw [if_pos rfl]; exact .inr ⟨its.length, by simp, rfl, by rw [gN_app, if_pos rfl]⟩
    · rw [if_neg e]
      rcases hw.off y hy with h1 | ⟨p, hp, h1, h2⟩
      · exact .inl h1
      · exact .inr ⟨p, by simp; omega, h1, by rw [gN_app, if_neg (by omega), h2]⟩
  · have := cnt_set (pl := pl) (x := x) (v := (its.length : Int)) (by omega)
    rw [if_neg (by omega), if_pos (by omega)] at this
    simp; rw [hw.cnt] at this ⊢; omega
  · rw [gp]; split
    · rename_i e; exact ⟨fun _ => .inl e, fun _ => by omega⟩
    · rename_i e; exact ⟨.inr, fun h => by rcases h with h | h; exact absurd h e; exact h⟩
/-- an item goes: the last one takes its place -/
theorem WF.drop {n : Nat} {its : List Nat} {pl : List Int} (hw : WF n its pl) {c m : Nat} (hm : its.length = m + 1) (hc : c < its.length) :
    WF n ((swapI its c m).take m) ((swapP pl (swapI its c m) c m).set (gN its c) (-1)) ∧ ∀ y, y < n → (0 ≤ gI ((swapP pl (swapI its c m) c m).set (gN its c) (-1)) y ↔ (y ≠ gN its c ∧ 0 ≤ gI pl y)) := by
  obtain ⟨h1, h2⟩ := hw.swap hc (show m < its.length by omega)
  have hx := (hw.at' c hc).1
  have ga := swapI_get hc (show m < its.length by omega)
  have em : gN (swapI its c m) m = gN its c := by rw [ga, if_pos rfl]
  generalize hI : swapI its c m = I at *
  generalize hP : swapP pl I c m = Q at *
  have hIl : I.length = m + 1 := by rw [← hI, swapI_len, hm]
  have gp : ∀ y, gI (Q.set (gN its c) (-1)) y = if y = gN its c then -1 else gI Q y := fun y => gI_set (by rw [h1.len]; exact hx)
  refine ⟨⟨by simp [h1.len], fun p hp => ?_, fun y hy => ?_, ?_⟩, fun y hy => ?_⟩
  · simp [hIl] at hp
    rw [gN_take (by omega), gp]
    have := h1.at' p (by omega)
    refine ⟨this.1, ?_⟩
    rw [if_neg (fun e => by have := h1.inj (show p < I.length by omega) (show m < I.length by omega) (by rw [e, em]); omega)]
    exact this.2
  · rw [gp]
    by_cases e : y = gN its c
    · rw [if_pos e]; exact .inl rfl
    · rw [if_neg e]
      rcases h1.off y hy with h3 | ⟨p, hp, h3, h4⟩
      · exact .inl h3
      · have hpm : p ≠ m := fun e1 => e (by rw [← h4, e1, em])
        exact .inr ⟨p, by simp [hIl]; omega, h3, by rw [gN_take (by omega)]; exact h4⟩
  · have := cnt_set (pl := Q) (x := gN its c) (v := -1) (by rw [h1.len]; exact hx)
    rw [if_pos (by rw [← em, (h1.at' m (by omega)).2]; omega), if_neg (by omega)] at this
    have h3 := h1.cnt
    simp [hIl]; omega
  · rw [gp]
    by_cases e : y = gN its c
    · rw [if_pos e]; exact ⟨fun h => by omega, fun h => absurd e h.1⟩
    · rw [if_neg e, h2 y hy]; exact ⟨fun h => ⟨e, h⟩, fun h => h.2⟩
theorem drop_get {its : List Nat} {c m : Nat} (hm : its.length = m + 1) (hc : c < m) : ∀ p, p < m → gN ((swapI its c m).take m) p = if p = c then gN its m else gN its p := by
  intro p hp
  rw [gN_take hp, swapI_get (by omega) (by omega), if_neg (by omega)]
theorem up_drop {k : Nat → Int} {its : List Nat} {c m : Nat} (h : OK k its) (hm : its.length = m + 1) (hc : c < m) : Up k ((swapI its c m).take m) c := by
  have gd := drop_get hm hc
  have hl : ((swapI its c m).take m).length = m := by simp [swapI_len, hm]
  refine ⟨fun p h0 h1 h2 h3 => ?_, fun p h0 h1 h2 h3 => ?_⟩
  · have := par_lt h0
    rw [gd p (by omega), gd _ (by omega), if_neg h2, if_neg h3]; exact h p h0 (by omega)
  · have a1 := par_lt h0
    have a2 := par_lt h3
    rw [gd p (by omega), gd _ (by omega), if_neg (by omega), if_neg (by omega)]
    have b1 := h p h0 (by omega)
    rw [h2] at b1
    exact nlt_trans b1 (h c h3 (by omega))
theorem ok_drop {k : Nat → Int} {its : List Nat} {m : Nat} (h : OK k its) (hm : its.length = m + 1) : OK k ((swapI its m m).take m) := by
  intro p h0 h1
  simp [swapI_len, hm] at h1
  have := par_lt h0
  rw [gN_take (by omega), gN_take (by omega), swapI_get (by omega) (by omega), swapI_get (by omega) (by omega), if_neg (by omega), if_neg (by omega), if_neg (by omega), if_neg (by omega)]
  exact h p h0 (by omega)
theorem ok_key {k k' : Nat → Int} {its : List Nat} (h : OK k its) (e : ∀ p, p < its.length → k' (gN its p) = k (gN its p)) : OK k' its := by
  intro p h0 h1
  have := par_lt h0
  rw [lt_congr (e p h1) (e _ (by omega))]
  exact h p h0 h1
def gB (l : List Bool) (p : Nat) : Bool := l[p]?.getD false
theorem gB_get {l : List Bool} {p : Nat} (h : p < l.length) : l[p]? = some (gB l p) := by unfold gB; simp [h]
theorem gB_set {l : List Bool} {q p : Nat} {x : Bool} (hq : q < l.length) : gB (l.set q x) p = if p = q then x else gB l p := by
  unfold gB; rw [List.getElem?_set]
  by_cases h : q = p
  · subst h; simp [hq]
  · rw [if_neg h, if_neg (fun e => h e.symm)]
end HM
end Go.Proofs.Ytmlpbhankgojpaa
