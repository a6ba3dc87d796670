/-
  The mathematics of a binary tree of items: places, order, and what an exchange of two items keeps. The mathematics of graphs: allowed edges, order, what Check says. Shortest paths as mathematics: ways, distances, first hops, and what a search by turns knows. Shortest paths as mathematics: parents and first hops while a search goes on. The search of shortest paths as mathematics: what its rows hold at every step. Shortest paths as mathematics: distances between all nodes, one more node allowed between at a time. Trees of shortest paths by a table of distances: rows by choice, and a table that certifies itself. Shortest paths as mathematics: nodes on a shortest path to a node, and those that follow. Mathematics of the laws: every reached node has a parent and a first hop; fewer edges, greater distances. Mathematics of the walk along a path: the sum of the costs is the distance, the first router is a first hop. Floyd's table round by round: what it holds, and how large its numbers are. Mathematics of loop-free alternates: first hops where there are no networks, the graph turned round, the nodes that a packet can visit. The alternates as a list: what both All's answer, and what every alternate in it fulfils. The distances of the examples of layer 13: rings of four and of five. The alternates over any table of distances: the same as over the distances where the table is right; an example. A link that is cut: distances in the P-space and the Q-space stay. P-spaces, Q-spaces, tunnel ends: what both sides answer, and the examples. The walk along next hops: what both sides answer. Elements of any table, and the three tests of an alternate on a table.
-/
namespace Go.Proofs.Ytmbogobebllheaa
namespace HM
set_option linter.unusedVariables false
set_option linter.unusedSimpArgs false

/-- leaves the queue earlier -/
def lt (key : Nat → Int) (a b : Nat) : Prop := key a < key b ∨ (key a = key b ∧ a < b)
theorem lt_irr {key : Nat → Int} {a : Nat} : ¬ lt key a a := by unfold lt; omega
theorem lt_asymm {key : Nat → Int} {a b : Nat} (h : lt key a b) : ¬ lt key b a := by unfold lt at *; omega
theorem nlt_trans {key : Nat → Int} {a b c : Nat} (h : ¬ lt key a b) (h' : ¬ lt key b c) : ¬ lt key a c := by unfold lt at *; omega
theorem nlt_of_lt_nlt {key : Nat → Int} {a b c : Nat} (h : ¬ lt key a b) (h' : lt key c b) : ¬ lt key a c := nlt_trans h (lt_asymm h')
theorem lt_congr {k k' : Nat → Int} {a b : Nat} (ha : k' a = k a) (hb : k' b = k b) : lt k' a b ↔ lt k a b := by unfold lt; rw [ha, hb]
instance (key : Nat → Int) (a b : Nat) : Decidable (lt key a b) := by unfold lt; infer_instance

def gN (l : List Nat) (p : Nat) : Nat := l[p]?.getD 0
def gI (l : List Int) (p : Nat) : Int := l[p]?.getD 0
theorem gN_set {l : List Nat} {q x p : Nat} (hq : q < l.length) : gN (l.set q x) p = if p = q then x else gN l p := by
  unfold gN; rw [List.getElem?_set]
  by_cases h : q = p
  · subst h; simp [hq]
  · rw [if_neg h, if_neg (fun e => h e.symm)]
theorem gI_set {l : List Int} {q p : Nat} {x : Int} (hq : q < l.length) : gI (l.set q x) p = if p = q then x else gI l p := by
  unfold gI; rw [List.getElem?_set]
  by_cases h : q = p
  · subst h; simp [hq]
  · rw [if_neg h, if_neg (fun e => h e.symm)]
theorem gN_get {l : List Nat} {p : Nat} (h : p < l.length) : l[p]? = some (gN l p) := by unfold gN; simp [h]
theorem gI_get {l : List Int} {p : Nat} (h : p < l.length) : l[p]? = some (gI l p) := by unfold gI; simp [h]
theorem gN_app {l : List Nat} {x p : Nat} : gN (l ++ [x]) p = if p = l.length then x else gN l p := by
  unfold gN
  by_cases h : p < l.length
  · rw [List.getElem?_append_left h, if_neg (by omega)]
  · rw [List.getElem?_append_right (by omega)]
    by_cases e : p = l.length
    · subst e; simp
    · rw [if_neg e, List.getElem?_eq_none (by simp; omega), List.getElem?_eq_none (by omega)]
theorem gN_take {l : List Nat} {n p : Nat} (h : p < n) : gN (l.take n) p = gN l p := by unfold gN; rw [List.getElem?_take, if_pos h]

def cnt (pl : List Int) : Nat := pl.countP (fun v => decide (0 ≤ v))
theorem cnt_le (pl : List Int) : cnt pl ≤ pl.length := List.countP_le_length
theorem cnt_set {pl : List Int} {x : Nat} {v : Int} (hx : x < pl.length) : cnt (pl.set x v) + (if 0 ≤ gI pl x then 1 else 0) = cnt pl + (if 0 ≤ v then 1 else 0) := by
  unfold cnt gI
  induction pl generalizing x with
  | nil => simp at hx
  | cons a r ih =>
    cases x with
    | zero => simp only [List.set_cons_zero, List.countP_cons, List.getElem?_cons_zero, Option.getD_some, decide_eq_true_eq]; omega
    | succ x =>
      have := ih (x := x) (by simpa using hx)
      simp only [List.set_cons_succ, List.countP_cons, List.getElem?_cons_succ, decide_eq_true_eq] at this ⊢
      omega

/-- items and their places -/
structure WF (n : Nat) (its : List Nat) (pl : List Int) : Prop where
  len : pl.length = n
  at' : ∀ p, p < its.length → gN its p < n ∧ gI pl (gN its p) = p
  off : ∀ x, x < n → gI pl x = -1 ∨ ∃ p : Nat, p < its.length ∧ gI pl x = p ∧ gN its p = x
  cnt : its.length = cnt pl
theorem WF.inj {n : Nat} {its : List Nat} {pl : List Int} (h : WF n its pl) {p q : Nat} (hp : p < its.length) (hq : q < its.length) (e : gN its p = gN its q) : p = q := by
  have h1 := (h.at' p hp).2
  have h2 := (h.at' q hq).2
  rw [e] at h1; omega
theorem WF.le {n : Nat} {its : List Nat} {pl : List Int} (h : WF n its pl) : its.length ≤ n := by rw [h.cnt, ← h.len]; exact cnt_le _
theorem WF.lt_len {n : Nat} {its : List Nat} {pl : List Int} (h : WF n its pl) {x : Nat} (hx : x < n) (h0 : 0 ≤ gI pl x) : ∃ p : Nat, p < its.length ∧ gI pl x = p ∧ gN its p = x := by
  rcases h.off x hx with e | e
  · omega
  · exact e

def swapI (its : List Nat) (a b : Nat) : List Nat := (its.set a (gN its b)).set b (gN its a)
def swapP (pl : List Int) (its' : List Nat) (a b : Nat) : List Int := (pl.set (gN its' a) a).set (gN its' b) b
theorem swapI_len (its : List Nat) (a b : Nat) : (swapI its a b).length = its.length := by simp [swapI]
theorem swapI_get {its : List Nat} {a b : Nat} (ha : a < its.length) (hb : b < its.length) (p : Nat) : gN (swapI its a b) p = if p = b then gN its a else if p = a then gN its b else gN its p := by
  unfold swapI; rw [gN_set (by simpa using hb), gN_set ha]
theorem WF.swap {n : Nat} {its : List Nat} {pl : List Int} (h : WF n its pl) {a b : Nat} (ha : a < its.length) (hb : b < its.length) :
    WF n (swapI its a b) (swapP pl (swapI its a b) a b) ∧ ∀ x, x < n → (0 ≤ gI (swapP pl (swapI its a b) a b) x ↔ 0 ≤ gI pl x) := by
  have ga := swapI_get ha hb
  have ea : gN (swapI its a b) b = gN its a := by rw [ga, if_pos rfl]
  have eb : gN (swapI its a b) a = gN its b := by rw [ga]; by_cases e : a = b; simp [e]; simp [e]
  have hA := h.at' a ha
  have hB := h.at' b hb
  have hl := h.len
  have gp : ∀ x, gI (swapP pl (swapI its a b) a b) x = if x = gN its a then (b : Int) else if x = gN its b then (a : Int) else gI pl x := by
    intro x; unfold swapP; rw [ea, eb, gI_set (by simp; omega), gI_set (by omega)]
  have nn : ∀ x, 0 ≤ gI (swapP pl (swapI its a b) a b) x ↔ 0 ≤ gI pl x := by
    intro x; rw [gp]
    split
    · rename_i e; subst e; omega
    · split
      · rename_i e; subst e; omega
      · exact Iff.rfl
  refine ⟨⟨by simp [swapP, hl], fun p hp => ?_, fun x hx => ?_, ?_⟩, fun x hx => nn x⟩
  · rw [swapI_len] at hp
    have hP := h.at' p hp
    rw [ga, gp]
    by_cases e1 : p = b
    · subst e1; rw [if_pos rfl]; exact ⟨hA.1, by rw [if_pos rfl]⟩
    · rw [if_neg e1]
      by_cases e2 : p = a
      · subst e2
        rw [if_pos rfl]
        refine ⟨hB.1, ?_⟩
        rw [if_neg (fun e => e1 (h.inj hp hb e.symm)), if_pos rfl]
      · rw [if_neg e2]
        refine ⟨hP.1, ?_⟩
        rw [if_neg (fun e => e2 (h.inj hp ha e)), if_neg (fun e => e1 (h.inj hp hb e))]
        exact hP.2
  · rw [swapI_len]
    rcases h.off x hx with e | ⟨p, hp, h1, h2⟩
    · left; rw [gp, if_neg (fun e' => by subst e'; omega), if_neg (fun e' => by subst e'; omega)]; exact e
    · right
      by_cases e1 : p = a
      · subst e1; refine ⟨b, hb, ?_, by rw [ea, h2]⟩; rw [gp, if_pos h2.symm]
      · by_cases e2 : p = b
        · subst e2; refine ⟨a, ha, ?_, by rw [eb, h2]⟩
          rw [gp, if_neg (fun e => e1 (h.inj hp ha (by rw [h2, e]))), if_pos h2.symm]
        · refine ⟨p, hp, ?_, by rw [ga, if_neg e2, if_neg e1, h2]⟩
          rw [gp, if_neg (fun e => e1 (h.inj hp ha (by rw [h2, e]))), if_neg (fun e => e2 (h.inj hp hb (by rw [h2, e])))]
          exact h1
  · rw [swapI_len, h.cnt]
    have h1 := cnt_set (pl := pl) (x := gN (swapI its a b) a) (v := (a : Int)) (by rw [eb]; omega)
    have h2 := cnt_set (pl := pl.set (gN (swapI its a b) a) (a : Int)) (x := gN (swapI its a b) b) (v := (b : Int)) (by simp; rw [ea]; omega)
    rw [gI_set (by rw [eb]; omega)] at h2
    unfold swapP
    have p1 : 0 ≤ gI pl (gN (swapI its a b) a) := by rw [eb]; omega
    have p2 : 0 ≤ (if gN (swapI its a b) b = gN (swapI its a b) a then (a : Int) else gI pl (gN (swapI its a b) b)) := by
      split
      · omega
      · rw [ea]; omega
    rw [if_pos p1, if_pos (by omega)] at h1
    rw [if_pos p2, if_pos (by omega)] at h2
    omega
/-! order -/
def par (p : Nat) : Nat := (p - 1) / 2
def OK (key : Nat → Int) (its : List Nat) : Prop := ∀ p, 0 < p → p < its.length → ¬ lt key (gN its p) (gN its (par p))
/-- the kids of c and the parent of c are in order -/
def Grand (key : Nat → Int) (its : List Nat) (c : Nat) : Prop := ∀ p, 0 < p → p < its.length → par p = c → 0 < c → ¬ lt key (gN its p) (gN its (par c))
def Up (key : Nat → Int) (its : List Nat) (c : Nat) : Prop := (∀ p, 0 < p → p < its.length → p ≠ c → par p ≠ c → ¬ lt key (gN its p) (gN its (par p))) ∧ Grand key its c
def Down (key : Nat → Int) (its : List Nat) (c : Nat) : Prop := (∀ p, 0 < p → p < its.length → par p ≠ c → ¬ lt key (gN its p) (gN its (par p))) ∧ Grand key its c
theorem par_lt {p : Nat} (h : 0 < p) : par p < p := by unfold par; omega
theorem up_stop {key : Nat → Int} {its : List Nat} {c : Nat} (h : Up key its c) (hs : c = 0 ∨ ¬ lt key (gN its c) (gN its (par c))) : Down key its c := by
  refine ⟨fun p hp hl hq => ?_, h.2⟩
  by_cases e : p = c
  · subst e
    rcases hs with rfl | hs
    · omega
    · exact hs
  · exact h.1 p hp hl e hq
theorem up_step {key : Nat → Int} {its : List Nat} {c : Nat} (h : Up key its c) (hc : 0 < c) (hl : c < its.length) (hlt : lt key (gN its c) (gN its (par c))) : Up key (swapI its c (par c)) (par c) := by
  have hp := par_lt hc
  have gs := swapI_get hl (show par c < its.length by omega)
  refine ⟨fun p h0 h1 h2 h3 => ?_, fun p h0 h1 h2 h3 => ?_⟩
  · rw [swapI_len] at h1
    rw [gs, gs, if_neg h2, if_neg h3]
    have hpc : p ≠ c := fun e => h3 (by rw [e])
    rw [if_neg hpc]
    by_cases e : par p = c
    · rw [if_pos e]; exact h.2 p h0 h1 e hc
    · rw [if_neg e]; exact h.1 p h0 h1 hpc e
  · rw [swapI_len] at h1
    have hpp := par_lt h3
    rw [gs, gs, if_neg (show ¬ par (par c) = par c by omega), if_neg (show ¬ par (par c) = c by omega)]
    have hpn : p ≠ par c := fun e => by have := par_lt h0; rw [h2] at this; omega
    rw [if_neg hpn]
    have hG : ¬ lt key (gN its (par c)) (gN its (par (par c))) := h.1 (par c) h3 (by omega) (by omega) (by omega)
    by_cases e : p = c
    · rw [if_pos e]; exact hG
    · rw [if_neg e]
      have hS : ¬ lt key (gN its p) (gN its (par p)) := h.1 p h0 h1 e (by omega)
      rw [h2] at hS
      exact nlt_trans hS hG
theorem down_stop {key : Nat → Int} {its : List Nat} {c : Nat} (h : Down key its c) (hk : ∀ q, 0 < q → q < its.length → par q = c → ¬ lt key (gN its q) (gN its c)) : OK key its := by
  intro p hp hl
  by_cases e : par p = c
  · rw [e]; exact hk p hp hl e
  · exact h.1 p hp hl e
theorem down_step {key : Nat → Int} {its : List Nat} {c f : Nat} (h : Down key its c) (hf : 0 < f) (hl : f < its.length) (hfc : par f = c) (hlt : lt key (gN its f) (gN its c)) (hk : ∀ q, 0 < q → q < its.length → par q = c → ¬ lt key (gN its q) (gN its f)) :
    Down key (swapI its c f) f := by
  have hp := par_lt hf
  rw [hfc] at hp
  have gs := swapI_get (show c < its.length by omega) hl
  refine ⟨fun p h0 h1 h2 => ?_, fun p h0 h1 h2 h3 => ?_⟩
  · rw [swapI_len] at h1
    rw [gs, gs, if_neg h2]
    by_cases e : par p = c
    · rw [if_pos e]
      by_cases e1 : p = f
      · rw [if_pos e1]; exact lt_asymm hlt
      · rw [if_neg e1, if_neg (fun e2 => by subst e2; have := par_lt h0; omega)]
        exact hk p h0 h1 e
    · rw [if_neg e]
      by_cases e1 : p = f
      · subst e1; exact absurd hfc e
      · rw [if_neg e1]
        by_cases e2 : p = c
        · rw [if_pos e2]
          rw [e2]
          exact h.2 f hf hl hfc (by omega)
        · rw [if_neg e2]; exact h.1 p h0 h1 e
  · rw [swapI_len] at h1
    have hpf := par_lt h0
    rw [h2] at hpf
    rw [gs, gs, hfc, if_neg (by omega), if_neg (show ¬ p = c by omega), if_neg (show ¬ c = f by omega), if_pos rfl]
    have := h.1 p h0 h1 (by omega)
    rw [h2] at this
    exact this
theorem ok_min {key : Nat → Int} {its : List Nat} (h : OK key its) : ∀ p, p < its.length → ¬ lt key (gN its p) (gN its 0) := by
  intro p
  induction p using Nat.strongRecOn with
  | _ p ih =>
    intro hp
    by_cases e : p = 0
    · subst e; exact lt_irr
    · have h0 : 0 < p := by omega
      exact nlt_trans (h p h0 hp) (ih (par p) (par_lt h0) (by have := par_lt h0; omega))
/-- another key for the item at c -/
theorem up_set {k k' : Nat → Int} {n : Nat} {its : List Nat} {pl : List Int} (hw : WF n its pl) (h : OK k its) {c : Nat} (hc : c < its.length) (hk : ∀ x, x ≠ gN its c → k' x = k x) : Up k' its c := by
  have hi : ∀ p, p < its.length → p ≠ c → k' (gN its p) = k (gN its p) := fun p hp hn => hk _ (fun e => hn (hw.inj hp hc e))
  refine ⟨fun p h0 h1 h2 h3 => ?_, fun p h0 h1 h2 h3 => ?_⟩
  · have := par_lt h0
    rw [lt_congr (hi p h1 h2) (hi _ (by omega) h3)]; exact h p h0 h1
  · have a1 := par_lt h0
    have a2 := par_lt h3
    rw [lt_congr (hi p h1 (by omega)) (hi _ (by omega) (by omega))]
    have b1 := h p h0 h1
    rw [h2] at b1
    exact nlt_trans b1 (h c h3 hc)
/-- an item at the end -/
theorem up_app {k k' : Nat → Int} {n : Nat} {its : List Nat} {pl : List Int} (hw : WF n its pl) (h : OK k its) {x : Nat} (hx : x < n) (hn : gI pl x = -1) (hk : ∀ y, y ≠ x → k' y = k y) : Up k' (its ++ [x]) its.length := by
  have hi : ∀ p, p < its.length → k' (gN its p) = k (gN its p) := fun p hp => hk _ (fun e => by have := (hw.at' p hp).2; rw [e] at this; omega)
  refine ⟨fun p h0 h1 h2 h3 => ?_, fun p h0 h1 h2 h3 => ?_⟩
  · simp at h1
    have := par_lt h0
    rw [gN_app, gN_app, if_neg h2, if_neg h3, lt_congr (hi p (by omega)) (hi _ (by omega))]
    exact h p h0 (by omega)
  · simp at h1
    have := par_lt h0
    omega
theorem WF.app {n : Nat} {its : List Nat} {pl : List Int} (hw : WF n its pl) {x : Nat} (hx : x < n) (hn : gI pl x = -1) : WF n (its ++ [x]) (pl.set x (its.length : Int)) ∧ ∀ y, y < n → (0 ≤ gI (pl.set x (its.length : Int)) y ↔ (y = x ∨ 0 ≤ gI pl y)) := by
  have hl := hw.len
  have gp : ∀ y, gI (pl.set x (its.length : Int)) y = if y = x then (its.length : Int) else gI pl y := fun y => gI_set (by omega)
  refine ⟨⟨by simp [hl], fun p hp => ?_, fun y hy => ?_, ?_⟩, fun y hy => ?_⟩
  · simp at hp
    rw [gN_app, gp]
    by_cases e : p = its.length
    · rw [if_pos e, if_pos rfl]; exact ⟨hx, by rw [e]⟩
    · rw [if_neg e]
      have := hw.at' p (by omega)
      refine ⟨this.1, ?_⟩
      rw [if_neg (fun e1 => by rw [e1] at this; omega)]
      exact this.2
  · rw [gp]
    by_cases e : y = x
    · subst e; rw [if_pos rfl]; exact .inr ⟨its.length, by simp, rfl, by rw [gN_app, if_pos rfl]⟩
    · rw [if_neg e]
      rcases hw.off y hy with h1 | ⟨p, hp, h1, h2⟩
      · exact .inl h1
      · exact .inr ⟨p, by simp; omega, h1, by rw [gN_app, if_neg (by omega), h2]⟩
  · have := cnt_set (pl := pl) (x := x) (v := (its.length : Int)) (by omega)
    rw [if_neg (by omega), if_pos (by omega)] at this
    simp; rw [hw.cnt] at this ⊢; omega
  · rw [gp]; split
    · rename_i e; exact ⟨fun _ => .inl e, fun _ => by omega⟩
    · rename_i e; exact ⟨.inr, fun h => by rcases h with h | h; exact absurd h e; exact h⟩
/-- an item goes: the last one takes its place -/
theorem WF.drop {n : Nat} {its : List Nat} {pl : List Int} (hw : WF n its pl) {c m : Nat} (hm : its.length = m + 1) (hc : c < its.length) :
    WF n ((swapI its c m).take m) ((swapP pl (swapI its c m) c m).set (gN its c) (-1)) ∧ ∀ y, y < n → (0 ≤ gI ((swapP pl (swapI its c m) c m).set (gN its c) (-1)) y ↔ (y ≠ gN its c ∧ 0 ≤ gI pl y)) := by
  obtain ⟨h1, h2⟩ := hw.swap hc (show m < its.length by omega)
  have hx := (hw.at' c hc).1
  have ga := swapI_get hc (show m < its.length by omega)
  have em : gN (swapI its c m) m = gN its c := by rw [ga, if_pos rfl]
  generalize hI : swapI its c m = I at *
  generalize hP : swapP pl I c m = Q at *
  have hIl : I.length = m + 1 := by rw [← hI, swapI_len, hm]
  have gp : ∀ y, gI (Q.set (gN its c) (-1)) y = if y = gN its c then -1 else gI Q y := fun y => gI_set (by rw [h1.len]; exact hx)
  refine ⟨⟨by simp [h1.len], fun p hp => ?_, fun y hy => ?_, ?_⟩, fun y hy => ?_⟩
  · simp [hIl] at hp
    rw [gN_take (by omega), gp]
    have := h1.at' p (by omega)
    refine ⟨this.1, ?_⟩
    rw [if_neg (fun e => by have := h1.inj (show p < I.length by omega) (show m < I.length by omega) (by rw [e, em]); omega)]
    exact this.2
  · rw [gp]
    by_cases e : y = gN its c
    · rw [if_pos e]; exact .inl rfl
    · rw [if_neg e]
      rcases h1.off y hy with h3 | ⟨p, hp, h3, h4⟩
      · exact .inl h3
      · have hpm : p ≠ m := fun e1 => e (by rw [← h4, e1, em])
        exact .inr ⟨p, by simp [hIl]; omega, h3, by rw [gN_take (by omega)]; exact h4⟩
  · have := cnt_set (pl := Q) (x := gN its c) (v := -1) (by rw [h1.len]; exact hx)
    rw [if_pos (by rw [← em, (h1.at' m (by omega)).2]; omega), if_neg (by omega)] at this
    have h3 := h1.cnt
    simp [hIl]; omega
  · rw [gp]
    by_cases e : y = gN its c
    · rw [if_pos e]; exact ⟨fun h => by omega, fun h => absurd e h.1⟩
    · rw [if_neg e, h2 y hy]; exact ⟨fun h => ⟨e, h⟩, fun h => h.2⟩
theorem drop_get {its : List Nat} {c m : Nat} (hm : its.length = m + 1) (hc : c < m) : ∀ p, p < m → gN ((swapI its c m).take m) p = if p = c then gN its m else gN its p := by
  intro p hp
  rw [gN_take hp, swapI_get (by omega) (by omega), if_neg (by omega)]
theorem up_drop {k : Nat → Int} {its : List Nat} {c m : Nat} (h : OK k its) (hm : its.length = m + 1) (hc : c < m) : Up k ((swapI its c m).take m) c := by
  have gd := drop_get hm hc
  have hl : ((swapI its c m).take m).length = m := by simp [swapI_len, hm]
  refine ⟨fun p h0 h1 h2 h3 => ?_, fun p h0 h1 h2 h3 => ?_⟩
  · have := par_lt h0
    rw [gd p (by omega), gd _ (by omega), if_neg h2, if_neg h3]; exact h p h0 (by omega)
  · have a1 := par_lt h0
    have a2 := par_lt h3
    rw [gd p (by omega), gd _ (by omega), if_neg (by omega), if_neg (by omega)]
    have b1 := h p h0 (by omega)
    rw [h2] at b1
    exact nlt_trans b1 (h c h3 (by omega))
theorem ok_drop {k : Nat → Int} {its : List Nat} {m : Nat} (h : OK k its) (hm : its.length = m + 1) : OK k ((swapI its m m).take m) := by
  intro p h0 h1
  simp [swapI_len, hm] at h1
  have := par_lt h0
  rw [gN_take (by omega), gN_take (by omega), swapI_get (by omega) (by omega), swapI_get (by omega) (by omega), if_neg (by omega), if_neg (by omega), if_neg (by omega), if_neg (by omega)]
  exact h p h0 (by omega)
def gB (l : List Bool) (p : Nat) : Bool := l[p]?.getD false
theorem gB_get {l : List Bool} {p : Nat} (h : p < l.length) : l[p]? = some (gB l p) := by unfold gB; simp [h]
theorem gB_set {l : List Bool} {q p : Nat} {x : Bool} (hq : q < l.length) : gB (l.set q x) p = if p = q then x else gB l p := by
  unfold gB; rw [List.getElem?_set]
  by_cases h : q = p
  · subst h; simp [hq]
  · rw [if_neg h, if_neg (fun e => h e.symm)]
end HM
end Go.Proofs.Ytmbogobebllheaa
namespace Go.Proofs.Ytmbogobebllheaa
namespace GM
set_option linter.unusedVariables false
set_option linter.unusedSimpArgs false

abbrev E := Int × Int × Int
def isN (R N x : Int) : Bool := decide (0 ≤ x ∧ x < R + N)
/-- may it cost that -/
def costOK (R : Int) (e : E) : Bool := if R ≤ e.1 then decide (e.2.2 = 0) else decide (1 ≤ e.2.2 ∧ e.2.2 ≤ 65535)
/-- the error of an edge by itself -/
def alw (R N : Int) (e : E) : Int :=
  if isN R N e.1 = true ∧ isN R N e.2.1 = true then
    if e.1 = e.2.1 ∨ (R ≤ e.1 ∧ R ≤ e.2.1) ∨ costOK R e = false then 1 else 0
  else 5
/-- by From, then by To -/
def bef (a b : E) : Bool := decide (a.1 < b.1 ∨ a.1 = b.1 ∧ a.2.1 < b.2.1)
def ordC (a b : E) : Int := if a.1 < b.1 then -1 else if b.1 < a.1 then 1 else if a.2.1 < b.2.1 then -1 else if b.2.1 < a.2.1 then 1 else 0
theorem bef_iff {a b : E} : bef a b = true ↔ a.1 < b.1 ∨ a.1 = b.1 ∧ a.2.1 < b.2.1 := by unfold bef; simp
theorem ordC_neg {a b : E} : ordC a b < 0 ↔ bef a b = true := by rw [bef_iff]; unfold ordC; split <;> (try split) <;> (try split) <;> (try split) <;> omega
theorem ordC_nonneg {a b : E} : 0 ≤ ordC a b ↔ bef a b = false := by
  have := ordC_neg (a := a) (b := b)
  cases h : bef a b
  · rw [h] at this; simp at this; simp; omega
  · rw [h] at this; simp at this; simp; omega
/-- in order behind prev -/
def pe (prev : Option E) (e : E) : Bool := match prev with | some p => bef p e | none => true
/-- the first error behind prev -/
def scan (R N : Int) : Option E → List E → Int
  | _, [] => 0
  | prev, e :: r => if alw R N e ≠ 0 then alw R N e else if pe prev e = false then 16 else scan R N (some e) r
def chk (R N : Int) (l : List E) : Int := if R < 0 ∨ N < 0 then 5 else if 128 < R + N ∨ 1024 < l.length then 4 else scan R N none l
def prevO (l : List E) : Nat → Option E
  | 0 => none
  | k + 1 => l[k]?
theorem scan_drop {R N : Int} {l : List E} {k : Nat} {e : E} (h : l[k]? = some e) : scan R N (prevO l k) (l.drop k) = if alw R N e ≠ 0 then alw R N e else if pe (prevO l k) e = false then 16 else scan R N (prevO l (k + 1)) (l.drop (k + 1)) := by
  obtain ⟨hk, he⟩ := List.getElem?_eq_some_iff.1 h
  have e2 : l.drop k = e :: l.drop (k + 1) := by rw [← he]; exact List.drop_eq_getElem_cons hk
  rw [e2, show prevO l (k + 1) = some e from h]
  rfl
theorem scan_end {R N : Int} {l : List E} : scan R N (prevO l l.length) (l.drop l.length) = 0 := by rw [List.drop_length]; cases prevO l l.length <;> rfl
/-- a valid graph -/
structure Valid (R N : Int) (l : List E) : Prop where
  r : 0 ≤ R
  n : 0 ≤ N
  s : R + N ≤ 128
  len : l.length ≤ 1024
  al : ∀ e ∈ l, alw R N e = 0
  asc : l.Pairwise (fun a b => bef a b = true)
theorem bef_trans {a b c : E} (h : bef a b = true) (k : bef b c = true) : bef a c = true := by rw [bef_iff] at *; omega
theorem scan_iff {R N : Int} : ∀ {l : List E} {prev : Option E}, scan R N prev l = 0 ↔ (∀ e ∈ l, alw R N e = 0) ∧ l.Pairwise (fun a b => bef a b = true) ∧ ∀ p, prev = some p → ∀ e ∈ l, bef p e = true
  | [], prev => by simp [scan]
  | e :: r, prev => by
    have ih := scan_iff (R := R) (N := N) (l := r) (prev := some e)
    unfold scan
    by_cases h : alw R N e ≠ 0
    · rw [if_pos h]
      constructor
      · intro h'; exact absurd h' h
      · intro h'; exact absurd (h'.1 e (by simp)) h
    · rw [if_neg h]
      have h0 : alw R N e = 0 := by simpa using h
      cases prev with
      | none =>
        rw [if_neg (show ¬ pe none e = false by simp [pe]), ih]
        constructor
        · rintro ⟨a, b, c⟩
          exact ⟨fun x hx => (List.mem_cons.1 hx).elim (fun e1 => e1 ▸ h0) (a x), List.pairwise_cons.2 ⟨fun x hx => c e rfl x hx, b⟩, fun p hp => by cases hp⟩
        · rintro ⟨a, b, c⟩
          obtain ⟨b1, b2⟩ := List.pairwise_cons.1 b
          exact ⟨fun x hx => a x (by simp [hx]), b2, fun p hp x hx => by cases hp; exact b1 x hx⟩
      | some p =>
        cases hb : bef p e
        · rw [if_pos (show pe (some p) e = false from hb)]
          constructor
          · intro h'; exact absurd h' (by decide)
          · rintro ⟨_, _, c⟩
            have := c p rfl e (by simp)
            rw [hb] at this; cases this
        · rw [if_neg (show ¬ pe (some p) e = false by show ¬ bef p e = false; rw [hb]; decide), ih]
          constructor
          · rintro ⟨a, b, c⟩
            refine ⟨fun x hx => (List.mem_cons.1 hx).elim (fun e1 => e1 ▸ h0) (a x), List.pairwise_cons.2 ⟨fun x hx => c e rfl x hx, b⟩, fun q hq x hx => ?_⟩
            cases hq
            rcases List.mem_cons.1 hx with rfl | hx
            · exact hb
            · exact bef_trans hb (c e rfl x hx)
          · rintro ⟨a, b, c⟩
            obtain ⟨b1, b2⟩ := List.pairwise_cons.1 b
            exact ⟨fun x hx => a x (by simp [hx]), b2, fun q hq x hx => by cases hq; exact b1 x hx⟩
theorem chk_iff {R N : Int} {l : List E} : chk R N l = 0 ↔ Valid R N l := by
  unfold chk
  constructor
  · intro h
    split at h
    · omega
    · split at h
      · omega
      · have := scan_iff.1 h
        exact ⟨by omega, by omega, by omega, by omega, this.1, this.2.1⟩
  · rintro ⟨a, b, c, d, e, f⟩
    rw [if_neg (by omega), if_neg (by omega)]
    exact scan_iff.2 ⟨e, f, fun p hp => by cases hp⟩
theorem alw_cases {R N : Int} {e : E} : alw R N e = 0 ↔ (0 ≤ e.1 ∧ e.1 < R + N) ∧ (0 ≤ e.2.1 ∧ e.2.1 < R + N) ∧ e.1 ≠ e.2.1 ∧ ¬ (R ≤ e.1 ∧ R ≤ e.2.1) ∧ costOK R e = true := by
  unfold alw isN
  simp only [decide_eq_true_eq]
  constructor
  · intro h
    split at h
    · split at h
      · omega
      · rename_i h1 h2
        refine ⟨h1.1, h1.2, fun e1 => h2 (.inl e1), fun e1 => h2 (.inr (.inl e1)), ?_⟩
        cases hc : costOK R e
        · exact absurd (.inr (.inr hc)) h2
        · rfl
    · omega
  · rintro ⟨a, b, c, d, f⟩
    rw [if_pos ⟨a, b⟩, if_neg]
    rintro (h | h | h)
    · exact c h
    · exact d h
    · rw [f] at h; cases h
end GM
end Go.Proofs.Ytmbogobebllheaa
namespace Go.Proofs.Ytmbogobebllheaa.SP
open GM Classical
set_option linter.unusedVariables false
set_option linter.unusedSimpArgs false

/-- a way from s to a node, and its cost -/
inductive W (l : List E) (s : Int) : Int → Int → Prop
  | nil : W l s s 0
  | step {u v c d : Int} (h : W l s u d) (he : (u, v, c) ∈ l) : W l s v (d + c)
theorem edge {R N : Int} {l : List E} (hv : Valid R N l) {u v c : Int} (he : (u, v, c) ∈ l) : 0 ≤ u ∧ u < R + N ∧ 0 ≤ v ∧ v < R + N ∧ u ≠ v ∧ 0 ≤ c ∧ c ≤ 65535 ∧ (u < R → 1 ≤ c) ∧ (R ≤ u → c = 0 ∧ v < R) := by
  have h := alw_cases.1 (hv.al _ he)
  obtain ⟨h1, h2, h3, h4, h5⟩ := h
  dsimp only at h1 h2 h3 h4
  unfold costOK at h5
  dsimp only at h5
  by_cases hR : R ≤ u
  · rw [if_pos hR] at h5
    have := of_decide_eq_true h5
    exact ⟨h1.1, h1.2, h2.1, h2.2, h3, by omega, by omega, (fun _ => by omega), fun _ => ⟨this, by omega⟩⟩
  · rw [if_neg hR] at h5
    have := of_decide_eq_true h5
    exact ⟨h1.1, h1.2, h2.1, h2.2, h3, by omega, by omega, (fun _ => by omega), fun h => absurd h hR⟩
section
variable {R N : Int} {l : List E} (hv : Valid R N l)
include hv
theorem W.nonneg {s v d : Int} (h : W l s v d) : 0 ≤ d := by
  induction h with
  | nil => omega
  | step h he ih => have := edge hv he; omega
omit hv in
theorem W.trans {s u v d e : Int} (h : W l s u d) (g : W l u v e) : W l s v (d + e) := by
  induction g with
  | nil => rw [Int.add_zero]; exact h
  | step g he ih => rw [← Int.add_assoc]; exact ih.step he
theorem W.node {s v d : Int} (hs : 0 ≤ s ∧ s < R + N) (h : W l s v d) : 0 ≤ v ∧ v < R + N := by
  cases h with
  | nil => exact hs
  | step h he => have := edge hv he; omega
end
/-- the distance -/
def IsT (l : List E) (s v d : Int) : Prop := W l s v d ∧ ∀ e, W l s v e → d ≤ e
noncomputable def T (l : List E) (s v : Int) : Int := if h : ∃ d, IsT l s v d then Classical.choose h else -1
theorem IsT.unique {l : List E} {s v d e : Int} (h : IsT l s v d) (g : IsT l s v e) : d = e := Int.le_antisymm (h.2 e g.1) (g.2 d h.1)
theorem T_of {l : List E} {s v d : Int} (h : IsT l s v d) : T l s v = d := by
  unfold T
  rw [dif_pos ⟨d, h⟩]
  exact (Classical.choose_spec (⟨d, h⟩ : ∃ d, IsT l s v d)).unique h
section
variable {R N : Int} {l : List E} (hv : Valid R N l)
include hv
theorem ex_min {s v : Int} (h : ∃ d, W l s v d) : ∃ d, IsT l s v d := by
  have key : ∀ n : Nat, ∀ d, W l s v d → d.toNat ≤ n → ∃ e, IsT l s v e := by
    intro n
    induction n with
    | zero =>
      intro d hd hn
      have := hd.nonneg hv
      exact ⟨d, hd, fun e he => by have := he.nonneg hv; omega⟩
    | succ n ih =>
      intro d hd hn
      by_cases hm : ∃ e, W l s v e ∧ e < d
      · obtain ⟨e, he, hlt⟩ := hm
        have := he.nonneg hv
        exact ih e he (by omega)
      · exact ⟨d, hd, fun e he => Int.not_lt.1 fun hlt => hm ⟨e, he, hlt⟩⟩
  obtain ⟨d, hd⟩ := h
  exact key _ d hd (Nat.le_refl _)
theorem T_cases (s v : Int) : (T l s v = -1 ∧ ¬ ∃ d, W l s v d) ∨ (0 ≤ T l s v ∧ IsT l s v (T l s v)) := by
  by_cases h : ∃ d, W l s v d
  · obtain ⟨d, hd⟩ := ex_min hv h
    rw [T_of hd]
    exact .inr ⟨hd.1.nonneg hv, hd⟩
  · refine .inl ⟨?_, h⟩
    unfold T
    rw [dif_neg]
    rintro ⟨d, hd⟩
    exact h ⟨d, hd.1⟩
theorem T_way {s v : Int} (h : 0 ≤ T l s v) : IsT l s v (T l s v) := by
  rcases T_cases hv s v with ⟨h1, _⟩ | h1
  · omega
  · exact h1.2
theorem T_le {s v d : Int} (h : W l s v d) : 0 ≤ T l s v ∧ T l s v ≤ d := by
  rcases T_cases hv s v with ⟨_, h1⟩ | h1
  · exact absurd ⟨d, h⟩ h1
  · exact ⟨h1.1, h1.2.2 d h⟩
theorem T_self (s : Int) : T l s s = 0 := by
  have := T_le hv (W.nil (l := l) (s := s))
  omega
theorem T_edge {s u v c : Int} (h : 0 ≤ T l s u) (he : (u, v, c) ∈ l) : 0 ≤ T l s v ∧ T l s v ≤ T l s u + c := T_le hv ((T_way hv h).1.step he)
theorem T_no {s v : Int} (h : T l s v < 0) : T l s v = -1 ∧ ∀ d, ¬ W l s v d := by
  rcases T_cases hv s v with ⟨h1, h2⟩ | h1
  · exact ⟨h1, fun d hd => h2 ⟨d, hd⟩⟩
  · omega
theorem T_tri {s u v : Int} (h1 : 0 ≤ T l s u) (h2 : 0 ≤ T l u v) : 0 ≤ T l s v ∧ T l s v ≤ T l s u + T l u v := T_le hv ((T_way hv h1).1.trans (T_way hv h2).1)
end
/-- the turn of a node at a distance -/
def tr (R v d : Int) : Int := if v < R then 2 * d + 1 else 2 * d
theorem tr_mono {R v d e : Int} (h : d ≤ e) : tr R v d ≤ tr R v e := by unfold tr; split <;> omega
theorem tr_lt {R v d e : Int} : tr R v d < tr R v e ↔ d < e := by unfold tr; split <;> omega
theorem tr_dist {R x y d e : Int} (h : tr R x d ≤ tr R y e) : d ≤ e := by unfold tr at h; split at h <;> split at h <;> omega
theorem tr_edge {R N : Int} {l : List E} (hv : Valid R N l) {u v c : Int} (he : (u, v, c) ∈ l) (d : Int) : tr R u d < tr R v (d + c) := by
  obtain ⟨_, _, _, _, _, h1, _, h2, h3⟩ := edge hv he
  unfold tr
  by_cases hu : u < R
  · have := h2 hu
    rw [if_pos hu]; split <;> omega
  · have := h3 (by omega)
    rw [if_neg hu, if_pos this.2]; omega
theorem tr_way {R N : Int} {l : List E} (hv : Valid R N l) {y v e : Int} (h : W l y v e) (d : Int) : tr R y d ≤ tr R v (d + e) := by
  induction h with
  | nil => rw [Int.add_zero]; exact Int.le_refl _
  | step h he ih =>
    rename_i u v c e
    have := tr_edge hv he (d + e); rw [Int.add_assoc] at this; exact Int.le_trans ih (Int.le_of_lt this)
/-- where a way leaves a set -/
theorem leave {l : List E} {s v d : Int} {S : Int → Prop} (hs : S s) (h : W l s v d) : S v ∨ ∃ u y c d1 d2, S u ∧ ¬ S y ∧ (u, y, c) ∈ l ∧ W l s u d1 ∧ W l y v d2 ∧ d = d1 + c + d2 := by
  induction h with
  | nil => exact .inl hs
  | step h he ih =>
    rename_i u v c d
    rcases ih with ih | ⟨u1, y, c1, d1, d2, h1, h2, h3, h4, h5, h6⟩
    · by_cases hS : S v
      · exact .inl hS
      · exact .inr ⟨u, v, c, d, 0, ih, hS, he, h, W.nil, by omega⟩
    · exact .inr ⟨u1, y, c1, d1, d2 + c, h1, h2, h3, h4, h5.step he, by omega⟩
/-- what a search knows: settled nodes, edges that were followed, distances -/
structure Inv (R N : Int) (l : List E) (s : Int) (S : Int → Prop) (X : E → Prop) (D : Int → Int) : Prop where
  root : S s ∧ D s = 0
  best : ∀ v, 0 ≤ v → v < R + N → v ≠ s → (D v = -1 ∧ ∀ e, X e → e.2.1 ≠ v) ∨ ((∃ e, X e ∧ e.2.1 = v ∧ T l s e.1 + e.2.2 = D v) ∧ ∀ e, X e → e.2.1 = v → D v ≤ T l s e.1 + e.2.2)
  sub : ∀ e, X e → e ∈ l ∧ S e.1
  set : ∀ v, S v → (0 ≤ v ∧ v < R + N) ∧ D v = T l s v ∧ 0 ≤ T l s v
  far : ∀ v y, S v → 0 ≤ y → y < R + N → ¬ S y → 0 ≤ D y → tr R v (T l s v) ≤ tr R y (D y)
def Full (l : List E) (S : Int → Prop) (X : E → Prop) : Prop := ∀ e, e ∈ l → S e.1 → X e
section
variable {R N : Int} {l : List E} (hv : Valid R N l) {s : Int} {S : Int → Prop} {X : E → Prop} {D : Int → Int}
include hv
theorem Inv.way (h : Inv R N l s S X D) {v : Int} (hn : 0 ≤ v ∧ v < R + N) (hd : 0 ≤ D v) : W l s v (D v) := by
  by_cases e : v = s
  · subst e; rw [h.root.2]; exact W.nil
  · rcases h.best v hn.1 hn.2 e with ⟨h1, _⟩ | ⟨⟨x, h1, h2, h3⟩, _⟩
    · omega
    · obtain ⟨h4, h5⟩ := h.sub x h1
      have h6 := (T_way hv (h.set _ h5).2.2).1
      rw [← h3]
      subst h2
      exact h6.step (by rcases x with ⟨a, b, c⟩; exact h4)
theorem Inv.ge (h : Inv R N l s S X D) {v : Int} (hn : 0 ≤ v ∧ v < R + N) (hd : 0 ≤ D v) : 0 ≤ T l s v ∧ T l s v ≤ D v := T_le hv (h.way hv hn hd)
theorem Inv.out (h : Inv R N l s S X D) (hf : Full l S X) {v d : Int} (hw : W l s v d) (hS : ¬ S v) : ∃ y, (0 ≤ y ∧ y < R + N) ∧ ¬ S y ∧ 0 ≤ D y ∧ tr R y (D y) ≤ tr R v d ∧ D y ≤ d := by
  rcases leave h.root.1 hw with h1 | ⟨u, y, c, d1, d2, h1, h2, h3, h4, h5, h6⟩
  · exact absurd h1 hS
  · have hx := hf _ h3 h1
    have he := edge hv h3
    have hys : y ≠ s := fun e => h2 (e ▸ h.root.1)
    rcases h.best y he.2.2.1 he.2.2.2.1 hys with ⟨_, h7⟩ | ⟨⟨x, h7, h8, h9⟩, h10⟩
    · exact absurd rfl (h7 _ hx)
    · have h11 := h10 _ hx rfl
      dsimp only at h11
      have h12 := (T_le hv h4).2
      have h13 := h5.nonneg hv
      have h14 := tr_way hv h5 (D y)
      have h15 : 0 ≤ D y := by
        obtain ⟨h16, h17⟩ := h.sub x h7
        have := (h.set _ h17).2.2
        have := edge hv (u := x.1) (v := x.2.1) (c := x.2.2) h16
        omega
      exact ⟨y, ⟨he.2.2.1, he.2.2.2.1⟩, h2, h15, Int.le_trans h14 (tr_mono (by omega)), by omega⟩
/-- the next node has its distance, and all its parents are settled -/
theorem Inv.pop (h : Inv R N l s S X D) (hf : Full l S X) {x : Int} (hn : 0 ≤ x ∧ x < R + N) (hx : ¬ S x) (hd : 0 ≤ D x) (hm : ∀ y, 0 ≤ y → y < R + N → ¬ S y → 0 ≤ D y → tr R x (D x) ≤ tr R y (D y)) :
    D x = T l s x ∧ 0 ≤ T l s x ∧ ∀ u c, (u, x, c) ∈ l → 0 ≤ T l s u → T l s u + c = T l s x → S u := by
  have h1 := h.ge hv hn hd
  obtain ⟨y, hy1, hy2, hy3, hy4, hy5⟩ := h.out hv hf (T_way hv h1.1).1 hx
  have h2 := tr_dist (hm y hy1.1 hy1.2 hy2 hy3)
  have hDT : D x = T l s x := by omega
  refine ⟨hDT, h1.1, fun u c he hu ht => Classical.byContradiction fun hS => ?_⟩
  obtain ⟨z, hz1, hz2, hz3, hz4, hz5⟩ := h.out hv hf (T_way hv hu).1 hS
  have h3 := hm z hz1.1 hz1.2 hz2 hz3
  have h4 := tr_edge hv he (T l s u)
  rw [ht, ← hDT] at h4
  omega
theorem Inv.end_ (h : Inv R N l s S X D) (hf : Full l S X) (hm : ∀ y, 0 ≤ y → y < R + N → ¬ S y → ¬ 0 ≤ D y) : ∀ v, 0 ≤ v → v < R + N → D v = T l s v := fun v h0 h1 => by
  by_cases hS : S v
  · exact (h.set v hS).2.1
  · have h2 := hm v h0 h1 hS
    have h3 : T l s v = -1 := by
      rcases T_cases hv s v with ⟨h4, _⟩ | ⟨h4, h5⟩
      · exact h4
      · obtain ⟨y, hy1, hy2, hy3, _⟩ := h.out hv hf h5.1 hS
        exact absurd hy3 (hm y hy1.1 hy1.2 hy2)
    rcases h.best v h0 h1 (fun e => hS (e ▸ h.root.1)) with ⟨h4, _⟩ | ⟨⟨x, h7, h8, h9⟩, _⟩
    · omega
    · obtain ⟨h16, h17⟩ := h.sub x h7
      have := (h.set _ h17).2.2
      have := edge hv (u := x.1) (v := x.2.1) (c := x.2.2) h16
      omega
/-- a node is settled -/
theorem Inv.add (h : Inv R N l s S X D) (hf : Full l S X) {x : Int} (hn : 0 ≤ x ∧ x < R + N) (hx : ¬ S x) (hd : 0 ≤ D x) (hm : ∀ y, 0 ≤ y → y < R + N → ¬ S y → 0 ≤ D y → tr R x (D x) ≤ tr R y (D y)) : Inv R N l s (fun v => S v ∨ v = x) X D := by
  obtain ⟨p1, p2, p3⟩ := h.pop hv hf hn hx hd hm
  refine ⟨⟨.inl h.root.1, h.root.2⟩, h.best, fun e he => ⟨(h.sub e he).1, .inl (h.sub e he).2⟩, fun v hS => ?_, fun v y hS h0 h1 hy hdy => ?_⟩
  · rcases hS with hS | rfl
    · exact h.set v hS
    · exact ⟨hn, p1, p2⟩
  · have hy1 : ¬ S y := fun e => hy (.inl e)
    rcases hS with hS | rfl
    · exact h.far v y hS h0 h1 hy1 hdy
    · rw [← p1]; exact hm y h0 h1 hy1 hdy
/-- an edge of a settled node to a settled one is longer -/
theorem Inv.longer (h : Inv R N l s S X D) {x v c : Int} (hx : S x) (hS : S v) (he : (x, v, c) ∈ l) (hle : tr R v (T l s v) ≤ tr R x (T l s x)) : T l s v < T l s x + c := by
  have := tr_edge hv he (T l s x)
  exact tr_lt.1 (Int.lt_of_le_of_lt hle this)
end
/-- the next distance behind an edge -/
def nd (D : Int → Int) (v d : Int) : Int → Int := fun y => if y = v then d else D y
section
variable {R N : Int} {l : List E} (hv : Valid R N l) {s : Int} {S : Int → Prop} {X : E → Prop} {D : Int → Int}
include hv
omit hv in
/-- an edge that is longer changes nothing -/
theorem Inv.skip (h : Inv R N l s S X D) {x v c : Int} (hx : S x) (he : (x, v, c) ∈ l) (hd : 0 ≤ D v) (hlt : D v < T l s x + c) : Inv R N l s S (fun e => X e ∨ e = (x, v, c)) D := by
  refine ⟨h.root, fun y h0 h1 hy => ?_, fun e hX => ?_, h.set, h.far⟩
  · rcases h.best y h0 h1 hy with ⟨h2, h3⟩ | ⟨⟨z, h2, h3, h4⟩, h5⟩
    · refine .inl ⟨h2, fun e hX => ?_⟩
      rcases hX with hX | rfl
      · exact h3 e hX
      · intro e; dsimp only at e; subst e; omega
    · refine .inr ⟨⟨z, .inl h2, h3, h4⟩, fun e hX hey => ?_⟩
      rcases hX with hX | rfl
      · exact h5 e hX hey
      · dsimp only at hey ⊢; subst hey; omega
  · rcases hX with hX | rfl
    · exact h.sub e hX
    · exact ⟨he, hx⟩
/-- an edge of the same length -/
theorem Inv.same (h : Inv R N l s S X D) {x v c : Int} (hx : S x) (he : (x, v, c) ∈ l) (hd : D v = T l s x + c) : Inv R N l s S (fun e => X e ∨ e = (x, v, c)) D := by
  refine ⟨h.root, fun y h0 h1 hy => ?_, fun e hX => ?_, h.set, h.far⟩
  · have hed := edge hv he
    have hTx := (h.set x hx).2.2
    rcases h.best y h0 h1 hy with ⟨h2, h3⟩ | ⟨⟨z, h2, h3, h4⟩, h5⟩
    · refine .inl ⟨h2, fun e hX => ?_⟩
      rcases hX with hX | rfl
      · exact h3 e hX
      · intro e; dsimp only at e; subst e; omega
    · refine .inr ⟨⟨z, .inl h2, h3, h4⟩, fun e hX hey => ?_⟩
      rcases hX with hX | rfl
      · exact h5 e hX hey
      · dsimp only at hey ⊢; subst hey; omega
  · rcases hX with hX | rfl
    · exact h.sub e hX
    · exact ⟨he, hx⟩
/-- an edge that is shorter, or the first one -/
theorem Inv.less (h : Inv R N l s S X D) {x v c : Int} (hx : S x) (hS : ¬ S v) (he : (x, v, c) ∈ l) (hd : D v < 0 ∨ T l s x + c < D v) (hfar : ∀ u, S u → tr R u (T l s u) ≤ tr R x (T l s x)) : Inv R N l s S (fun e => X e ∨ e = (x, v, c)) (nd D v (T l s x + c)) := by
  have hed := edge hv he
  have hTx := (h.set x hx).2.2
  have hvs : v ≠ s := fun e => hS (e ▸ h.root.1)
  refine ⟨⟨h.root.1, by unfold nd; rw [if_neg (Ne.symm hvs)]; exact h.root.2⟩, fun y h0 h1 hy => ?_, fun e hX => ?_, fun u hu => ?_, fun u y hu h0 h1 hy hdy => ?_⟩
  · unfold nd
    by_cases e : y = v
    · subst e
      rw [if_pos rfl]
      refine .inr ⟨⟨(x, y, c), .inr rfl, rfl, rfl⟩, fun e hX hey => ?_⟩
      rcases hX with hX | rfl
      · rcases h.best y h0 h1 hy with ⟨h2, h3⟩ | ⟨⟨z, h2, h3, h4⟩, h5⟩
        · exact absurd hey (h3 e hX)
        · have := h5 e hX hey
          have : 0 ≤ D y := by
            obtain ⟨h16, h17⟩ := h.sub z h2
            have := (h.set _ h17).2.2
            have := edge hv (u := z.1) (v := z.2.1) (c := z.2.2) h16
            omega
          omega
      · exact Int.le_refl _
    · rw [if_neg e]
      rcases h.best y h0 h1 hy with ⟨h2, h3⟩ | ⟨⟨z, h2, h3, h4⟩, h5⟩
      · refine .inl ⟨h2, fun e' hX => ?_⟩
        rcases hX with hX | rfl
        · exact h3 e' hX
        · exact fun e2 => e e2.symm
      · refine .inr ⟨⟨z, .inl h2, h3, h4⟩, fun e' hX hey => ?_⟩
        rcases hX with hX | rfl
        · exact h5 e' hX hey
        · exact absurd hey.symm e
  · rcases hX with hX | rfl
    · exact h.sub e hX
    · exact ⟨he, hx⟩
  · unfold nd
    rw [if_neg (show ¬ u = v from fun e => hS (e ▸ hu))]
    exact h.set u hu
  · unfold nd at hdy ⊢
    by_cases e : y = v
    · subst e
      rw [if_pos rfl]
      exact Int.le_of_lt (Int.lt_of_le_of_lt (hfar u hu) (tr_edge hv he _))
    · rw [if_neg e] at hdy ⊢
      exact h.far u y hu h0 h1 hy hdy
end
/-- a first router or network -/
def First (R : Int) (l : List E) (s h : Int) : Prop := h ≠ s ∧ 0 ≤ T l s h ∧ ((s, h, T l s h) ∈ l ∨ (h < R ∧ ∃ w, R ≤ w ∧ (s, w, T l s w) ∈ l ∧ T l s w = T l s h ∧ (w, h, 0) ∈ l))
def Hop (R : Int) (l : List E) (s v h : Int) : Prop := v ≠ s ∧ 0 ≤ T l s v ∧ First R l s h ∧ (h = v ∨ (h < R ∧ 0 ≤ T l h v ∧ T l s h + T l h v = T l s v))
/-- what a parent passes on -/
def Con (R s u v h : Int) (K : Int → Prop) : Prop := (u = s ∧ h = v) ∨ ∃ k, K k ∧ h = if R ≤ k then v else k
theorem hop_rec {R N : Int} {l : List E} (hv : Valid R N l) {s : Int} (hs : s < R) {v h : Int} (hvs : v ≠ s) (hT : 0 ≤ T l s v) :
    Hop R l s v h ↔ ∃ u c, (u, v, c) ∈ l ∧ 0 ≤ T l s u ∧ T l s u + c = T l s v ∧ Con R s u v h (Hop R l s u) := by
  have hss := T_self hv s
  constructor
  · rintro ⟨_, _, hF, hh⟩
    by_cases e : h = v
    · subst e
      rcases hF.2.2 with h1 | ⟨h1, w, h2, h3, h4, h5⟩
      · exact ⟨s, _, h1, by omega, by omega, .inl ⟨rfl, rfl⟩⟩
      · have hw : 0 ≤ T l s w := by omega
        refine ⟨w, 0, h5, hw, by omega, .inr ⟨w, ⟨by omega, hw, ⟨by omega, hw, .inl h3⟩, .inl rfl⟩, by rw [if_pos h2]⟩⟩
    · rcases hh with h1 | ⟨hR, h1, h2⟩
      · exact absurd h1 e
      · have hw := (T_way hv h1).1
        generalize hq : T l h v = q at *
        cases hw with
        | nil => exact absurd rfl e
        | step hw he =>
          rename_i u c d
          have hTh := hF.2.1
          have a1 := T_le hv hw
          have a2 := T_le hv ((T_way hv hTh).1.trans hw)
          have a3 := T_edge hv a2.1 he
          have a4 := T_tri hv hTh a1.1
          have hus : u ≠ s := by
            rintro rfl
            have hz : T l u h = 0 := by omega
            rcases hF.2.2 with h3 | ⟨_, w, h4, h3, h5, _⟩
            · have := (edge hv h3).2.2.2.2.2.2.2.1 hs; omega
            · have := (edge hv h3).2.2.2.2.2.2.2.1 hs; omega
          refine ⟨u, c, he, a2.1, by omega, .inr ⟨h, ⟨hus, a2.1, hF, .inr ⟨hR, a1.1, by omega⟩⟩, by rw [if_neg (by omega)]⟩⟩
  · rintro ⟨u, c, he, hu, hc, h1⟩
    have hed := edge hv he
    rcases h1 with ⟨rfl, rfl⟩ | ⟨k, ⟨hus, _, hF, hk⟩, rfl⟩
    · rw [hss] at hc
      have : c = T l u h := by omega
      subst this
      exact ⟨hvs, hT, ⟨hvs, hT, .inl he⟩, .inl rfl⟩
    · by_cases hkR : R ≤ k
      · rw [if_pos hkR]
        have hku : k = u := by rcases hk with h2 | h2 <;> omega
        subst hku
        obtain ⟨rfl, hvR⟩ := hed.2.2.2.2.2.2.2.2 hkR
        rcases hF.2.2 with h3 | ⟨h3, _⟩
        · exact ⟨hvs, hT, ⟨hvs, hT, .inr ⟨hvR, k, hkR, h3, by omega, he⟩⟩, .inl rfl⟩
        · omega
      · rw [if_neg hkR]
        have hTk := hF.2.1
        have hku : 0 ≤ T l k u ∧ T l s k + T l k u = T l s u := by
          rcases hk with rfl | ⟨_, h2, h3⟩
          · have := T_self hv k; omega
          · exact ⟨h2, h3⟩
        have a1 := T_edge hv hku.1 he
        have a2 := T_tri hv hTk a1.1
        exact ⟨hvs, hT, hF, .inr ⟨by omega, a1.1, by omega⟩⟩
end Go.Proofs.Ytmbogobebllheaa.SP
namespace Go.Proofs.Ytmbogobebllheaa.SP
open GM Classical
set_option linter.unusedVariables false
set_option linter.unusedSimpArgs false

/-- parents by the edges that were followed -/
def PX (l : List E) (s : Int) (X : E → Prop) (D : Int → Int) (v u : Int) : Prop := ∃ c, X (u, v, c) ∧ T l s u + c = D v
/-- first hops by the edges that were followed -/
def HX (R : Int) (l : List E) (s : Int) (X : E → Prop) (D : Int → Int) (v h : Int) : Prop := ∃ u c, X (u, v, c) ∧ T l s u + c = D v ∧ Con R s u v h (Hop R l s u)
def Par (l : List E) (s v u : Int) : Prop := ∃ c, (u, v, c) ∈ l ∧ 0 ≤ T l s u ∧ T l s u + c = T l s v
section
variable {R N : Int} {l : List E} {s : Int} {X : E → Prop} {D : Int → Int} {x v c : Int}
theorem PX.skip (hlt : D v < T l s x + c) (y u : Int) : PX l s (fun e => X e ∨ e = (x, v, c)) D y u ↔ PX l s X D y u := by
  constructor
  · rintro ⟨k, h1 | h1, h2⟩
    · exact ⟨k, h1, h2⟩
    · cases h1; omega
  · rintro ⟨k, h1, h2⟩; exact ⟨k, .inl h1, h2⟩
theorem HX.skip (hlt : D v < T l s x + c) (y h : Int) : HX R l s (fun e => X e ∨ e = (x, v, c)) D y h ↔ HX R l s X D y h := by
  constructor
  · rintro ⟨u, k, h1 | h1, h2⟩
    · exact ⟨u, k, h1, h2⟩
    · cases h1; have := h2.1; omega
  · rintro ⟨u, k, h1, h2⟩; exact ⟨u, k, .inl h1, h2⟩
theorem PX.same (hd : D v = T l s x + c) (y u : Int) : PX l s (fun e => X e ∨ e = (x, v, c)) D y u ↔ PX l s X D y u ∨ (y = v ∧ u = x) := by
  constructor
  · rintro ⟨k, h1 | h1, h2⟩
    · exact .inl ⟨k, h1, h2⟩
    · cases h1; exact .inr ⟨rfl, rfl⟩
  · rintro (⟨k, h1, h2⟩ | ⟨rfl, rfl⟩)
    · exact ⟨k, .inl h1, h2⟩
    · exact ⟨c, .inr rfl, hd.symm⟩
theorem HX.same (hd : D v = T l s x + c) (y h : Int) : HX R l s (fun e => X e ∨ e = (x, v, c)) D y h ↔ HX R l s X D y h ∨ (y = v ∧ Con R s x v h (Hop R l s x)) := by
  constructor
  · rintro ⟨u, k, h1 | h1, h2⟩
    · exact .inl ⟨u, k, h1, h2⟩
    · cases h1; exact .inr ⟨rfl, h2.2⟩
  · rintro (⟨u, k, h1, h2⟩ | ⟨rfl, h2⟩)
    · exact ⟨u, k, .inl h1, h2⟩
    · exact ⟨x, c, .inr rfl, hd.symm, h2⟩
theorem PX.less (hb : ∀ e, X e → e.2.1 = v → T l s x + c < T l s e.1 + e.2.2) (y u : Int) : PX l s (fun e => X e ∨ e = (x, v, c)) (nd D v (T l s x + c)) y u ↔ if y = v then u = x else PX l s X D y u := by
  unfold PX nd
  by_cases e : y = v
  · subst e
    rw [if_pos rfl, if_pos rfl]
    constructor
    · rintro ⟨k, h1 | h1, h2⟩
      · have := hb _ h1 rfl; dsimp only at this; omega
      · cases h1; rfl
    · rintro rfl; exact ⟨c, .inr rfl, rfl⟩
  · rw [if_neg e, if_neg e]
    constructor
    · rintro ⟨k, h1 | h1, h2⟩
      · exact ⟨k, h1, h2⟩
      · cases h1; exact absurd rfl e
    · rintro ⟨k, h1, h2⟩; exact ⟨k, .inl h1, h2⟩
theorem HX.less (hb : ∀ e, X e → e.2.1 = v → T l s x + c < T l s e.1 + e.2.2) (y h : Int) : HX R l s (fun e => X e ∨ e = (x, v, c)) (nd D v (T l s x + c)) y h ↔ if y = v then Con R s x v h (Hop R l s x) else HX R l s X D y h := by
  unfold HX nd
  by_cases e : y = v
  · subst e
    rw [if_pos rfl, if_pos rfl]
    constructor
    · rintro ⟨u, k, h1 | h1, h2⟩
      · have := hb _ h1 rfl; dsimp only at this; omega
      · cases h1; exact h2.2
    · intro hc; exact ⟨x, c, .inr rfl, rfl, hc⟩
  · rw [if_neg e, if_neg e]
    constructor
    · rintro ⟨u, k, h1 | h1, h2⟩
      · exact ⟨u, k, h1, h2⟩
      · cases h1; exact absurd rfl e
    · rintro ⟨u, k, h1, h2⟩; exact ⟨u, k, .inl h1, h2⟩
/-- before a shorter edge, every edge to that node was longer -/
theorem Inv.before (hv : Valid R N l) {S : Int → Prop} (h : Inv R N l s S X D) (hx : S x) (he : (x, v, c) ∈ l) (hvs : v ≠ s) (hd : D v < 0 ∨ T l s x + c < D v) : ∀ e, X e → e.2.1 = v → T l s x + c < T l s e.1 + e.2.2 := fun e hX hev => by
  have hed := edge hv he
  have hTx := (h.set x hx).2.2
  rcases h.best v hed.2.2.1 hed.2.2.2.1 hvs with ⟨h1, h2⟩ | ⟨⟨z, h2, h3, h4⟩, h5⟩
  · exact absurd hev (h2 e hX)
  · have h6 := h5 e hX hev
    have : 0 ≤ D v := by
      obtain ⟨h16, h17⟩ := h.sub z h2
      have := (h.set _ h17).2.2
      have := edge hv (u := z.1) (v := z.2.1) (c := z.2.2) h16
      omega
    omega
/-- at a node that is settled parents and hops are what they must be -/
theorem Inv.par (hv : Valid R N l) {S : Int → Prop} (h : Inv R N l s S X D) (hf : Full l S X) {x : Int} (hD : D x = T l s x) (hp : ∀ u c, (u, x, c) ∈ l → 0 ≤ T l s u → T l s u + c = T l s x → S u) (u : Int) : PX l s X D x u ↔ Par l s x u := by
  constructor
  · rintro ⟨c, h1, h2⟩
    obtain ⟨h3, h4⟩ := h.sub _ h1
    exact ⟨c, h3, (h.set _ h4).2.2, by rw [h2, hD]⟩
  · rintro ⟨c, h1, h2, h3⟩
    exact ⟨c, hf _ h1 (hp u c h1 h2 h3), by rw [h3, hD]⟩
theorem Inv.hop (hv : Valid R N l) (hs : s < R) {S : Int → Prop} (h : Inv R N l s S X D) (hf : Full l S X) {x : Int} (hxs : x ≠ s) (hT : 0 ≤ T l s x) (hD : D x = T l s x) (hp : ∀ u c, (u, x, c) ∈ l → 0 ≤ T l s u → T l s u + c = T l s x → S u) (k : Int) : HX R l s X D x k ↔ Hop R l s x k := by
  rw [hop_rec hv hs hxs hT]
  constructor
  · rintro ⟨u, c, h1, h2, h3⟩
    obtain ⟨h4, h5⟩ := h.sub _ h1
    exact ⟨u, c, h4, (h.set _ h5).2.2, by rw [h2, hD], h3⟩
  · rintro ⟨u, c, h1, h2, h3, h4⟩
    exact ⟨u, c, hf _ h1 (hp u c h1 h2 h3), by rw [h3, hD], h4⟩
end
/-- settled nodes keep their parents and hops -/
theorem Par.self {R N : Int} {l : List E} (hv : Valid R N l) {s : Int} (u : Int) (hs : s < R) : ¬ Par l s s u := by
  rintro ⟨c, h1, h2, h3⟩
  rw [T_self hv] at h3
  have := edge hv h1
  have hc : c = 0 := by omega
  have hu : T l s u = 0 := by omega
  have huR : R ≤ u := by
    refine Int.not_lt.1 fun h => ?_
    have := this.2.2.2.2.2.2.2.1 h; omega
  have hw := (T_way hv h2).1
  rw [hu] at hw
  have h4 := tr_way hv hw 0
  unfold tr at h4
  rw [if_pos hs, if_neg (by omega)] at h4
  omega
end Go.Proofs.Ytmbogobebllheaa.SP
namespace Go.Proofs.Ytmbogobebllheaa.SP
open GM HM Classical
set_option linter.unusedVariables false
set_option linter.unusedSimpArgs false

/-- an ascending list of the numbers with P -/
def RowI (P : Int → Prop) (r : List Int) : Prop := r.Pairwise (· < ·) ∧ ∀ x, x ∈ r ↔ P x
theorem RowI.congr {P Q : Int → Prop} {r : List Int} (h : RowI P r) (he : ∀ x, P x ↔ Q x) : RowI Q r := ⟨h.1, fun x => (h.2 x).trans (he x)⟩
theorem RowI.nil {P : Int → Prop} (h : ∀ x, ¬ P x) : RowI P [] := ⟨List.Pairwise.nil, fun x => ⟨(fun h => absurd h (by simp)), fun hx => absurd hx (h x)⟩⟩
theorem RowI.unique {P : Int → Prop} {r q : List Int} (h : RowI P r) (k : RowI P q) : r = q := by
  have key : ∀ (r q : List Int), r.Pairwise (· < ·) → q.Pairwise (· < ·) → (∀ x, x ∈ r ↔ x ∈ q) → r = q := by
    intro r
    induction r with
    | nil =>
      intro q _ _ h
      cases q with
      | nil => rfl
      | cons a q => have := (h a).2 (by simp); cases this
    | cons a r ih =>
      intro q h1 h2 h
      cases q with
      | nil => have := (h a).1 (by simp); cases this
      | cons b q =>
        obtain ⟨a1, a2⟩ := List.pairwise_cons.1 h1
        obtain ⟨b1, b2⟩ := List.pairwise_cons.1 h2
        have e : a = b := by
          rcases List.mem_cons.1 ((h a).1 (by simp)) with e | e
          · exact e
          · rcases List.mem_cons.1 ((h b).2 (by simp)) with e' | e'
            · exact e'.symm
            · have := a1 b e'; have := b1 a e; omega
        subst e
        congr 1
        refine ih q a2 b2 fun x => ?_
        have hx := h x
        simp only [List.mem_cons] at hx
        constructor
        · intro hr
          rcases hx.1 (.inr hr) with e | e
          · subst e; have := a1 x hr; omega
          · exact e
        · intro hr
          rcases hx.2 (.inr hr) with e | e
          · subst e; have := b1 x hr; omega
          · exact e
  exact key r q h.1 k.1 fun x => (h.2 x).trans (k.2 x).symm
/-- x at place p -/
def putI (r : List Int) (p : Nat) (x : Int) : List Int := r.take p ++ x :: r.drop p
theorem putI_len {r : List Int} {p : Nat} {x : Int} (hp : p ≤ r.length) : (putI r p x).length = r.length + 1 := by unfold putI; simp; omega
theorem RowI.put {P : Int → Prop} {r : List Int} (h : RowI P r) {p : Nat} {x : Int} (hp : p ≤ r.length) (h1 : ∀ i, i < p → gI r i < x) (h2 : ∀ i, p ≤ i → i < r.length → x < gI r i) : RowI (fun y => P y ∨ y = x) (putI r p x) := by
  have low : ∀ y ∈ r.take p, y < x := fun y hy => by
    obtain ⟨i, hi⟩ := List.getElem?_of_mem hy
    have hlt := (List.getElem?_eq_some_iff.1 hi).1
    rw [List.getElem?_take] at hi
    have hip : i < p := by simp at hlt; omega
    rw [if_pos hip] at hi
    have := h1 i hip
    unfold gI at this; rw [hi] at this; exact this
  have high : ∀ y ∈ r.drop p, x < y := fun y hy => by
    obtain ⟨i, hi⟩ := List.getElem?_of_mem hy
    rw [List.getElem?_drop] at hi
    have hlt := (List.getElem?_eq_some_iff.1 hi).1
    have := h2 (p + i) (by omega) hlt
    unfold gI at this; rw [hi] at this; exact this
  have hsp : r = r.take p ++ r.drop p := (List.take_append_drop p r).symm
  have hpw := h.1
  rw [hsp, List.pairwise_append] at hpw
  refine ⟨?_, fun y => ?_⟩
  · unfold putI
    rw [List.pairwise_append]
    refine ⟨hpw.1, List.pairwise_cons.2 ⟨high, hpw.2.1⟩, fun a ha b hb => ?_⟩
    rcases List.mem_cons.1 hb with rfl | hb
    · exact low a ha
    · exact hpw.2.2 a ha b hb
  · unfold putI
    show _ ↔ (P y ∨ y = x)
    rw [← h.2 y, List.mem_append, List.mem_cons]
    constructor
    · rintro (h3 | h3 | h3)
      · exact .inl (List.mem_of_mem_take h3)
      · exact .inr h3
      · exact .inl (List.mem_of_mem_drop h3)
    · rintro (h3 | h3)
      · rw [hsp, List.mem_append] at h3
        rcases h3 with h3 | h3
        · exact .inl h3
        · exact .inr (.inr h3)
      · exact .inr (.inl h3)
theorem RowI.old {P : Int → Prop} {r : List Int} (h : RowI P r) {x : Int} (hx : x ∈ r) : RowI (fun y => P y ∨ y = x) r :=
  h.congr fun y => ⟨.inl, fun e => e.elim id (fun e => e ▸ (h.2 x).1 hx)⟩
/-- distances in a row -/
def dO (d : List Int) : Int → Int := fun y => gI d y.toNat
theorem dO_nat (d : List Int) (v : Nat) : dO d (v : Int) = gI d v := rfl
def gL (r : List (List Int)) (v : Nat) : List Int := r[v]?.getD []
theorem gL_set {r : List (List Int)} {q p : Nat} {x : List Int} (hq : q < r.length) : gL (r.set q x) p = if p = q then x else gL r p := by
  unfold gL; rw [List.getElem?_set]
  by_cases h : q = p
  · subst h; simp [hq]
  · rw [if_neg h, if_neg (fun e => h e.symm)]
theorem gL_get {r : List (List Int)} {p : Nat} (h : p < r.length) : r[p]? = some (gL r p) := by unfold gL; simp [h]
section
variable {R N : Int} {l : List E} {s : Int} {S : Int → Prop} {X : E → Prop} {D D' : Int → Int}
theorem Inv.congrD (hv : Valid R N l) (hs : 0 ≤ s ∧ s < R + N) (h : Inv R N l s S X D) (he : ∀ y, 0 ≤ y → y < R + N → D' y = D y) : Inv R N l s S X D' := by
  refine ⟨⟨h.root.1, (he s hs.1 hs.2).trans h.root.2⟩, fun v h0 h1 hne => ?_, h.sub, fun v hS => ?_, fun v y hS h0 h1 hy hd => ?_⟩
  · rw [he v h0 h1]; exact h.best v h0 h1 hne
  · have := h.set v hS
    rw [he v this.1.1 this.1.2]; exact this
  · rw [he y h0 h1] at hd ⊢; exact h.far v y hS h0 h1 hy hd
end
/-- the rows of a search -/
structure Sr (R N : Int) (l : List E) (s : Int) (S : Int → Prop) (X : E → Prop) (n : Nat) (dist : List Int) (hops pars : List (List Int)) : Prop where
  inv : Inv R N l s S X (dO dist)
  ld : dist.length = n
  lh : hops.length = n
  lp : pars.length = n
  hp : ∀ v, v < n → RowI (PX l s X (dO dist) (v : Int)) (gL pars v)
  hh : ∀ v, v < n → RowI (HX R l s X (dO dist) (v : Int)) (gL hops v)
/-- the queue of a search -/
structure Qu (R : Int) (S : Int → Prop) (n : Nat) (dist : List Int) (ins : List Bool) (keys : List Int) : Prop where
  li : ins.length = n
  lk : keys.length = n
  i : ∀ v, v < n → (gB ins v = true ↔ (¬ S (v : Int) ∧ 0 ≤ gI dist v))
  k : ∀ v, v < n → gB ins v = true → gI keys v = tr R (v : Int) (gI dist v)
def outs (l : List E) (v : Int) : List E := l.filter (fun e => decide (e.1 = v))
/-- x is followed, its first k edges are done -/
structure At (R N : Int) (l : List E) (s : Int) (n : Nat) (x k : Nat) (dist : List Int) (hops pars : List (List Int)) (ins : List Bool) (keys : List Int) (S : Int → Prop) (X : E → Prop) : Prop where
  sr : Sr R N l s S X n dist hops pars
  qu : Qu R S n dist ins keys
  xn : x < n
  xS : S (x : Int)
  rem : ∀ e, e ∈ l → S e.1 → X e ∨ e ∈ (outs l (x : Int)).drop k
  far : ∀ u, S u → tr R u (T l s u) ≤ tr R (x : Int) (T l s (x : Int))
  hx : RowI (Hop R l s (x : Int)) (gL hops x)
/-- between two nodes -/
structure Bt (R N : Int) (l : List E) (s : Int) (n : Nat) (dist : List Int) (hops pars : List (List Int)) (ins : List Bool) (keys : List Int) (S : Int → Prop) (X : E → Prop) : Prop where
  sr : Sr R N l s S X n dist hops pars
  qu : Qu R S n dist ins keys
  full : Full l S X
/-- the tree -/
structure Tree (R N : Int) (l : List E) (s : Int) (n : Nat) (dist : List Int) (hops pars : List (List Int)) : Prop where
  ld : dist.length = n
  lh : hops.length = n
  lp : pars.length = n
  d : ∀ v : Nat, v < n → gI dist v = T l s (v : Int)
  p : ∀ v : Nat, v < n → RowI (Par l s (v : Int)) (gL pars v)
  h : ∀ v : Nat, v < n → RowI (Hop R l s (v : Int)) (gL hops v)
theorem ext_gI {a b : List Int} (h : a.length = b.length) (he : ∀ v, v < a.length → gI a v = gI b v) : a = b := by
  refine List.ext_getElem h fun v h1 h2 => ?_
  have := he v h1
  unfold gI at this
  simpa [h1, h2] using this
theorem ext_gL {a b : List (List Int)} (h : a.length = b.length) (he : ∀ v, v < a.length → gL a v = gL b v) : a = b := by
  refine List.ext_getElem h fun v h1 h2 => ?_
  have := he v h1
  unfold gL at this
  simpa [h1, h2] using this
theorem Tree.unique {R N : Int} {l : List E} {s : Int} {n : Nat} {d d' : List Int} {h h' p p' : List (List Int)} (a : Tree R N l s n d h p) (b : Tree R N l s n d' h' p') : d = d' ∧ h = h' ∧ p = p' :=
  ⟨ext_gI (by rw [a.ld, b.ld]) fun v hv => by rw [a.ld] at hv; rw [a.d v hv, b.d v hv],
   ext_gL (by rw [a.lh, b.lh]) fun v hv => by rw [a.lh] at hv; exact (a.h v hv).unique (b.h v hv),
   ext_gL (by rw [a.lp, b.lp]) fun v hv => by rw [a.lp] at hv; exact (a.p v hv).unique (b.p v hv)⟩
section
variable {R N : Int} {l : List E} (hv : Valid R N l) {s : Int} (hs : 0 ≤ s ∧ s < R) {n : Nat} (hn : (n : Int) = R + N)
variable {dist : List Int} {hops pars : List (List Int)} {ins : List Bool} {keys : List Int} {S : Int → Prop} {X : E → Prop}
include hv hs hn
/-- the end of a search -/
theorem Bt.end_ (h : Bt R N l s n dist hops pars ins keys S X) (he : ∀ v, v < n → gB ins v = false) : Tree R N l s n dist hops pars := by
  have hout : ∀ y, 0 ≤ y → y < R + N → ¬ S y → ¬ 0 ≤ dO dist y := fun y h0 h1 hS hd => by
    obtain ⟨v, rfl⟩ : ∃ v : Nat, y = v := ⟨y.toNat, by omega⟩
    have := (h.qu.i v (by omega)).2 ⟨hS, hd⟩
    rw [he v (by omega)] at this; cases this
  have hD := h.sr.inv.end_ hv h.full hout
  have hT : ∀ u, 0 ≤ u → u < R + N → 0 ≤ T l s u → S u := fun u h0 h1 hu => Classical.byContradiction fun hS => hout u h0 h1 hS (by rw [hD u h0 h1]; exact hu)
  have hed : ∀ e, X e → e ∈ l ∧ 0 ≤ T l s e.1 := fun e hX => ⟨(h.sr.inv.sub e hX).1, (h.sr.inv.set _ (h.sr.inv.sub e hX).2).2.2⟩
  have hX : ∀ u v c, (u, v, c) ∈ l → 0 ≤ T l s u → X (u, v, c) := fun u v c hu ht => by
    have := edge hv hu
    exact h.full _ hu (hT u this.1 this.2.1 ht)
  refine ⟨h.sr.ld, h.sr.lh, h.sr.lp, fun v hvn => hD v (by omega) (by omega), fun v hvn => (h.sr.hp v hvn).congr fun u => ?_, fun v hvn => (h.sr.hh v hvn).congr fun k => ?_⟩
  · unfold PX Par
    rw [hD v (by omega) (by omega)]
    constructor
    · rintro ⟨c, h1, h2⟩; exact ⟨c, (hed _ h1).1, (hed _ h1).2, h2⟩
    · rintro ⟨c, h1, h2, h3⟩; exact ⟨c, hX _ _ _ h1 h2, h3⟩
  · by_cases hc : (v : Int) ≠ s ∧ 0 ≤ T l s (v : Int)
    · rw [hop_rec hv hs.2 hc.1 hc.2]
      unfold HX
      rw [hD v (by omega) (by omega)]
      constructor
      · rintro ⟨u, c, h1, h2, h3⟩; exact ⟨u, c, (hed _ h1).1, (hed _ h1).2, h2, h3⟩
      · rintro ⟨u, c, h1, h2, h3, h4⟩; exact ⟨u, c, hX _ _ _ h1 h2, h3, h4⟩
    · constructor
      · rintro ⟨u, c, h1, h2, h3⟩
        exfalso
        rw [hD v (by omega) (by omega)] at h2
        have h4 := hed _ h1
        have := T_edge hv h4.2 h4.1
        by_cases e : (v : Int) = s
        · rw [e] at h1 h2
          exact Par.self hv u hs.2 ⟨c, (hed _ h1).1, h4.2, h2⟩
        · exact hc ⟨e, this.1⟩
      · rintro ⟨h1, h2, _⟩; exact absurd ⟨h1, h2⟩ hc
/-- a node leaves the queue -/
theorem Bt.pop (h : Bt R N l s n dist hops pars ins keys S X) {x : Nat} (hx : x < n) (hi : gB ins x = true) (hm : ∀ y, y < n → gB ins y = true → ¬ lt (gI keys) y x) :
    At R N l s n x 0 dist hops pars (ins.set x false) keys (fun v => S v ∨ v = (x : Int)) X := by
  obtain ⟨hS, hd⟩ := (h.qu.i x hx).1 hi
  have hmin : ∀ y, 0 ≤ y → y < R + N → ¬ S y → 0 ≤ dO dist y → tr R x (dO dist x) ≤ tr R y (dO dist y) := fun y h0 h1 hy hdy => by
    obtain ⟨v, rfl⟩ : ∃ v : Nat, y = v := ⟨y.toNat, by omega⟩
    have hvi := (h.qu.i v (by omega)).2 ⟨hy, hdy⟩
    have := hm v (by omega) hvi
    unfold lt at this
    rw [h.qu.k v (by omega) hvi, h.qu.k x hx hi] at this
    rw [dO_nat, dO_nat]
    omega
  have hxn : (0 : Int) ≤ (x : Int) ∧ (x : Int) < R + N := by omega
  have hxs : (x : Int) ≠ s := fun e => hS (e ▸ h.sr.inv.root.1)
  obtain ⟨p1, p2, p3⟩ := h.sr.inv.pop hv h.full hxn hS hd hmin
  refine ⟨⟨h.sr.inv.add hv h.full hxn hS hd hmin, h.sr.ld, h.sr.lh, h.sr.lp, h.sr.hp, h.sr.hh⟩, ⟨by simp [h.qu.li], h.qu.lk, fun v hvn => ?_, fun v hvn hb => ?_⟩, hx, .inr rfl, fun e he hSe => ?_, fun u hu => ?_, ?_⟩
  · rw [gB_set (by rw [h.qu.li]; exact hx)]
    by_cases e : v = x
    · subst e; simp
    · rw [if_neg e, h.qu.i v hvn]
      have : (v : Int) ≠ (x : Int) := by omega
      simp [this]
  · rw [gB_set (by rw [h.qu.li]; exact hx)] at hb
    by_cases e : v = x
    · rw [if_pos e] at hb; cases hb
    · rw [if_neg e] at hb; exact h.qu.k v hvn hb
  · rcases hSe with hSe | hSe
    · exact .inl (h.full e he hSe)
    · exact .inr (by simpa [outs] using ⟨he, hSe⟩)
  · rcases hu with hu | rfl
    · have := h.sr.inv.far u x hu hxn.1 hxn.2 hS hd
      rwa [p1] at this
    · exact Int.le_refl _
  · exact (h.sr.hh x hx).congr (h.sr.inv.hop hv hs.2 h.full hxs p2 p1 p3)
/-- the root leaves the queue -/
theorem At.root {x : Nat} (hx : s = (x : Int)) : At R N l s n x 0 ((List.replicate n (-1)).set x 0) (List.replicate n []) (List.replicate n []) ((List.replicate n false)) (keys := (List.replicate n 0).set x 0) (S := fun v => v = s) (X := fun _ => False) := by
  have hxn : x < n := by have := hv.n; omega
  have hT : T l s s = 0 := T_self hv s
  have gd : ∀ v, v < n → gI ((List.replicate n (-1)).set x 0) v = if v = x then 0 else -1 := fun v hvn => by
    rw [gI_set (by simpa using hxn)]
    split
    · rfl
    · unfold gI; simp [hvn]
  have ge : ∀ v, v < n → gL (List.replicate n []) v = [] := fun v hvn => by unfold gL; simp [hvn]
  refine ⟨⟨⟨⟨rfl, ?_⟩, fun v h0 h1 hne => .inl ⟨?_, fun e he => he.elim⟩, fun e he => he.elim, fun v hS => ?_, fun v y hS h0 h1 hy hd => ?_⟩, by simp, by simp, by simp, fun v hvn => ?_, fun v hvn => ?_⟩, ⟨by simp, by simp, fun v hvn => ?_, fun v hvn hb => ?_⟩, hxn, hx.symm, fun e he hSe => .inr ?_, fun u hu => ?_, ?_⟩
  · rw [hx, dO_nat, gd x hxn, if_pos rfl]
  · obtain ⟨v, rfl⟩ : ∃ u : Nat, v = u := ⟨v.toNat, by omega⟩
    rw [dO_nat, gd v (by omega), if_neg (fun e => hne (by rw [hx, e]))]
  · subst hS
    refine ⟨⟨hs.1, by have := hv.n; omega⟩, ?_, by omega⟩
    rw [hT, hx, dO_nat, gd x hxn, if_pos rfl]
  · obtain ⟨u, rfl⟩ : ∃ u : Nat, y = u := ⟨y.toNat, by omega⟩
    rw [dO_nat, gd u (by omega)] at hd
    by_cases e : u = x
    · exact absurd (by rw [e, hx]) hy
    · rw [if_neg e] at hd; omega
  · rw [ge v hvn]; exact RowI.nil fun u hu => by obtain ⟨c, h, _⟩ := hu; exact h
  · rw [ge v hvn]; exact RowI.nil fun u hu => by obtain ⟨_, c, h, _⟩ := hu; exact h
  · rw [gd v hvn]
    have : gB (List.replicate n false) v = false := by unfold gB; simp [hvn]
    rw [this]
    by_cases e : v = x
    · simp [e, hx]
    · rw [if_neg e]; simp
  · have : gB (List.replicate n false) v = false := by unfold gB; simp [hvn]
    rw [this] at hb; cases hb
  · simpa [outs] using ⟨he, hSe.trans hx⟩
  · subst hu; rw [← hx]; exact Int.le_refl _
  · rw [ge x hxn]; exact RowI.nil fun k hk => hk.1 hx.symm
omit hv hs hn in
/-- all edges of a node are done -/
theorem At.done {x : Nat} (h : At R N l s n x (outs l (x : Int)).length dist hops pars ins keys S X) : Bt R N l s n dist hops pars ins keys S X :=
  ⟨h.sr, h.qu, fun e he hS => (h.rem e he hS).elim id (fun hd => by simp at hd)⟩
omit hv hs hn in
theorem At.drop {x k : Nat} (h : At R N l s n x k dist hops pars ins keys S X) {v c : Int} (he : (outs l (x : Int))[k]? = some ((x : Int), v, c)) (e : E) (hl : e ∈ l) (hS : S e.1) : (X e ∨ e = ((x : Int), v, c)) ∨ e ∈ (outs l (x : Int)).drop (k + 1) := by
  rcases h.rem e hl hS with h1 | h1
  · exact .inl (.inl h1)
  · obtain ⟨hk, hk2⟩ := List.getElem?_eq_some_iff.1 he
    rw [List.drop_eq_getElem_cons hk, hk2] at h1
    rcases List.mem_cons.1 h1 with h1 | h1
    · exact .inl (.inr h1)
    · exact .inr h1
omit hs hn hv in
theorem outs_get {x : Int} {k : Nat} {e : E} (he : (outs l x)[k]? = some e) : e ∈ l ∧ e.1 = x := by
  have := List.mem_of_getElem? he
  simpa [outs] using this
omit hs in
/-- what an edge meets -/
theorem At.facts {x k : Nat} (h : At R N l s n x k dist hops pars ins keys S X) {v : Nat} {c : Int} (he : (outs l (x : Int))[k]? = some ((x : Int), (v : Int), c)) :
    ((x : Int), (v : Int), c) ∈ l ∧ v < n ∧ v ≠ x ∧ 0 ≤ c ∧ c ≤ 65535 ∧ gI dist x = T l s x ∧ 0 ≤ gI dist x ∧ (S (v : Int) → 0 ≤ gI dist v ∧ gI dist v < gI dist x + c) := by
  have h1 := (outs_get he).1
  have h2 := edge hv h1
  have h3 := h.sr.inv.set _ h.xS
  have h4 : gI dist x = T l s x := h3.2.1
  refine ⟨h1, by omega, by omega, h2.2.2.2.2.2.1, h2.2.2.2.2.2.2.1, h4, by omega, fun hS => ?_⟩
  have h5 := h.sr.inv.set _ hS
  have h6 : gI dist v = T l s v := h5.2.1
  have := Inv.longer hv h.sr.inv h.xS hS h1 (h.far _ hS)
  omega
omit hs in
theorem At.skip {x k : Nat} (h : At R N l s n x k dist hops pars ins keys S X) {v : Nat} {c : Int} (he : (outs l (x : Int))[k]? = some ((x : Int), (v : Int), c)) (h0 : 0 ≤ gI dist v) (hlt : gI dist v < gI dist x + c) :
    At R N l s n x (k + 1) dist hops pars ins keys S (fun e => X e ∨ e = ((x : Int), (v : Int), c)) := by
  obtain ⟨f1, f2, f3, f4, f5, f6, f7, f8⟩ := h.facts hv hn he
  have hlt' : dO dist (v : Int) < T l s (x : Int) + c := by rw [dO_nat]; omega
  exact ⟨⟨h.sr.inv.skip h.xS f1 h0 hlt', h.sr.ld, h.sr.lh, h.sr.lp, fun u hu => (h.sr.hp u hu).congr fun y => (PX.skip hlt' _ _).symm, fun u hu => (h.sr.hh u hu).congr fun y => (HX.skip hlt' _ _).symm⟩, h.qu, h.xn, h.xS, h.drop he, h.far, h.hx⟩
omit hs in
theorem At.same {x k : Nat} (h : At R N l s n x k dist hops pars ins keys S X) {v : Nat} {c : Int} (he : (outs l (x : Int))[k]? = some ((x : Int), (v : Int), c)) (hd : gI dist v = gI dist x + c) {rp rh : List Int}
    (hp : RowI (fun y => y ∈ gL pars v ∨ y = (x : Int)) rp) (hh : RowI (fun y => y ∈ gL hops v ∨ Con R s x v y (fun k => k ∈ gL hops x)) rh) :
    At R N l s n x (k + 1) dist (hops.set v rh) (pars.set v rp) ins keys S (fun e => X e ∨ e = ((x : Int), (v : Int), c)) := by
  obtain ⟨f1, f2, f3, f4, f5, f6, f7, f8⟩ := h.facts hv hn he
  have hd' : dO dist (v : Int) = T l s (x : Int) + c := by rw [dO_nat]; omega
  refine ⟨⟨h.sr.inv.same hv h.xS f1 hd', h.sr.ld, by simp [h.sr.lh], by simp [h.sr.lp], fun u hu => ?_, fun u hu => ?_⟩, h.qu, h.xn, h.xS, h.drop he, h.far, ?_⟩
  · rw [gL_set (by rw [h.sr.lp]; exact f2)]
    by_cases e : u = v
    · subst e
      rw [if_pos rfl]
      refine hp.congr fun y => ?_
      rw [PX.same hd', (h.sr.hp u hu).2 y]
      simp
    · rw [if_neg e]
      refine (h.sr.hp u hu).congr fun y => ?_
      rw [PX.same hd']
      have : (u : Int) ≠ (v : Int) := by omega
      simp [this]
  · rw [gL_set (by rw [h.sr.lh]; exact f2)]
    by_cases e : u = v
    · subst e
      rw [if_pos rfl]
      refine hh.congr fun y => ?_
      rw [HX.same hd', (h.sr.hh u hu).2 y]
      have : (fun k => k ∈ gL hops x) = Hop R l s (x : Int) := funext fun k => propext (h.hx.2 k)
      rw [this]; simp
    · rw [if_neg e]
      refine (h.sr.hh u hu).congr fun y => ?_
      rw [HX.same hd']
      have : (u : Int) ≠ (v : Int) := by omega
      simp [this]
  · rw [gL_set (by rw [h.sr.lh]; exact f2), if_neg (Ne.symm f3)]; exact h.hx
theorem At.less {x k : Nat} (h : At R N l s n x k dist hops pars ins keys S X) {v : Nat} {c : Int} (he : (outs l (x : Int))[k]? = some ((x : Int), (v : Int), c)) (hd : gI dist v < 0 ∨ gI dist x + c < gI dist v) {rp rh : List Int}
    (hp : RowI (fun y => y ∈ ([] : List Int) ∨ y = (x : Int)) rp) (hh : RowI (fun y => y ∈ ([] : List Int) ∨ Con R s x v y (fun k => k ∈ gL hops x)) rh) :
    At R N l s n x (k + 1) (dist.set v (gI dist x + c)) (hops.set v rh) (pars.set v rp) (ins.set v true) (keys.set v (tr R (v : Int) (gI dist x + c))) S (fun e => X e ∨ e = ((x : Int), (v : Int), c)) := by
  obtain ⟨f1, f2, f3, f4, f5, f6, f7, f8⟩ := h.facts hv hn he
  have hS : ¬ S (v : Int) := fun hS => by have := f8 hS; omega
  have hd' : dO dist (v : Int) < 0 ∨ T l s (x : Int) + c < dO dist (v : Int) := by rw [dO_nat]; omega
  have hb := h.sr.inv.before hv h.xS f1 (fun e => hS (e ▸ h.sr.inv.root.1)) hd'
  have hin := h.sr.inv.less hv h.xS hS f1 hd' h.far
  have hcg : ∀ y : Int, 0 ≤ y → y < R + N → dO (dist.set v (gI dist x + c)) y = nd (dO dist) (v : Int) (T l s (x : Int) + c) y := fun y h0 h1 => by
    obtain ⟨u, rfl⟩ : ∃ u : Nat, y = u := ⟨y.toNat, by omega⟩
    rw [dO_nat, gI_set (by rw [h.sr.ld]; exact f2)]
    unfold nd
    by_cases e : u = v
    · rw [if_pos e, if_pos (by omega), f6]
    · rw [if_neg e, if_neg (by omega), dO_nat]
  refine ⟨⟨hin.congrD hv ⟨hs.1, by have := hv.n; omega⟩ hcg, by simp [h.sr.ld], by simp [h.sr.lh], by simp [h.sr.lp], fun u hu => ?_, fun u hu => ?_⟩, ⟨by simp [h.qu.li], by simp [h.qu.lk], fun u hu => ?_, fun u hu hbu => ?_⟩, h.xn, h.xS, h.drop he, h.far, ?_⟩
  · have e1 : ∀ y, PX l s (fun e => X e ∨ e = ((x : Int), (v : Int), c)) (dO (dist.set v (gI dist x + c))) (u : Int) y ↔ PX l s (fun e => X e ∨ e = ((x : Int), (v : Int), c)) (nd (dO dist) (v : Int) (T l s (x : Int) + c)) (u : Int) y := fun y => by
      unfold PX; rw [hcg u (by omega) (by omega)]
    rw [gL_set (by rw [h.sr.lp]; exact f2)]
    by_cases e : u = v
    · subst e
      rw [if_pos rfl]
      refine hp.congr fun y => ?_
      rw [e1, PX.less hb, if_pos rfl]; simp
    · rw [if_neg e]
      refine (h.sr.hp u hu).congr fun y => ?_
      rw [e1, PX.less hb, if_neg (by omega)]
  · have e1 : ∀ y, HX R l s (fun e => X e ∨ e = ((x : Int), (v : Int), c)) (dO (dist.set v (gI dist x + c))) (u : Int) y ↔ HX R l s (fun e => X e ∨ e = ((x : Int), (v : Int), c)) (nd (dO dist) (v : Int) (T l s (x : Int) + c)) (u : Int) y := fun y => by
      unfold HX; rw [hcg u (by omega) (by omega)]
    rw [gL_set (by rw [h.sr.lh]; exact f2)]
    by_cases e : u = v
    · subst e
      rw [if_pos rfl]
      refine hh.congr fun y => ?_
      have : (fun k => k ∈ gL hops x) = Hop R l s (x : Int) := funext fun k => propext (h.hx.2 k)
      rw [e1, HX.less hb, if_pos rfl, this]; simp
    · rw [if_neg e]
      refine (h.sr.hh u hu).congr fun y => ?_
      rw [e1, HX.less hb, if_neg (by omega)]
  · rw [gB_set (by rw [h.qu.li]; exact f2), gI_set (by rw [h.sr.ld]; exact f2)]
    by_cases e : u = v
    · subst e; rw [if_pos rfl, if_pos rfl]; simp [hS]; omega
    · rw [if_neg e, if_neg e]; exact h.qu.i u hu
  · rw [gB_set (by rw [h.qu.li]; exact f2)] at hbu
    rw [gI_set (by rw [h.qu.lk]; exact f2), gI_set (by rw [h.sr.ld]; exact f2)]
    by_cases e : u = v
    · subst e; rw [if_pos rfl, if_pos rfl]
    · rw [if_neg e] at hbu ⊢; rw [if_neg e]; exact h.qu.k u hu hbu
  · rw [gL_set (by rw [h.sr.lh]; exact f2), if_neg (Ne.symm f3)]; exact h.hx
end
end Go.Proofs.Ytmbogobebllheaa.SP
namespace Go.Proofs.Ytmbogobebllheaa.SP
open GM Classical
set_option linter.unusedVariables false
set_option linter.unusedSimpArgs false

/-- a way with nodes below m between -/
inductive WI (l : List E) (m : Int) : Int → Int → Int → Prop
  | nil {i : Int} : WI l m i i 0
  | edge {i k c : Int} (he : (i, k, c) ∈ l) : WI l m i k c
  | cat {i j k a b : Int} (h : WI l m i j a) (g : WI l m j k b) (hj : j < m) : WI l m i k (a + b)
section
variable {R N : Int} {l : List E} (hv : Valid R N l)
include hv
theorem WI.nonneg {m i k c : Int} (h : WI l m i k c) : 0 ≤ c := by
  induction h with
  | nil => omega
  | edge he => have := SP.edge hv he; omega
  | cat h g hj ih1 ih2 => omega
theorem WI.node {m i k c : Int} (h : WI l m i k c) (hn : 0 ≤ i ∧ i < R + N) : 0 ≤ k ∧ k < R + N := by
  induction h with
  | nil => exact hn
  | edge he => have := SP.edge hv he; omega
  | cat h g hj ih1 ih2 => exact ih2 (ih1 hn)
omit hv in
theorem WI.way {m i k c : Int} (h : WI l m i k c) : W l i k c := by
  induction h with
  | nil => exact W.nil
  | edge he => have := W.step W.nil he; rwa [Int.zero_add] at this
  | cat h g hj ih1 ih2 => exact ih1.trans ih2
theorem WI.of {i k c : Int} (h : W l i k c) : WI l (R + N) i k c := by
  induction h with
  | nil => exact WI.nil
  | step h he ih => exact WI.cat ih (WI.edge he) (SP.edge hv he).2.1
/-- one more node between -/
theorem WI.more {m i k c : Int} (h : WI l (m + 1) i k c) : (∃ d, WI l m i k d ∧ d ≤ c) ∨ ∃ a b, WI l m i m a ∧ WI l m m k b ∧ a + b ≤ c := by
  induction h with
  | nil => exact .inl ⟨0, WI.nil, Int.le_refl _⟩
  | edge he => exact .inl ⟨_, WI.edge he, Int.le_refl _⟩
  | cat h g hj ih1 ih2 =>
    rename_i i j k a b
    by_cases e : j = m
    · subst e
      obtain ⟨a1, h1, h2⟩ : ∃ a1, WI l j i j a1 ∧ a1 ≤ a := by
        rcases ih1 with ⟨d, h1, h2⟩ | ⟨x, y, h1, h2, h3⟩
        · exact ⟨d, h1, h2⟩
        · have := h2.nonneg hv; exact ⟨x, h1, by omega⟩
      obtain ⟨b1, h3, h4⟩ : ∃ b1, WI l j j k b1 ∧ b1 ≤ b := by
        rcases ih2 with ⟨d, h1, h2⟩ | ⟨x, y, h1, h2, h3⟩
        · exact ⟨d, h1, h2⟩
        · have := h1.nonneg hv; exact ⟨y, h2, by omega⟩
      exact .inr ⟨a1, b1, h1, h3, by omega⟩
    · have hjm : j < m := by omega
      rcases ih1 with ⟨d, h1, h2⟩ | ⟨x, y, h1, h2, h3⟩
      · rcases ih2 with ⟨d', h1', h2'⟩ | ⟨x', y', h1', h2', h3'⟩
        · exact .inl ⟨d + d', WI.cat h1 h1' hjm, by omega⟩
        · exact .inr ⟨d + x', y', WI.cat h1 h1' hjm, h2', by omega⟩
      · rcases ih2 with ⟨d', h1', h2'⟩ | ⟨x', y', h1', h2', h3'⟩
        · exact .inr ⟨x, y + d', h1, WI.cat h2 h1' hjm, by omega⟩
        · have := h2.nonneg hv
          have := h1'.nonneg hv
          exact .inr ⟨x, y', h1, h2', by omega⟩
end
/-- no entry is better than a way -/
def GoodA (R N : Int) (l : List E) (D : Int → Int → Int) : Prop := ∀ i k, 0 ≤ i → i < R + N → 0 ≤ k → k < R + N → (0 ≤ D i k ∧ W l i k (D i k)) ∨ D i k = -1
/-- an entry is as good as every way with nodes below m between -/
def AtM (l : List E) (m : Int) (D : Int → Int → Int) (i k : Int) : Prop := ∀ c, WI l m i k c → 0 ≤ D i k ∧ D i k ≤ c
def put2 (D : Int → Int → Int) (i k x : Int) : Int → Int → Int := fun a b => if a = i ∧ b = k then x else D a b
def start2 (l : List E) : Int → Int → Int := fun i k => if i = k then 0 else match l.find? (fun e => decide (e.1 = i ∧ e.2.1 = k)) with
  | none => -1
  | some e => e.2.2
section
variable {R N : Int} {l : List E} (hv : Valid R N l) {D : Int → Int → Int} {m i k : Int}
include hv
omit hv in
theorem GoodA.put (h : GoodA R N l D) (hi : 0 ≤ i ∧ i < R + N) (hm : 0 ≤ m ∧ m < R + N) (hk : 0 ≤ k ∧ k < R + N) (h1 : 0 ≤ D i m) (h2 : 0 ≤ D m k) : GoodA R N l (put2 D i k (D i m + D m k)) := fun a b a0 a1 b0 b1 => by
  unfold put2
  split
  · rename_i e
    obtain ⟨rfl, rfl⟩ := e
    rcases h a m a0 a1 hm.1 hm.2 with ⟨_, h3⟩ | h3
    · rcases h m b hm.1 hm.2 b0 b1 with ⟨_, h4⟩ | h4
      · exact .inl ⟨by omega, h3.trans h4⟩
      · omega
    · omega
  · exact h a b a0 a1 b0 b1
omit hv in
theorem AtM.put {m' : Int} {a b x : Int} (h : AtM l m' D a b) (hx : 0 ≤ x) (hb : D i k < 0 ∨ x < D i k) : AtM l m' (put2 D i k x) a b := fun c hc => by
  have := h c hc
  unfold put2
  split
  · rename_i e
    obtain ⟨rfl, rfl⟩ := e
    omega
  · exact this
/-- behind a round an entry is as good as with one more node between -/
theorem AtM.next (h : AtM l m D i k) (h1 : AtM l m D i m) (h2 : AtM l m D m k) (hs : 0 ≤ D i m → 0 ≤ D m k → 0 ≤ D i k ∧ D i k ≤ D i m + D m k) : AtM l (m + 1) D i k := fun c hc => by
  rcases hc.more hv with ⟨d, h3, h4⟩ | ⟨a, b, h3, h4, h5⟩
  · have := h d h3; omega
  · have a1 := h1 a h3
    have a2 := h2 b h4
    have := hs a1.1 a2.1
    omega
theorem AtM.nextPut (h : AtM l m D i k) (h1 : AtM l m D i m) (h2 : AtM l m D m k) (p1 : 0 ≤ D i m) (p2 : 0 ≤ D m k) (hb : D i k < 0 ∨ D i m + D m k < D i k) : AtM l (m + 1) (put2 D i k (D i m + D m k)) i k := fun c hc => by
  have e : put2 D i k (D i m + D m k) i k = D i m + D m k := by unfold put2; rw [if_pos ⟨rfl, rfl⟩]
  rw [e]
  rcases hc.more hv with ⟨d, h3, h4⟩ | ⟨a, b, h3, h4, h5⟩
  · have := h d h3; omega
  · have a1 := h1 a h3
    have a2 := h2 b h4
    omega
omit hv in
theorem find_edge {i k : Int} : (∃ c, (i, k, c) ∈ l ∧ l.find? (fun e => decide (e.1 = i ∧ e.2.1 = k)) = some (i, k, c)) ∨ ((∀ c, (i, k, c) ∉ l) ∧ l.find? (fun e => decide (e.1 = i ∧ e.2.1 = k)) = none) := by
  cases hf : l.find? (fun e => decide (e.1 = i ∧ e.2.1 = k)) with
  | none =>
    refine .inr ⟨fun c hc => ?_, rfl⟩
    have := List.find?_eq_none.1 hf _ hc
    simp at this
  | some e =>
    have h1 := List.find?_some hf
    have h2 := List.mem_of_find?_eq_some hf
    simp at h1
    obtain ⟨a, b, c⟩ := e
    obtain ⟨rfl, rfl⟩ := h1
    exact .inl ⟨c, h2, rfl⟩
theorem edge_one {i k c d : Int} (h1 : (i, k, c) ∈ l) (h2 : (i, k, d) ∈ l) : c = d := by
  obtain ⟨p, hp⟩ := List.getElem?_of_mem h1
  obtain ⟨q, hq⟩ := List.getElem?_of_mem h2
  obtain ⟨p1, p2⟩ := List.getElem?_eq_some_iff.1 hp
  obtain ⟨q1, q2⟩ := List.getElem?_eq_some_iff.1 hq
  have irr : ∀ a b : Int, ¬ bef (i, k, a) (i, k, b) = true := fun a b h => by rw [bef_iff] at h; dsimp only at h; omega
  rcases Nat.lt_trichotomy p q with e | e | e
  · have := List.pairwise_iff_getElem.1 hv.asc p q p1 q1 e
    rw [p2, q2] at this; exact absurd this (irr _ _)
  · subst e; rw [hp] at hq; cases hq; rfl
  · have := List.pairwise_iff_getElem.1 hv.asc q p q1 p1 e
    rw [p2, q2] at this; exact absurd this (irr _ _)
theorem start_good : GoodA R N l (start2 l) := fun i k i0 i1 k0 k1 => by
  unfold start2
  by_cases e : i = k
  · subst e; rw [if_pos rfl]; exact .inl ⟨Int.le_refl _, W.nil⟩
  · rw [if_neg e]
    rcases find_edge (i := i) (k := k) with ⟨c, h1, h2⟩ | ⟨h1, h2⟩
    · rw [h2]
      have := W.step W.nil h1
      rw [Int.zero_add] at this
      exact .inl ⟨(edge hv h1).2.2.2.2.2.1, this⟩
    · rw [h2]; exact .inr rfl
theorem WI.zero {i k c : Int} (h : WI l 0 i k c) (hi : 0 ≤ i ∧ i < R + N) : (i = k ∧ c = 0) ∨ (i, k, c) ∈ l := by
  induction h with
  | nil => exact .inl ⟨rfl, rfl⟩
  | edge he => exact .inr he
  | cat h g hj ih1 ih2 => have := WI.node hv h hi; omega
theorem start_at (i k : Int) (hi : 0 ≤ i ∧ i < R + N) : AtM l 0 (start2 l) i k := fun c hc => by
  unfold start2
  rcases hc.zero hv hi with ⟨rfl, rfl⟩ | h
  · rw [if_pos rfl]; exact ⟨Int.le_refl _, Int.le_refl _⟩
  · have hed := edge hv h
    rw [if_neg hed.2.2.2.2.1]
    rcases find_edge (i := i) (k := k) with ⟨c', h1, h2⟩ | ⟨h1, h2⟩
    · rw [h2, edge_one hv h h1]
      exact ⟨(edge hv h1).2.2.2.2.2.1, Int.le_refl _⟩
    · exact absurd h (h1 c)
theorem dist_of (h : GoodA R N l D) (ha : ∀ i k, 0 ≤ i → i < R + N → 0 ≤ k → k < R + N → AtM l (R + N) D i k) {i k : Int} (i0 : 0 ≤ i) (i1 : i < R + N) (k0 : 0 ≤ k) (k1 : k < R + N) : D i k = T l i k := by
  rcases h i k i0 i1 k0 k1 with ⟨h1, h2⟩ | h1
  · exact (T_of ⟨h2, fun e he => (ha i k i0 i1 k0 k1 e (WI.of hv he)).2⟩).symm
  · rcases T_cases hv i k with ⟨h2, _⟩ | ⟨h2, h3⟩
    · omega
    · have := ha i k i0 i1 k0 k1 _ (WI.of hv h3.1); omega
end
end Go.Proofs.Ytmbogobebllheaa.SP
namespace Go.Proofs.Ytmbogobebllheaa.SP
open GM HM Classical
set_option linter.unusedVariables false
set_option linter.unusedSimpArgs false

/-- the numbers below n that P chooses -/
def rowF (n : Nat) (P : Int → Bool) : List Int := ((List.range n).filter (fun k : Nat => P (k : Int))).map (fun k : Nat => (k : Int))
theorem mem_rowF {n : Nat} {P : Int → Bool} {x : Int} : x ∈ rowF n P ↔ (0 ≤ x ∧ x < n) ∧ P x = true := by
  unfold rowF
  simp only [List.mem_map, List.mem_filter, List.mem_range]
  constructor
  · rintro ⟨k, ⟨h1, h2⟩, rfl⟩; exact ⟨⟨by omega, by omega⟩, h2⟩
  · rintro ⟨⟨h0, h1⟩, h2⟩; exact ⟨x.toNat, ⟨by omega, by rwa [Int.toNat_of_nonneg h0]⟩, by omega⟩
theorem rowF_row {n : Nat} {P : Int → Bool} {Q : Int → Prop} (h : ∀ x : Int, Q x → 0 ≤ x ∧ x < n) (he : ∀ x : Int, 0 ≤ x → x < n → (P x = true ↔ Q x)) : RowI Q (rowF n P) := by
  refine ⟨?_, fun x => ?_⟩
  · unfold rowF
    rw [List.pairwise_map]
    exact (List.Pairwise.filter _ List.pairwise_lt_range).imp fun h => by omega
  · rw [mem_rowF]
    constructor
    · rintro ⟨h1, h2⟩; exact (he x h1.1 h1.2).1 h2
    · intro hq; exact ⟨h x hq, (he x (h x hq).1 (h x hq).2).2 hq⟩
theorem rowF_congr {n : Nat} {P P' : Int → Bool} (h : ∀ x : Int, 0 ≤ x → x < n → P x = P' x) : rowF n P = rowF n P' := by
  unfold rowF
  congr 1
  refine List.filter_congr fun k hk => ?_
  have := List.mem_range.1 hk
  exact h k (by omega) (by omega)
def parB (l : List E) (t : Int → Int → Int) (s v u : Int) : Bool := l.any (fun e => decide (e.1 = u ∧ e.2.1 = v ∧ 0 ≤ t s u ∧ t s u + e.2.2 = t s v))
def firB (R : Int) (l : List E) (t : Int → Int → Int) (s h : Int) : Bool :=
  decide (h ≠ s ∧ 0 ≤ t s h) && (l.any (fun e => decide (e = (s, h, t s h))) || (decide (h < R) && l.any (fun e => decide (e.1 = s ∧ R ≤ e.2.1 ∧ e.2.2 = t s e.2.1 ∧ t s e.2.1 = t s h) && l.any (fun f => decide (f = (e.2.1, h, 0))))))
def hopB (R : Int) (l : List E) (t : Int → Int → Int) (s v h : Int) : Bool :=
  decide (v ≠ s ∧ 0 ≤ t s v) && firB R l t s h && (decide (h = v) || decide (h < R ∧ 0 ≤ t h v ∧ t s h + t h v = t s v))
section
variable {R N : Int} {l : List E} (hv : Valid R N l) {s : Int} (hs : 0 ≤ s ∧ s < R) {n : Nat} (hn : (n : Int) = R + N) {t : Int → Int → Int} (ht : ∀ i k : Int, 0 ≤ i → i < n → 0 ≤ k → k < n → t i k = T l i k)
include hv hs hn ht
theorem parB_iff {v u : Int} (h0 : 0 ≤ v ∧ v < n) (h1 : 0 ≤ u ∧ u < n) : parB l t s v u = true ↔ Par l s v u := by
  unfold parB Par
  have := hv.n
  rw [List.any_eq_true]
  rw [ht s u hs.1 (by omega) h1.1 h1.2, ht s v hs.1 (by omega) h0.1 h0.2]
  constructor
  · rintro ⟨⟨a, b, c⟩, h2, h3⟩
    obtain ⟨rfl, rfl, h4, h5⟩ := of_decide_eq_true h3
    exact ⟨c, h2, h4, h5⟩
  · rintro ⟨c, h2, h3, h4⟩; exact ⟨_, h2, decide_eq_true ⟨rfl, rfl, h3, h4⟩⟩
theorem firB_iff {h : Int} (h0 : 0 ≤ h ∧ h < n) : firB R l t s h = true ↔ First R l s h := by
  unfold firB First
  have hN := hv.n
  have hsh := ht s h hs.1 (by omega) h0.1 h0.2
  rw [Bool.and_eq_true, Bool.or_eq_true, Bool.and_eq_true, List.any_eq_true, List.any_eq_true, hsh]
  constructor
  · rintro ⟨h1, h2⟩
    obtain ⟨h3, h4⟩ := of_decide_eq_true h1
    refine ⟨h3, h4, ?_⟩
    rcases h2 with ⟨e, h5, h6⟩ | ⟨h5, e, h6, h7⟩
    · have := of_decide_eq_true h6; subst this; exact .inl h5
    · rw [Bool.and_eq_true, List.any_eq_true] at h7
      obtain ⟨h8, f, h9, h10⟩ := h7
      have h11 := of_decide_eq_true h10
      subst h11
      obtain ⟨a, b, c⟩ := e
      have h12 := edge hv h6
      have hb := ht s b hs.1 (by omega) h12.2.2.1 (by omega)
      obtain ⟨h13, h14, h15, h16⟩ := of_decide_eq_true h8
      dsimp only at h13 h14 h15 h16 h9
      rw [hb] at h15 h16
      subst h13 h15
      exact .inr ⟨of_decide_eq_true h5, b, h14, h6, h16, h9⟩
  · rintro ⟨h3, h4, h5⟩
    refine ⟨decide_eq_true ⟨h3, h4⟩, ?_⟩
    rcases h5 with h5 | ⟨h5, w, h6, h7, h8, h9⟩
    · exact .inl ⟨_, h5, decide_eq_true rfl⟩
    · have h12 := edge hv h7
      have hb := ht s w hs.1 (by omega) h12.2.2.1 (by omega)
      refine .inr ⟨decide_eq_true h5, _, h7, ?_⟩
      rw [Bool.and_eq_true, List.any_eq_true]
      exact ⟨decide_eq_true ⟨rfl, h6, hb.symm, by rw [hb, h8]⟩, _, h9, decide_eq_true rfl⟩
theorem hopB_iff {v h : Int} (h0 : 0 ≤ v ∧ v < n) (h1 : 0 ≤ h ∧ h < n) : hopB R l t s v h = true ↔ Hop R l s v h := by
  unfold hopB Hop
  have hN := hv.n
  rw [Bool.and_eq_true, Bool.and_eq_true, Bool.or_eq_true, firB_iff hv hs hn ht h1, decide_eq_true_eq, decide_eq_true_eq, decide_eq_true_eq, ht s v hs.1 (by omega) h0.1 h0.2, ht h v h1.1 h1.2 h0.1 h0.2, ht s h hs.1 (by omega) h1.1 h1.2, and_assoc, and_assoc]
omit hs ht in
theorem Par.node {v u : Int} (h : Par l s v u) : 0 ≤ u ∧ u < n := by
  obtain ⟨c, h1, _⟩ := h
  have := edge hv h1; omega
omit ht in
theorem Hop.node {v h : Int} (hh : Hop R l s v h) : 0 ≤ h ∧ h < n := by
  have := hv.n
  have := (T_way hv hh.2.2.1.2.1).1.node hv (by omega)
  omega
/-- the tree by a table of distances -/
theorem tree_of : Tree R N l s n ((List.range n).map fun v : Nat => t s (v : Int)) ((List.range n).map fun v : Nat => rowF n (hopB R l t s (v : Int))) ((List.range n).map fun v : Nat => rowF n (parB l t s (v : Int))) := by
  have hN := hv.n
  refine ⟨by simp, by simp, by simp, fun v h => ?_, fun v h => ?_, fun v h => ?_⟩
  · unfold gI; simp [h]; exact ht s v hs.1 (by omega) (by omega) (by omega)
  · have e : gL ((List.range n).map fun v : Nat => rowF n (parB l t s (v : Int))) v = rowF n (parB l t s (v : Int)) := by unfold gL; simp [h]
    rw [e]
    exact rowF_row (fun x hx => Par.node hv hn hx) fun x h1 h2 => parB_iff hv hs hn ht ⟨by omega, by omega⟩ ⟨h1, h2⟩
  · have e : gL ((List.range n).map fun v : Nat => rowF n (hopB R l t s (v : Int))) v = rowF n (hopB R l t s (v : Int)) := by unfold gL; simp [h]
    rw [e]
    exact rowF_row (fun x hx => Hop.node hv hs hn hx) fun x h1 h2 => hopB_iff hv hs hn ht ⟨by omega, by omega⟩ ⟨h1, h2⟩
end
/-- a table -/
def tb (tab : List (List Int)) (i k : Int) : Int := gI (gL tab i.toNat) k.toNat
def certB (n : Nat) (l : List E) (tab : List (List Int)) : Bool := (List.range n).all fun i : Nat =>
  decide (tb tab i i = 0) && l.all (fun e => decide (tb tab i e.1 < 0) || decide (0 ≤ tb tab i e.2.1 ∧ tb tab i e.2.1 ≤ tb tab i e.1 + e.2.2)) &&
    (List.range n).all (fun v : Nat => decide (v = i) || decide (tb tab i v = -1) || (decide (0 ≤ tb tab i v) && l.any (fun e => decide (e.2.1 = (v : Int) ∧ 0 ≤ tb tab i e.1 ∧ tb tab i e.1 + e.2.2 = tb tab i v))))
theorem cert_T {R N : Int} {l : List E} (hv : Valid R N l) {n : Nat} (hn : (n : Int) = R + N) {tab : List (List Int)} (hc : certB n l tab = true) : ∀ i k : Int, 0 ≤ i → i < n → 0 ≤ k → k < n → tb tab i k = T l i k := by
  intro i k i0 i1 k0 k1
  obtain ⟨i, rfl⟩ : ∃ j : Nat, i = j := ⟨i.toNat, by omega⟩
  unfold certB at hc
  have h := List.all_eq_true.1 hc i (List.mem_range.2 (by omega))
  rw [Bool.and_eq_true, Bool.and_eq_true] at h
  obtain ⟨⟨ha, hb⟩, hd⟩ := h
  have ha := of_decide_eq_true ha
  have low : ∀ v d, W l (i : Int) v d → 0 ≤ tb tab i v ∧ tb tab i v ≤ d := by
    intro v d hw
    induction hw with
    | nil => rw [ha]; omega
    | step hw he ih =>
      rename_i u v c d
      have := List.all_eq_true.1 hb _ he
      rw [Bool.or_eq_true, decide_eq_true_eq, decide_eq_true_eq] at this
      dsimp only at this
      omega
  have up : ∀ m : Nat, ∀ v : Int, 0 ≤ v → v < n → 0 ≤ tb tab i v → (tr R v (tb tab i v)).toNat ≤ m → W l (i : Int) v (tb tab i v) := by
    intro m
    induction m with
    | zero =>
      intro v v0 v1 hv0 hm
      obtain ⟨v, rfl⟩ : ∃ j : Nat, v = j := ⟨v.toNat, by omega⟩
      have h := List.all_eq_true.1 hd v (List.mem_range.2 (by omega))
      rw [Bool.or_eq_true, Bool.or_eq_true, Bool.and_eq_true, List.any_eq_true, decide_eq_true_eq, decide_eq_true_eq, decide_eq_true_eq] at h
      rcases h with (h | h) | ⟨_, ⟨a, b, c⟩, h1, h2⟩
      · subst h; rw [ha]; exact W.nil
      · omega
      · obtain ⟨rfl, h3, h4⟩ := of_decide_eq_true h2
        dsimp only at h3 h4
        have h5 := tr_edge hv h1 (tb tab i a)
        rw [h4] at h5
        have : 0 ≤ tr R a (tb tab i a) := by unfold tr; split <;> omega
        omega
    | succ m ih =>
      intro v v0 v1 hv0 hm
      obtain ⟨v, rfl⟩ : ∃ j : Nat, v = j := ⟨v.toNat, by omega⟩
      have h := List.all_eq_true.1 hd v (List.mem_range.2 (by omega))
      rw [Bool.or_eq_true, Bool.or_eq_true, Bool.and_eq_true, List.any_eq_true, decide_eq_true_eq, decide_eq_true_eq, decide_eq_true_eq] at h
      rcases h with (h | h) | ⟨_, ⟨a, b, c⟩, h1, h2⟩
      · subst h; rw [ha]; exact W.nil
      · omega
      · obtain ⟨rfl, h3, h4⟩ := of_decide_eq_true h2
        dsimp only at h3 h4
        have h5 := tr_edge hv h1 (tb tab i a)
        rw [h4] at h5
        have h6 : 0 ≤ tr R a (tb tab i a) := by unfold tr; split <;> omega
        have hed := edge hv h1
        have := (ih a hed.1 (by omega) h3 (by omega)).step h1
        rwa [h4] at this
  by_cases h : 0 ≤ tb tab i k
  · exact (T_of ⟨up _ k k0 k1 h (Nat.le_refl _), fun e he => (low k e he).2⟩).symm
  · have hk : tb tab i k = -1 := by
      obtain ⟨k, rfl⟩ : ∃ j : Nat, k = j := ⟨k.toNat, by omega⟩
      have h' := List.all_eq_true.1 hd k (List.mem_range.2 (by omega))
      rw [Bool.or_eq_true, Bool.or_eq_true, Bool.and_eq_true, List.any_eq_true, decide_eq_true_eq, decide_eq_true_eq, decide_eq_true_eq] at h'
      rcases h' with (h' | h') | ⟨h', _⟩
      · subst h'; omega
      · exact h'
      · exact absurd h' h
    rcases T_cases hv i k with ⟨h1, _⟩ | ⟨_, h1⟩
    · omega
    · exact absurd (low k _ h1.1).1 h
/-- the examples of the document -/
def ringL : List E := [(0, 1, 1), (0, 3, 1), (1, 0, 1), (1, 2, 1), (2, 1, 1), (2, 3, 1), (3, 0, 1), (3, 2, 1)]
theorem ring_valid : Valid 4 0 ringL := chk_iff.1 (by decide)
theorem ring_tree : Tree 4 0 ringL 0 4 [0, 1, 2, 1] [[], [1], [1, 3], [3]] [[], [0], [1, 3], [0]] := by
  have h := tree_of ring_valid (s := 0) (by omega) (n := 4) rfl (cert_T ring_valid (n := 4) rfl (tab := [[0, 1, 2, 1], [1, 0, 1, 2], [2, 1, 0, 1], [1, 2, 1, 0]]) (by decide))
  have e1 : ((List.range 4).map fun v : Nat => tb [[0, 1, 2, 1], [1, 0, 1, 2], [2, 1, 0, 1], [1, 2, 1, 0]] 0 (v : Int)) = [0, 1, 2, 1] := by decide
  have e2 : ((List.range 4).map fun v : Nat => rowF 4 (hopB 4 ringL (tb [[0, 1, 2, 1], [1, 0, 1, 2], [2, 1, 0, 1], [1, 2, 1, 0]]) 0 (v : Int))) = [[], [1], [1, 3], [3]] := by decide
  have e3 : ((List.range 4).map fun v : Nat => rowF 4 (parB ringL (tb [[0, 1, 2, 1], [1, 0, 1, 2], [2, 1, 0, 1], [1, 2, 1, 0]]) 0 (v : Int))) = [[], [0], [1, 3], [0]] := by decide
  rw [e1, e2, e3] at h
  exact h
end Go.Proofs.Ytmbogobebllheaa.SP
namespace Go.Proofs.Ytmbogobebllheaa.SP
open GM HM Classical
set_option linter.unusedVariables false
set_option linter.unusedSimpArgs false

/-- v lies on a shortest path from s to z -/
def On (l : List E) (s z v : Int) : Prop := 0 ≤ T l s v ∧ 0 ≤ T l v z ∧ T l s v + T l v z = T l s z
theorem W.front {l : List E} {u z d : Int} (h : W l u z d) : (u = z ∧ d = 0) ∨ ∃ v c e, (u, v, c) ∈ l ∧ W l v z e ∧ d = c + e := by
  induction h with
  | nil => exact .inl ⟨rfl, rfl⟩
  | step h he ih =>
    rename_i a b c d
    rcases ih with ⟨rfl, rfl⟩ | ⟨v, c', e, h1, h2, h3⟩
    · exact .inr ⟨_, _, 0, he, W.nil, by omega⟩
    · exact .inr ⟨v, c', e + c, h1, h2.step he, by omega⟩
section
variable {R N : Int} {l : List E} (hv : Valid R N l) {s z : Int}
include hv
theorem On.end_ (h : 0 ≤ T l s z) : On l s z z := by
  have := T_self hv z
  exact ⟨h, by omega, by omega⟩
theorem On.start (h : 0 ≤ T l s z) : On l s z s := by
  have := T_self hv s
  exact ⟨by omega, h, by omega⟩
theorem On.back {v u : Int} (h : On l s z v) (hp : Par l s v u) : On l s z u := by
  obtain ⟨c, h1, h2, h3⟩ := hp
  have h4 := T_le hv ((W.step W.nil h1).trans (T_way hv h.2.1).1)
  rw [Int.zero_add] at h4
  have h5 := T_tri hv h2 h4.1
  obtain ⟨_, h6, h7⟩ := h
  exact ⟨h2, h4.1, by omega⟩
theorem On.fwd {u : Int} (h : On l s z u) (hne : u ≠ z) : ∃ v, On l s z v ∧ Par l s v u := by
  rcases (T_way hv h.2.1).1.front with ⟨h1, _⟩ | ⟨v, c, e, h1, h2, h3⟩
  · exact absurd h1 hne
  · have h4 := T_edge hv h.1 h1
    have h5 := T_le hv h2
    have h6 := T_tri hv h4.1 h5.1
    have h7 := h.2.2
    exact ⟨v, ⟨h4.1, h5.1, by omega⟩, c, h1, h.1, by omega⟩
theorem On.turn {u v : Int} (hp : Par l s v u) : tr R u (T l s u) < tr R v (T l s v) := by
  obtain ⟨c, h1, h2, h3⟩ := hp
  have := tr_edge hv h1 (T l s u)
  rwa [h3] at this
theorem On.last {v : Int} (h : On l s z v) : ¬ Par l s v z := fun hp => by
  have h1 := On.turn hv hp
  have h2 := tr_way hv (T_way hv h.2.1).1 (T l s v)
  rw [h.2.2] at h2
  omega
theorem On.node {v : Int} (hs : 0 ≤ s ∧ s < R + N) (h : On l s z v) : 0 ≤ v ∧ v < R + N := (T_way hv h.1).1.node hv hs
end
/-- the nodes that were reached from the end, the first k of them followed, of the last one the parents before place j -/
structure Nx (l : List E) (s z : Int) (q : List Int) (k : Nat) (next : Int → List Int) : Prop where
  nd : q.Nodup
  hd : q[0]? = some z
  on : ∀ v ∈ q, On l s z v
  nx : ∀ p, next p = (q.take k).filter (fun v => decide (Par l s v p))
  inq : ∀ p, p ∈ q ↔ p = z ∨ next p ≠ []
/-- the parents of v before place j have v behind them -/
structure Nj (l : List E) (s z : Int) (v : Int) (ps : List Int) (j : Nat) (q : List Int) (k : Nat) (next : Int → List Int) : Prop where
  nd : q.Nodup
  hd : q[0]? = some z
  on : ∀ v ∈ q, On l s z v
  kv : q[k]? = some v
  nx : ∀ p, next p = (q.take k).filter (fun u => decide (Par l s u p)) ++ (if p ∈ ps.take j then [v] else [])
  inq : ∀ p, p ∈ q ↔ p = z ∨ next p ≠ []
section
variable {R N : Int} {l : List E} (hv : Valid R N l) {s z : Int} {q : List Int} {k : Nat} {next : Int → List Int}
omit hv in
theorem Nx.go (h : Nx l s z q k next) {v : Int} (hk : q[k]? = some v) (ps : List Int) : Nj l s z v ps 0 q k next :=
  ⟨h.nd, h.hd, h.on, hk, fun p => by rw [h.nx p]; simp, h.inq⟩
theorem Nj.last {v : Int} {ps : List Int} (hp : RowI (Par l s v) ps) (h : Nj l s z v ps ps.length q k next) : Nx l s z q (k + 1) next :=
  ⟨h.nd, h.hd, h.on, fun p => by
    have e : q.take (k + 1) = q.take k ++ [v] := by rw [List.take_add_one, h.kv]; rfl
    rw [h.nx p, e, List.filter_append, List.take_length]
    congr 1
    by_cases hpp : p ∈ ps
    · rw [if_pos hpp]; simp [(hp.2 p).1 hpp]
    · rw [if_neg hpp]; have : ¬ Par l s v p := fun h' => hpp ((hp.2 p).2 h'); simp [this], h.inq⟩
include hv
/-- one parent more -/
theorem Nj.step {v p : Int} {ps : List Int} {j : Nat} (hp : RowI (Par l s v) ps) (hj : ps[j]? = some p) (h : Nj l s z v ps j q k next) :
    Nj l s z v ps (j + 1) (if next p = [] then q ++ [p] else q) k (fun u => if u = p then next p ++ [v] else next u) := by
  have hpar : Par l s v p := (hp.2 p).1 (List.mem_of_getElem? hj)
  have hvq : v ∈ q := List.mem_of_getElem? h.kv
  have hon := (h.on v hvq).back hv hpar
  have hpz : p ≠ z := fun e => (h.on v hvq).last hv (e ▸ hpar)
  have hkl := (List.getElem?_eq_some_iff.1 h.kv).1
  have hjl := (List.getElem?_eq_some_iff.1 hj).1
  have hpj : p ∉ ps.take j := fun hm => by
    obtain ⟨i, hi⟩ := List.getElem?_of_mem hm
    have hil := (List.getElem?_eq_some_iff.1 hi).1
    rw [List.getElem?_take] at hi
    have hij : i < j := by simp at hil; omega
    rw [if_pos hij] at hi
    obtain ⟨h1, h2⟩ := List.getElem?_eq_some_iff.1 hi
    obtain ⟨h3, h4⟩ := List.getElem?_eq_some_iff.1 hj
    have := List.pairwise_iff_getElem.1 hp.1 i j h1 h3 hij
    rw [h2, h4] at this
    omega
  have tk : ∀ _u : Int, (if next p = [] then q ++ [p] else q).take k = q.take k := fun _ => by
    split
    · rw [List.take_append_of_le_length (by omega)]
    · rfl
  have ej : ps.take (j + 1) = ps.take j ++ [p] := by rw [List.take_add_one, hj]; rfl
  refine ⟨?_, ?_, ?_, ?_, fun u => ?_, fun u => ?_⟩
  · split
    · rename_i hn
      refine List.nodup_append.2 ⟨h.nd, by simp, fun a ha b hb => ?_⟩
      simp at hb; subst hb
      rintro rfl
      rcases (h.inq a).1 ha with h1 | h1
      · exact hpz h1
      · exact h1 hn
    · exact h.nd
  · split
    · rw [List.getElem?_append_left (by omega)]; exact h.hd
    · exact h.hd
  · intro u hu
    split at hu
    · rcases List.mem_append.1 hu with hu | hu
      · exact h.on u hu
      · simp at hu; subst hu; exact hon
    · exact h.on u hu
  · split
    · rw [List.getElem?_append_left (by omega)]; exact h.kv
    · exact h.kv
  · rw [tk u, ej]
    by_cases e : u = p
    · subst e
      rw [if_pos rfl, h.nx u, if_neg hpj, if_pos (by simp), List.append_nil]
    · rw [if_neg e, h.nx u]
      simp [e]
  · by_cases e : u = p
    · subst e
      rw [if_pos rfl]
      simp
      split
      · simp
      · rename_i hn; exact (h.inq u).2 (.inr hn)
    · rw [if_neg e]
      split
      · rw [List.mem_append]; simp [e]; exact h.inq u
      · exact h.inq u
omit hv in
theorem Nx.start (hv : Valid R N l) (h : 0 ≤ T l s z) : Nx l s z [z] 0 (fun _ => []) :=
  ⟨by simp, rfl, fun v hm => by simp at hm; subst hm; exact On.end_ hv h, fun p => by simp, fun p => by simp⟩
/-- when all are followed, behind a node stand those that follow it on a shortest path -/
theorem Nx.all (h : Nx l s z q q.length next) (u v : Int) : v ∈ next u ↔ On l s z v ∧ Par l s v u := by
  have key : ∀ m : Nat, ∀ u, On l s z u → (tr R z (T l s z) - tr R u (T l s u)).toNat ≤ m → u ∈ q := by
    intro m
    induction m with
    | zero =>
      intro u hu hm
      by_cases e : u = z
      · exact (h.inq u).2 (.inl e)
      · obtain ⟨v, h1, h2⟩ := hu.fwd hv e
        have h3 := On.turn hv h2
        have h4 := tr_way hv (T_way hv h1.2.1).1 (T l s v)
        rw [h1.2.2] at h4
        omega
    | succ m ih =>
      intro u hu hm
      by_cases e : u = z
      · exact (h.inq u).2 (.inl e)
      · obtain ⟨v, h1, h2⟩ := hu.fwd hv e
        have h3 := On.turn hv h2
        have h4 := tr_way hv (T_way hv h1.2.1).1 (T l s v)
        rw [h1.2.2] at h4
        have hq := ih v h1 (by omega)
        refine (h.inq u).2 (.inr ?_)
        rw [h.nx u, List.take_length]
        intro hn
        have : v ∈ q.filter (fun v => decide (Par l s v u)) := List.mem_filter.2 ⟨hq, by simpa using h2⟩
        rw [hn] at this; cases this
  rw [h.nx u, List.take_length, List.mem_filter]
  simp only [decide_eq_true_eq]
  exact ⟨fun ⟨a, b⟩ => ⟨h.on v a, b⟩, fun ⟨a, b⟩ => ⟨key _ v a (Nat.le_refl _), b⟩⟩
end
/-- the least node that follows -/
def Nxt (l : List E) (s z u v : Int) : Prop := (On l s z v ∧ Par l s v u) ∧ ∀ y, On l s z y → Par l s y u → v ≤ y
/-- the least shortest path from s, so far -/
inductive Way (l : List E) (s z : Int) : List Int → Int → Prop
  | one : Way l s z [s] s
  | more {p : List Int} {u v : Int} (h : Way l s z p u) (hu : u ≠ z) (hn : Nxt l s z u v) : Way l s z (p ++ [v]) v
section
variable {R N : Int} {l : List E} (hv : Valid R N l) {s z : Int}
include hv
theorem Way.on (hz : 0 ≤ T l s z) {p : List Int} {u : Int} (h : Way l s z p u) : On l s z u := by
  cases h with
  | one => exact On.start hv hz
  | more h hu hn => exact hn.1.1
omit hv in
theorem Way.pos {p : List Int} {u : Int} (h : Way l s z p u) : 0 < p.length := by cases h <;> simp
omit hv in
theorem Nxt.unique {u v v' : Int} (h : Nxt l s z u v) (h' : Nxt l s z u v') : v = v' := Int.le_antisymm (h.2 v' h'.1.1 h'.1.2) (h'.2 v h.1.1 h.1.2)
omit hv in
theorem Way.unique_len {p q : List Int} {u v : Int} (h : Way l s z p u) (h' : Way l s z q v) (e : p.length = q.length) : p = q ∧ u = v := by
  induction h generalizing q v with
  | one =>
    cases h' with
    | one => exact ⟨rfl, rfl⟩
    | more h' _ _ => have := h'.pos; rw [List.length_append, List.length_singleton, List.length_singleton] at e; omega
  | more h hu hn ih =>
    cases h' with
    | one => have := h.pos; rw [List.length_append, List.length_singleton, List.length_singleton] at e; omega
    | more h' hu' hn' =>
      obtain ⟨rfl, rfl⟩ := ih h' (by simpa using e)
      have := hn.unique hn'
      subst this; exact ⟨rfl, rfl⟩
omit hv in
/-- the part of a path up to a place is a path that has not come to its end -/
theorem Way.part {p : List Int} {u : Int} (h : Way l s z p u) {m : Nat} (h0 : 0 < m) (hm : m < p.length) : ∃ v, Way l s z (p.take m) v ∧ v ≠ z := by
  induction h with
  | one => simp at hm; omega
  | more h hu hn ih =>
    rename_i p a b
    by_cases e : m = p.length
    · subst e; rw [List.take_left']
      · exact ⟨_, h, hu⟩
      · rfl
    · simp at hm
      rw [List.take_append_of_le_length (by omega)]
      exact ih (by omega)
omit hv in
theorem Way.unique {p q : List Int} (h : Way l s z p z) (h' : Way l s z q z) : p = q := by
  rcases Nat.lt_trichotomy p.length q.length with e | e | e
  · obtain ⟨v, h1, h2⟩ := h'.part h.pos e
    have := (h.unique_len h1 (by rw [List.length_take]; omega)).2
    exact absurd this.symm h2
  · exact (h.unique_len h' e).1
  · obtain ⟨v, h1, h2⟩ := h.part h'.pos e
    have := (h'.unique_len h1 (by rw [List.length_take]; omega)).2
    exact absurd this.symm h2
theorem Nxt.ex {u : Int} (hs : 0 ≤ s ∧ s < R + N) (h : On l s z u) (hu : u ≠ z) : ∃ v, Nxt l s z u v := by
  obtain ⟨v, h1, h2⟩ := h.fwd hv hu
  have key : ∀ m : Nat, ∀ v, On l s z v → Par l s v u → v.toNat ≤ m → ∃ y, Nxt l s z u y := by
    intro m
    induction m with
    | zero =>
      intro v h1 h2 hm
      have := h1.node hv hs
      exact ⟨v, ⟨h1, h2⟩, fun y hy _ => by have := hy.node hv hs; omega⟩
    | succ m ih =>
      intro v h1 h2 hm
      by_cases hy : ∃ y, On l s z y ∧ Par l s y u ∧ y < v
      · obtain ⟨y, h3, h4, h5⟩ := hy
        have := h3.node hv hs
        exact ih y h3 h4 (by omega)
      · exact ⟨v, ⟨h1, h2⟩, fun y h3 h4 => Int.not_lt.1 fun h5 => hy ⟨y, h3, h4, h5⟩⟩
  exact key _ v h1 h2 (Nat.le_refl _)
end
end Go.Proofs.Ytmbogobebllheaa.SP
namespace Go.Proofs.Ytmbogobebllheaa.SP
open GM HM Classical
set_option linter.unusedVariables false
set_option linter.unusedSimpArgs false
section
variable {R N : Int} {l : List E} (hv : Valid R N l) {s : Int}
include hv
theorem last_edge {v : Int} (hvs : v ≠ s) (hT : 0 ≤ T l s v) : ∃ u c, (u, v, c) ∈ l ∧ 0 ≤ T l s u ∧ T l s u + c = T l s v := by
  have hw := (T_way hv hT).1
  generalize hq : T l s v = q at *
  cases hw with
  | nil => exact absurd rfl hvs
  | step hw he =>
    rename_i u c d
    have a1 := T_le hv hw
    have a2 := T_edge hv a1.1 he
    exact ⟨u, c, he, a1.1, by omega⟩
theorem Par.ex {v : Int} (hvs : v ≠ s) (hT : 0 ≤ T l s v) : ∃ u, Par l s v u := by
  obtain ⟨u, c, he, h1, h2⟩ := last_edge hv hvs hT
  exact ⟨u, c, he, h1, h2⟩
theorem Hop.ex (hs : s < R) {v : Int} (hvs : v ≠ s) (hT : 0 ≤ T l s v) : ∃ h, Hop R l s v h := by
  have key : ∀ {v d : Int}, W l s v d → d = T l s v → v ≠ s → ∃ h, Hop R l s v h := by
    intro v d hw
    induction hw with
    | nil => intro _ h; exact absurd rfl h
    | step hw he ih =>
      rename_i u v c d
      intro hd hne
      have a1 := T_le hv hw
      have a2 := T_edge hv a1.1 he
      have e1 : d = T l s u := by omega
      by_cases hu : u = s
      · exact ⟨v, (hop_rec hv hs hne a2.1).2 ⟨u, c, he, a1.1, by omega, .inl ⟨hu, rfl⟩⟩⟩
      · obtain ⟨k, hk⟩ := ih e1 hu
        exact ⟨_, (hop_rec hv hs hne a2.1).2 ⟨u, c, he, a1.1, by omega, .inr ⟨k, hk, rfl⟩⟩⟩
  exact key (T_way hv hT).1 rfl hvs
theorem Par.reached {v u : Int} (hs : s < R) (h : Par l s v u) : v ≠ s ∧ 0 ≤ T l s v := by
  refine ⟨fun e => ?_, ?_⟩
  · subst e; exact Par.self hv u hs h
  · obtain ⟨c, he, h1, h2⟩ := h
    exact (T_edge hv h1 he).1
omit hv in
theorem W.sub {l' : List E} (h : ∀ e ∈ l', e ∈ l) {v d : Int} (hw : W l' s v d) : W l s v d := by
  induction hw with
  | nil => exact .nil
  | step hw he ih => exact ih.step (h _ he)
end
end Go.Proofs.Ytmbogobebllheaa.SP
namespace Go.Proofs.Ytmbogobebllheaa.SP
open GM HM Classical
set_option linter.unusedVariables false
set_option linter.unusedSimpArgs false
/-- the first router so far of a walk that has come to u -/
def FstJ (R : Int) (l : List E) (s u f : Int) : Prop := (f = -1 ∧ (u = s ∨ (R ≤ u ∧ Hop R l s u u))) ∨ (0 ≤ f ∧ f < R ∧ Hop R l s u f)
section
variable {R N : Int} {l : List E} (hv : Valid R N l) {s : Int}
include hv
theorem FstJ.step (hs : 0 ≤ s ∧ s < R) {u v f : Int} (h : FstJ R l s u f) (hp : Par l s v u) : FstJ R l s v (if f < 0 ∧ v < R then v else f) := by
  obtain ⟨hvs, hT⟩ := Par.reached hv hs.2 hp
  have hvn := (T_way hv hT).1.node hv (by have := hv.n; omega)
  obtain ⟨c, he, h1, h2⟩ := hp
  have hed := edge hv he
  have mk : ∀ h, Con R s u v h (Hop R l s u) → Hop R l s v h := fun h hc => (hop_rec hv hs.2 hvs hT).2 ⟨u, c, he, h1, h2, hc⟩
  rcases h with ⟨rfl, hu | ⟨hu, hh⟩⟩ | ⟨f0, f1, hh⟩
  · have hm := mk v (.inl ⟨hu, rfl⟩)
    by_cases hvR : v < R
    · rw [if_pos ⟨by omega, hvR⟩]; exact .inr ⟨hvn.1, hvR, hm⟩
    · rw [if_neg (by omega)]; exact .inl ⟨rfl, .inr ⟨by omega, hm⟩⟩
  · have hvR : v < R := (hed.2.2.2.2.2.2.2.2 hu).2
    rw [if_pos ⟨by omega, hvR⟩]
    exact .inr ⟨hvn.1, hvR, mk v (.inr ⟨u, hh, by rw [if_pos hu]⟩)⟩
  · rw [if_neg (by omega)]
    exact .inr ⟨f0, f1, mk f (.inr ⟨f, hh, by rw [if_neg (by omega)]⟩)⟩
end
end Go.Proofs.Ytmbogobebllheaa.SP
namespace Go.Proofs.Ytmbogobebllheaa.SP
open GM HM Classical
set_option linter.unusedVariables false
set_option linter.unusedSimpArgs false
/-- a way with at least one edge whose inner nodes are in a list -/
inductive WS (l : List E) (S : List Int) : Int → Int → Int → Prop
  | edge {i k c : Int} (he : (i, k, c) ∈ l) : WS l S i k c
  | more {i u k c d : Int} (h : WS l S i u c) (hu : u ∈ S) (he : (u, k, d) ∈ l) : WS l S i k (c + d)
section
variable {R N : Int} {l : List E} (hv : Valid R N l)
theorem WS.cat {S : List Int} {i j k a b : Int} (h : WS l S i j a) (g : WS l S j k b) (hj : j ∈ S) : WS l S i k (a + b) := by
  induction g with
  | edge he => exact h.more hj he
  | more g hu he ih => rw [← Int.add_assoc]; exact ih.more hu he
theorem WS.front {S : List Int} {i k c : Int} (h : WS l S i k c) : (i, k, c) ∈ l ∨ ∃ x a b, (i, x, a) ∈ l ∧ x ∈ S ∧ WS l S x k b ∧ c = a + b := by
  induction h with
  | edge he => exact .inl he
  | more h hu he ih =>
    rename_i u k c d
    rcases ih with ih | ⟨x, a, b, h1, h2, h3, h4⟩
    · exact .inr ⟨u, c, d, ih, hu, .edge he, rfl⟩
    · exact .inr ⟨x, a, b + d, h1, h2, h3.more hu he, by omega⟩
include hv
theorem WS.nonneg {S : List Int} {i k c : Int} (h : WS l S i k c) : 0 ≤ c := by
  induction h with
  | edge he => exact (SP.edge hv he).2.2.2.2.2.1
  | more h hu he ih => have := (SP.edge hv he).2.2.2.2.2.1; omega
theorem WS.lastV {S : List Int} {x k c : Int} (h : WS l S x k c) : ∃ d, WS l (S.filter (fun y => decide (y ≠ x))) x k d ∧ d ≤ c := by
  induction h with
  | edge he => exact ⟨_, .edge he, Int.le_refl _⟩
  | more h hu he ih =>
    rename_i u k c d
    by_cases e : u = x
    · subst e
      exact ⟨d, .edge he, by have := h.nonneg hv; omega⟩
    · obtain ⟨d', h1, h2⟩ := ih
      exact ⟨d' + d, h1.more (List.mem_filter.2 ⟨hu, by simpa using e⟩) he, by omega⟩
theorem WS.short : ∀ (n : Nat) (S : List Int), S.length ≤ n → ∀ {i k c : Int}, WS l S i k c → ∃ d, WS l S i k d ∧ d ≤ c ∧ d ≤ 65535 * ((n : Int) + 1) := by
  intro n
  induction n with
  | zero =>
    intro S hS i k c h
    rcases h.front with h1 | ⟨x, a, b, _, h2, _⟩
    · exact ⟨c, .edge h1, Int.le_refl _, by have := (SP.edge hv h1).2.2.2.2.2.2.1; omega⟩
    · have : S = [] := List.length_eq_zero_iff.1 (by omega)
      subst this; simp at h2
  | succ n ih =>
    intro S hS i k c h
    rcases h.front with h1 | ⟨x, a, b, h1, h2, h3, h4⟩
    · exact ⟨c, .edge h1, Int.le_refl _, by have := (SP.edge hv h1).2.2.2.2.2.2.1; omega⟩
    · obtain ⟨b', g1, g2⟩ := h3.lastV hv
      have hlt : (S.filter (fun y => decide (y ≠ x))).length < S.length := by
        refine Nat.lt_of_le_of_ne (List.length_filter_le _ _) fun e => ?_
        have := (List.length_filter_eq_length_iff.1 e) x h2
        simp at this
      obtain ⟨d, k1, k2, k3⟩ := ih _ (by omega) g1
      have sub : ∀ {p q e : Int}, WS l (S.filter (fun y => decide (y ≠ x))) p q e → WS l S p q e := fun h => by
        induction h with
        | edge he => exact .edge he
        | more h hu he ih => exact (ih).more (List.mem_filter.1 hu).1 he
      refine ⟨a + d, (WS.edge h1).cat (sub k1) h2, by omega, ?_⟩
      have := (SP.edge hv h1).2.2.2.2.2.2.1
      have e : (65535 : Int) * (((n + 1 : Nat) : Int) + 1) = 65535 * ((n : Int) + 1) + 65535 := by
        rw [Int.natCast_add, Int.natCast_one, Int.mul_add]; omega
      omega
theorem WI.ws {m : Nat} {i k c : Int} (h : WI l (m : Int) i k c) (hn : 0 ≤ i ∧ i < R + N) : (i = k ∧ c = 0) ∨ WS l ((List.range m).map (fun j : Nat => (j : Int))) i k c := by
  induction h with
  | nil => exact .inl ⟨rfl, rfl⟩
  | edge he => exact .inr (.edge he)
  | cat h g hj ih1 ih2 =>
    rename_i i j k a b
    have hj0 := h.node hv hn
    have ih1 := ih1 hn
    have ih2 := ih2 hj0
    rcases ih1 with ⟨rfl, rfl⟩ | ih1
    · rw [Int.zero_add]; exact ih2
    · rcases ih2 with ⟨rfl, rfl⟩ | ih2
      · rw [Int.add_zero]; exact .inr ih1
      · refine .inr (ih1.cat ih2 ?_)
        refine List.mem_map.2 ⟨j.toNat, List.mem_range.2 (by omega), by omega⟩
omit hv in
theorem WS.wi {m : Nat} {i k c : Int} (h : WS l ((List.range m).map (fun j : Nat => (j : Int))) i k c) : WI l (m : Int) i k c := by
  induction h with
  | edge he => exact .edge he
  | more h hu he ih =>
    obtain ⟨j, h1, h2⟩ := List.mem_map.1 hu
    have := List.mem_range.1 h1
    exact ih.cat (.edge he) (by omega)
theorem WI.short {m : Nat} {i k c : Int} (h : WI l (m : Int) i k c) (hn : 0 ≤ i ∧ i < R + N) : ∃ d, WI l (m : Int) i k d ∧ d ≤ 65535 * ((m : Int) + 1) := by
  rcases h.ws hv hn with ⟨rfl, rfl⟩ | h
  · exact ⟨0, .nil, by omega⟩
  · obtain ⟨d, h1, _, h3⟩ := h.short hv m _ (by simp)
    exact ⟨d, h1.wi, h3⟩
theorem T_small {n : Nat} (hn : (n : Int) = R + N) {i k : Int} (hi : 0 ≤ i ∧ i < R + N) (h : 0 ≤ T l i k) : T l i k ≤ 65535 * ((n : Int) + 1) := by
  have hw := WI.of hv (T_way hv h).1
  rw [← hn] at hw
  obtain ⟨d, h1, h2⟩ := hw.short hv hi
  have := (T_le hv h1.way).2
  omega
end
def at2 (tab : List (List Int)) (i k : Nat) : Int := gI (gL tab i) k
def setT (tab : List (List Int)) (i k : Nat) (x : Int) : List (List Int) := tab.set i ((gL tab i).set k x)
structure Tb (n : Nat) (tab : List (List Int)) : Prop where
  len : tab.length = n
  row : ∀ i, i < n → (gL tab i).length = n
theorem Tb.set {n : Nat} {tab : List (List Int)} (h : Tb n tab) {i : Nat} (hi : i < n) (k : Nat) (x : Int) : Tb n (setT tab i k x) := by
  refine ⟨by simp [setT, h.len], fun j hj => ?_⟩
  unfold setT
  rw [gL_set (by rw [h.len]; exact hi)]
  split
  · simp [h.row i hi]
  · exact h.row j hj
theorem at2_set {n : Nat} {tab : List (List Int)} (h : Tb n tab) {i k : Nat} (hi : i < n) (hk : k < n) (x : Int) (a b : Nat) : at2 (setT tab i k x) a b = if a = i ∧ b = k then x else at2 tab a b := by
  unfold at2 setT
  rw [gL_set (by rw [h.len]; exact hi)]
  by_cases e : a = i
  · rw [if_pos e, gI_set (by rw [h.row i hi]; exact hk)]
    by_cases e2 : b = k
    · rw [if_pos e2, if_pos ⟨e, e2⟩]
    · rw [if_neg e2, if_neg (fun h => e2 h.2), e]
  · rw [if_neg e, if_neg (fun h => e h.1)]
/-- the table as a function of integers -/
def fn2 (tab : List (List Int)) : Int → Int → Int := fun i k => at2 tab i.toNat k.toNat
theorem GoodA.congr {R N : Int} {l : List E} {D D' : Int → Int → Int} (h : GoodA R N l D) (he : ∀ i k, 0 ≤ i → i < R + N → 0 ≤ k → k < R + N → D' i k = D i k) : GoodA R N l D' := fun i k a b c d => by rw [he i k a b c d]; exact h i k a b c d
theorem AtM.congr {l : List E} {m i k : Int} {D D' : Int → Int → Int} (h : AtM l m D i k) (he : D' i k = D i k) : AtM l m D' i k := fun c hc => by rw [he]; exact h c hc
/-- the table in round m before the entry (i, k) -/
structure FwR (R N : Int) (l : List E) (n m i k : Nat) (tab : List (List Int)) : Prop where
  tb : Tb n tab
  g : GoodA R N l (fn2 tab)
  a : ∀ a b : Nat, a < n → b < n → AtM l (m : Int) (fn2 tab) a b
  b : ∀ a b : Nat, a < n → b < n → a < i ∨ (a = i ∧ b < k) → AtM l ((m : Int) + 1) (fn2 tab) a b
  x : ∀ a b : Nat, a < n → b < n → 0 ≤ at2 tab a b → ∃ c, WI l ((m : Int) + 1) a b c
  y : ∀ a b : Nat, a < n → b < n → a = m ∨ b = m → 0 ≤ at2 tab a b → ∃ c, WI l (m : Int) a b c
theorem WI.mono {l : List E} {m m' i k c : Int} (h : WI l m i k c) (hm : m ≤ m') : WI l m' i k c := by
  induction h with
  | nil => exact .nil
  | edge he => exact .edge he
  | cat h g hj ih1 ih2 => exact ih1.cat ih2 (by omega)
theorem fn2_nat (tab : List (List Int)) (a b : Nat) : fn2 tab (a : Int) (b : Int) = at2 tab a b := rfl
section
variable {R N : Int} {l : List E} (hv : Valid R N l) {n m i k : Nat} {tab : List (List Int)}
/-- the first table -/
def Fw0 (R N : Int) (l : List E) (n : Nat) (tab : List (List Int)) : Prop := Tb n tab ∧ ∀ a b : Nat, a < n → b < n → at2 tab a b = start2 l a b
include hv
theorem Fw0.start (hn : (n : Int) = R + N) (h : Fw0 R N l n tab) : FwR R N l n 0 0 0 tab := by
  have e : ∀ i k : Int, 0 ≤ i → i < R + N → 0 ≤ k → k < R + N → fn2 tab i k = start2 l i k := fun i k i0 i1 k0 k1 => by
    have := h.2 i.toNat k.toNat (by omega) (by omega)
    unfold fn2; rw [this]
    rw [show ((i.toNat : Nat) : Int) = i by omega, show ((k.toNat : Nat) : Int) = k by omega]
  have ex : ∀ a b : Nat, a < n → b < n → 0 ≤ at2 tab a b → WI l 0 a b (at2 tab a b) := fun a b ha hb h0 => by
    rw [h.2 a b ha hb] at h0 ⊢
    unfold start2 at h0 ⊢
    by_cases e : (a : Int) = b
    · rw [if_pos e] at h0 ⊢; rw [e]; exact .nil
    · rw [if_neg e] at h0 ⊢
      rcases find_edge (l := l) (i := a) (k := b) with ⟨c, h1, h2⟩ | ⟨h1, h2⟩
      · rw [h2]; exact .edge h1
      · rw [h2] at h0; simp at h0
  refine ⟨h.1, (start_good hv).congr e, fun a b ha hb => (start_at hv _ _ (by omega)).congr (e _ _ (by omega) (by omega) (by omega) (by omega)), fun a b ha hb hh => (by omega), fun a b ha hb h0 => ⟨_, (ex a b ha hb h0).mono (by omega)⟩, fun a b ha hb _ h0 => ⟨_, ex a b ha hb h0⟩⟩
/-- the numbers that are added are small -/
theorem FwR.small (hn : (n : Int) = R + N) (h : FwR R N l n m i k tab) (hm : m < n) {a b : Nat} (ha : a < n) (hb : b < n) (hab : a = m ∨ b = m) (h0 : 0 ≤ at2 tab a b) : at2 tab a b ≤ 65535 * ((m : Int) + 1) := by
  obtain ⟨c, hc⟩ := h.y a b ha hb hab h0
  obtain ⟨d, h1, h2⟩ := hc.short hv (by omega)
  have := (h.a a b ha hb d h1).2
  rw [fn2_nat] at this
  omega
theorem FwR.put (hn : (n : Int) = R + N) (h : FwR R N l n m i k tab) (hm : m < n) (hi : i < n) (hk : k < n) (h1 : 0 ≤ at2 tab i m) (h2 : 0 ≤ at2 tab m k) (hlt : at2 tab i k < 0 ∨ at2 tab i m + at2 tab m k < at2 tab i k) :
    FwR R N l n m i (k + 1) (setT tab i k (at2 tab i m + at2 tab m k)) := by
  have him : i ≠ m := by rintro rfl; omega
  have hkm : k ≠ m := by rintro rfl; omega
  have e : ∀ a b : Int, 0 ≤ a → a < R + N → 0 ≤ b → b < R + N → fn2 (setT tab i k (at2 tab i m + at2 tab m k)) a b = put2 (fn2 tab) (i : Int) (k : Int) (fn2 tab i m + fn2 tab m k) a b := fun a b a0 a1 b0 b1 => by
    unfold fn2 put2
    rw [at2_set h.tb hi hk]
    by_cases q : a = i ∧ b = k
    · rw [if_pos q, if_pos (by omega)]; rfl
    · rw [if_neg q, if_neg (by omega)]
  have e' : ∀ a b : Nat, a < n → b < n → fn2 (setT tab i k (at2 tab i m + at2 tab m k)) (a : Int) (b : Int) = put2 (fn2 tab) (i : Int) (k : Int) (fn2 tab i m + fn2 tab m k) a b := fun a b ha hb => e a b (by omega) (by omega) (by omega) (by omega)
  have hb' : fn2 tab i k < 0 ∨ fn2 tab i m + fn2 tab m k < fn2 tab i k := hlt
  have h1' : 0 ≤ fn2 tab i m := h1
  have h2' : 0 ≤ fn2 tab m k := h2
  refine ⟨h.tb.set hi _ _, (h.g.put ⟨by omega, by omega⟩ ⟨by omega, by omega⟩ ⟨by omega, by omega⟩ h1' h2').congr e, fun a b ha hb => ((h.a a b ha hb).put (by omega) hb').congr (e' a b ha hb), fun a b ha hb hh => ?_, fun a b ha hb h0 => ?_, fun a b ha hb hab h0 => ?_⟩
  · by_cases q : a = i ∧ b = k
    · obtain ⟨rfl, rfl⟩ := q
      exact (AtM.nextPut hv (h.a a b ha hb) (h.a a m ha hm) (h.a m b hm hb) h1' h2' hb').congr (e' a b ha hb)
    · exact ((h.b a b ha hb (by omega)).put (by omega) hb').congr (e' a b ha hb)
  · rw [at2_set h.tb hi hk] at h0
    by_cases q : a = i ∧ b = k
    · obtain ⟨rfl, rfl⟩ := q
      obtain ⟨c1, w1⟩ := h.y a m ha hm (.inr rfl) h1
      obtain ⟨c2, w2⟩ := h.y m b hm hb (.inl rfl) h2
      exact ⟨_, (w1.mono (m' := (m : Int) + 1) (by omega)).cat (w2.mono (by omega)) (by omega)⟩
    · rw [if_neg q] at h0; exact h.x a b ha hb h0
  · rw [at2_set h.tb hi hk, if_neg (by omega)] at h0
    exact h.y a b ha hb hab h0
theorem FwR.leave (h : FwR R N l n m i k tab) (hm : m < n) (hi : i < n) (hk : k < n) (hs : 0 ≤ at2 tab i m → 0 ≤ at2 tab m k → 0 ≤ at2 tab i k ∧ at2 tab i k ≤ at2 tab i m + at2 tab m k) : FwR R N l n m i (k + 1) tab :=
  ⟨h.tb, h.g, h.a, fun a b ha hb hh => by
    by_cases q : a = i ∧ b = k
    · obtain ⟨rfl, rfl⟩ := q
      exact AtM.next hv (h.a a b ha hb) (h.a a m ha hm) (h.a m b hm hb) hs
    · exact h.b a b ha hb (by omega), h.x, h.y⟩
omit hv in
theorem FwR.row (h : FwR R N l n m i n tab) : FwR R N l n m (i + 1) 0 tab :=
  ⟨h.tb, h.g, h.a, fun a b ha hb hh => h.b a b ha hb (by omega), h.x, h.y⟩
theorem FwR.skip (h : FwR R N l n m i 0 tab) (hm : m < n) (hi : i < n) (hs : at2 tab i m < 0) : FwR R N l n m (i + 1) 0 tab :=
  ⟨h.tb, h.g, h.a, fun a b ha hb hh => by
    by_cases q : a = i
    · subst q
      exact AtM.next hv (h.a a b ha hb) (h.a a m ha hm) (h.a m b hm hb) fun h1 => absurd h1 (by rw [fn2_nat]; omega)
    · exact h.b a b ha hb (by omega), h.x, h.y⟩
omit hv in
theorem FwR.round (h : FwR R N l n m n 0 tab) : FwR R N l n (m + 1) 0 0 tab :=
  ⟨h.tb, h.g, fun a b ha hb => h.b a b ha hb (.inl ha), fun a b ha hb hh => (by omega), fun a b ha hb h0 => by
    obtain ⟨c, hc⟩ := h.x a b ha hb h0
    exact ⟨c, hc.mono (by omega)⟩, fun a b ha hb _ h0 => h.x a b ha hb h0⟩
theorem FwR.dist (hn : (n : Int) = R + N) (h : FwR R N l n n 0 0 tab) {a b : Nat} (ha : a < n) (hb : b < n) : at2 tab a b = T l a b := by
  have key := dist_of (i := (a : Int)) (k := (b : Int)) hv h.g (fun i k i0 i1 k0 k1 => ?_) (by omega) (by omega) (by omega) (by omega)
  · exact key
  have := h.a i.toNat k.toNat (by omega) (by omega)
  rwa [show ((i.toNat : Nat) : Int) = i by omega, show ((k.toNat : Nat) : Int) = k by omega, hn] at this
end
end Go.Proofs.Ytmbogobebllheaa.SP
namespace Go.Proofs.Ytmbogobebllheaa.SP
open GM HM Classical
set_option linter.unusedVariables false
set_option linter.unusedSimpArgs false
/-- the second list holds the edges of the first one, turned round -/
def Rev (l l' : List E) : Prop := ∀ u v c, (u, v, c) ∈ l' ↔ (v, u, c) ∈ l
theorem Rev.symm {l l' : List E} (h : Rev l l') : Rev l' l := fun u v c => (h v u c).symm
theorem W.front' {l : List E} {s u v c d : Int} (he : (s, u, c) ∈ l) (h : W l u v d) : W l s v (c + d) := by
  have := (W.nil.step he : W l s u (0 + c))
  rw [Int.zero_add] at this
  exact this.trans h
theorem W.rev {l l' : List E} (hr : Rev l l') {s v d : Int} (h : W l s v d) : W l' v s d := by
  induction h with
  | nil => exact .nil
  | step h he ih =>
    rename_i u v c d
    have := W.front' ((hr v u c).2 he) ih
    rwa [Int.add_comm] at this
section
variable {R N : Int} {l l' : List E} (hv : Valid R N l) (hv' : Valid R N l') (hr : Rev l l')
include hv hv' hr
theorem T_rev (s v : Int) : T l' v s = T l s v := by
  rcases T_cases hv s v with ⟨h1, h2⟩ | ⟨h1, h2⟩
  · rcases T_cases hv' v s with ⟨h3, _⟩ | ⟨h3, h4⟩
    · rw [h1, h3]
    · exact absurd ⟨_, h4.1.rev hr.symm⟩ h2
  · exact T_of ⟨h2.1.rev hr, fun e he => h2.2 e (he.rev hr.symm)⟩
end
section
variable {R : Int} {l : List E} (hv : Valid R 0 l)
include hv
/-- a first hop where there are only routers -/
theorem hop0 {s v h : Int} : Hop R l s v h ↔ v ≠ s ∧ ∃ c, (s, h, c) ∈ l ∧ 0 ≤ T l h v ∧ c + T l h v = T l s v := by
  constructor
  · rintro ⟨h1, h2, ⟨h3, h4, h5⟩, h6⟩
    refine ⟨h1, ?_⟩
    have h5' : (s, h, T l s h) ∈ l := by
      rcases h5 with h5 | ⟨_, w, h7, h8, _⟩
      · exact h5
      · have := edge hv h8; omega
    refine ⟨_, h5', ?_⟩
    rcases h6 with rfl | ⟨_, h7, h8⟩
    · rw [T_self hv]; omega
    · exact ⟨h7, h8⟩
  · rintro ⟨h1, c, he, h2, h3⟩
    have hed := edge hv he
    have a1 := T_edge hv (s := s) (by rw [T_self hv]; omega) he
    rw [T_self hv] at a1
    have a2 := T_tri hv a1.1 h2
    have hc : T l s h = c := by omega
    refine ⟨h1, by omega, ⟨fun e => by omega, a1.1, .inl (by rw [hc]; exact he)⟩, .inr ⟨by omega, h2, by omega⟩⟩
/-- a next hop is a parent in the tree of the destination in the graph turned round -/
theorem hop_par {l' : List E} (hv' : Valid R 0 l') (hr : Rev l l') {s v h : Int} : Hop R l s v h ↔ v ≠ s ∧ Par l' v s h := by
  rw [hop0 hv]
  refine and_congr_right fun _ => ?_
  constructor
  · rintro ⟨c, he, h2, h3⟩
    refine ⟨c, (hr h s c).2 he, ?_, ?_⟩
    · rw [T_rev hv hv' hr]; exact h2
    · rw [T_rev hv hv' hr, T_rev hv hv' hr]; omega
  · rintro ⟨c, he, h2, h3⟩
    rw [T_rev hv hv' hr] at h2 h3
    rw [T_rev hv hv' hr] at h3
    exact ⟨c, (hr h s c).1 he, h2, by omega⟩
/-- a next hop from a node on a shortest path lies on one -/
theorem On.hop {a d u h : Int} (ho : On l a d u) (hh : Hop R l u d h) : On l a d h := by
  obtain ⟨_, c, he, h2, h3⟩ := (hop0 hv).1 hh
  obtain ⟨o1, o2, o3⟩ := ho
  have a1 := T_edge hv o1 he
  have a2 := T_tri hv a1.1 h2
  exact ⟨a1.1, h2, by omega⟩
end
/-- no shortest path from n to d leads through x -/
def Avoid (l : List E) (n x d : Int) : Prop := 0 ≤ T l n d ∧ (T l n x < 0 ∨ T l x d < 0 ∨ T l n d < T l n x + T l x d)
theorem Avoid.off {l : List E} {n x d : Int} (h : Avoid l n x d) : ¬ On l n d x := fun ho => by
  obtain ⟨o1, o2, o3⟩ := ho
  rcases h.2 with h | h | h <;> omega
end Go.Proofs.Ytmbogobebllheaa.SP
namespace Go.Proofs.Ytmbogobebllheaa.SP
open GM HM Classical
set_option linter.unusedVariables false
set_option linter.unusedSimpArgs false
structure Al where
  dest : Int
  prim : Int
  via : Int
  kind : Int
  down : Bool
  deriving DecidableEq
noncomputable def weighA (l : List E) (root d p : Int) (e : E) : Al × Int :=
  (⟨d, p, e.2.1, if p ≠ d ∧ Avoid l e.2.1 p d then 2 else 1, decide (0 ≤ T l e.2.1 d ∧ (T l root d < 0 ∨ T l e.2.1 d < T l root d))⟩, e.2.2 + T l e.2.1 d)
/-- is the first candidate better than the second one? -/
def betterA (a b : Al × Int) : Bool := if a.1.kind ≠ b.1.kind then decide (a.1.kind = 2) else if a.2 ≠ b.2 then decide (a.2 < b.2) else decide (a.1.via < b.1.via)
noncomputable def stepA (l : List E) (root d p : Int) (acc : Option (Al × Int)) (e : E) : Option (Al × Int) :=
  if e.2.1 = p ∨ ¬ Avoid l e.2.1 root d then acc else match acc with
    | none => some (weighA l root d p e)
    | some b => if betterA (weighA l root d p e) b = true then some (weighA l root d p e) else some b
noncomputable def bestA (l : List E) (root d p : Int) (es : List E) : Option (Al × Int) := es.foldl (stepA l root d p) none
theorem bestA_snoc (l : List E) (root d p : Int) (es : List E) (e : E) : bestA l root d p (es ++ [e]) = stepA l root d p (bestA l root d p es) e := by
  unfold bestA; rw [List.foldl_append]; rfl
/-- what an alternate fulfils -/
structure IsAl (l : List E) (root d p : Int) (a : Al) : Prop where
  dest : a.dest = d
  prim : a.prim = p
  ne : a.via ≠ p
  edge : ∃ c, (root, a.via, c) ∈ l
  free : Avoid l a.via root d
  kind : (a.kind = 2 ∧ p ≠ d ∧ Avoid l a.via p d) ∨ (a.kind = 1 ∧ ¬ (p ≠ d ∧ Avoid l a.via p d))
  down : a.down = true ↔ (0 ≤ T l a.via d ∧ (T l root d < 0 ∨ T l a.via d < T l root d))
theorem weighA_is {l : List E} {root d p : Int} {e : E} (he : e ∈ l) (hr : e.1 = root) (h : ¬ (e.2.1 = p ∨ ¬ Avoid l e.2.1 root d)) : IsAl l root d p (weighA l root d p e).1 := by
  obtain ⟨a, b, c⟩ := e
  dsimp only at hr
  subst hr
  refine ⟨rfl, rfl, fun e => h (.inl e), ⟨c, he⟩, Classical.byContradiction fun k => h (.inr k), ?_, ?_⟩
  · unfold weighA
    dsimp only
    by_cases hk : p ≠ d ∧ Avoid l b p d
    · rw [if_pos hk]; exact .inl ⟨rfl, hk⟩
    · rw [if_neg hk]; exact .inr ⟨rfl, hk⟩
  · unfold weighA; exact decide_eq_true_iff
theorem foldA_is {l : List E} {root d p : Int} : ∀ (es : List E) (acc : Option (Al × Int)), (∀ e ∈ es, e ∈ l ∧ e.1 = root) → (∀ a, acc = some a → IsAl l root d p a.1) → ∀ a, es.foldl (stepA l root d p) acc = some a → IsAl l root d p a.1
  | [], acc, _, hacc, a, h => hacc a h
  | e :: es, acc, hall, hacc, a, h => by
    refine foldA_is es (stepA l root d p acc e) (fun x hx => hall x (by simp [hx])) (fun b hb => ?_) a h
    have he := hall e (by simp)
    unfold stepA at hb
    by_cases hs : e.2.1 = p ∨ ¬ Avoid l e.2.1 root d
    · rw [if_pos hs] at hb; exact hacc b hb
    · rw [if_neg hs] at hb
      have hw := weighA_is he.1 he.2 hs
      cases acc with
      | none => simp at hb; subst hb; exact hw
      | some b0 =>
        dsimp only at hb
        by_cases hbt : betterA (weighA l root d p e) b0 = true
        · rw [if_pos hbt] at hb; simp at hb; subst hb; exact hw
        · rw [if_neg hbt] at hb; simp at hb; subst hb; exact hacc b0 rfl
theorem bestA_is {l : List E} {root d p : Int} (es : List E) (hall : ∀ e ∈ es, e ∈ l ∧ e.1 = root) (a : Al × Int) (h : bestA l root d p es = some a) : IsAl l root d p a.1 := foldA_is es none hall (fun a h => by cases h) a h
noncomputable def altsOf (l : List E) (root d : Int) (hops : List Int) : List Al := hops.filterMap (fun p => (bestA l root d p (outs l root)).map Prod.fst)
noncomputable def allA (l : List E) (root : Int) (n : Nat) (hops : List (List Int)) : List Al := (List.range n).flatMap (fun d : Nat => altsOf l root (d : Int) (gL hops d))
theorem allA_is {l : List E} {root : Int} {n : Nat} {hops : List (List Int)} {a : Al} (h : a ∈ allA l root n hops) : ∃ d : Nat, d < n ∧ a.prim ∈ gL hops d ∧ IsAl l root (d : Int) a.prim a := by
  unfold allA at h
  obtain ⟨d, hd, ha⟩ := List.mem_flatMap.1 h
  unfold altsOf at ha
  obtain ⟨p, hp, hb⟩ := List.mem_filterMap.1 ha
  cases hbb : bestA l root (d : Int) p (outs l root) with
  | none => rw [hbb] at hb; simp at hb
  | some x =>
    rw [hbb] at hb
    simp at hb
    have := bestA_is (outs l root) (fun e he => by
      unfold outs at he
      have := List.mem_filter.1 he
      exact ⟨this.1, of_decide_eq_true this.2⟩) x hbb
    rw [hb] at this
    have hpr := this.prim
    refine ⟨d, List.mem_range.1 hd, by rw [hpr]; exact hp, by rw [hpr]; exact this⟩
/-- P13.6: no shortest path from the alternate passes the root, and none the primary next hop where the alternate protects the node -/
theorem IsAl.off {l : List E} {root d p : Int} {a : Al} (h : IsAl l root d p a) : ¬ On l a.via d root ∧ (a.kind = 2 → ¬ On l a.via d p) := by
  refine ⟨h.free.off, fun hk => ?_⟩
  rcases h.kind with ⟨_, _, h3⟩ | ⟨h1, _⟩
  · exact h3.off
  · omega
end Go.Proofs.Ytmbogobebllheaa.SP
namespace Go.Proofs.Ytmbogobebllheaa.SP
open GM HM Classical
set_option linter.unusedVariables false
set_option linter.unusedSimpArgs false
def ring5L : List E := [(0, 1, 1), (0, 4, 1), (1, 0, 1), (1, 2, 1), (2, 1, 1), (2, 3, 1), (3, 2, 1), (3, 4, 1), (4, 0, 1), (4, 3, 1)]
def ring4T : List (List Int) := [[0, 1, 2, 1], [1, 0, 1, 2], [2, 1, 0, 1], [1, 2, 1, 0]]
def ring5T : List (List Int) := [[0, 1, 2, 2, 1], [1, 0, 1, 2, 2], [2, 1, 0, 1, 2], [2, 2, 1, 0, 1], [1, 2, 2, 1, 0]]
theorem ring5_valid : Valid 5 0 ring5L := chk_iff.1 (by decide)
theorem ring4_T (i k : Int) (h0 : 0 ≤ i) (h1 : i < 4) (k0 : 0 ≤ k) (k1 : k < 4) : T ringL i k = tb ring4T i k := (cert_T ring_valid (n := 4) rfl (by decide) i k h0 h1 k0 k1).symm
theorem ring5_T (i k : Int) (h0 : 0 ≤ i) (h1 : i < 5) (k0 : 0 ≤ k) (k1 : k < 5) : T ring5L i k = tb ring5T i k := (cert_T ring5_valid (n := 5) rfl (by decide) i k h0 h1 k0 k1).symm
end Go.Proofs.Ytmbogobebllheaa.SP
namespace Go.Proofs.Ytmbogobebllheaa.SP
open GM HM Classical
set_option linter.unusedVariables false
set_option linter.unusedSimpArgs false
def avoidB (t : Int → Int → Int) (n x d : Int) : Bool := decide (0 ≤ t n d) && (decide (t n x < 0) || decide (t x d < 0) || decide (t n d < t n x + t x d))
def weighB (t : Int → Int → Int) (root d p : Int) (e : E) : Al × Int :=
  (⟨d, p, e.2.1, if (!(p == d)) && avoidB t e.2.1 p d then 2 else 1, decide (0 ≤ t e.2.1 d) && (decide (t root d < 0) || decide (t e.2.1 d < t root d))⟩, e.2.2 + t e.2.1 d)
def stepB (t : Int → Int → Int) (root d p : Int) (acc : Option (Al × Int)) (e : E) : Option (Al × Int) :=
  if (e.2.1 == p) || !(avoidB t e.2.1 root d) then acc else match acc with
    | none => some (weighB t root d p e)
    | some b => if betterA (weighB t root d p e) b then some (weighB t root d p e) else some b
def altsB (t : Int → Int → Int) (l : List E) (root d : Int) (hops : List Int) : List Al := hops.filterMap (fun p => ((outs l root).foldl (stepB t root d p) none).map Prod.fst)
def allB (t : Int → Int → Int) (l : List E) (root : Int) (n : Nat) (hops : List (List Int)) : List Al := (List.range n).flatMap (fun d : Nat => altsB t l root (d : Int) (gL hops d))
theorem avoidB_iff {t : Int → Int → Int} {l : List E} {n x d : Int} (h1 : t n d = T l n d) (h2 : t n x = T l n x) (h3 : t x d = T l x d) : avoidB t n x d = true ↔ Avoid l n x d := by
  unfold avoidB Avoid
  rw [h1, h2, h3]
  simp [or_assoc]
section
variable {R : Int} {l : List E} (hv : Valid R 0 l) {t : Int → Int → Int} {n : Nat} (hn : (n : Int) = R) (ht : ∀ i k : Int, 0 ≤ i → i < n → 0 ≤ k → k < n → t i k = T l i k)
include hv hn ht
theorem weighB_eq {root d p : Int} {e : E} (hr : 0 ≤ root ∧ root < n) (hd : 0 ≤ d ∧ d < n) (hp : 0 ≤ p ∧ p < n) (he : e ∈ l) : weighB t root d p e = weighA l root d p e := by
  obtain ⟨a, b, c⟩ := e
  have hed := edge hv he
  have hb : 0 ≤ b ∧ b < (n : Int) := by omega
  unfold weighB weighA
  dsimp only
  rw [ht b d hb.1 hb.2 hd.1 hd.2, ht root d hr.1 hr.2 hd.1 hd.2]
  have ha := avoidB_iff (t := t) (l := l) (n := b) (x := p) (d := d) (ht b d hb.1 hb.2 hd.1 hd.2) (ht b p hb.1 hb.2 hp.1 hp.2) (ht p d hp.1 hp.2 hd.1 hd.2)
  have hk : ((!(p == d)) && avoidB t b p d) = true ↔ (p ≠ d ∧ Avoid l b p d) := by
    rw [Bool.and_eq_true, ha]; simp
  have hdn : (decide (0 ≤ T l b d) && (decide (T l root d < 0) || decide (T l b d < T l root d))) = decide (0 ≤ T l b d ∧ (T l root d < 0 ∨ T l b d < T l root d)) := by
    rw [Bool.eq_iff_iff]; simp
  rw [hdn]
  by_cases h : p ≠ d ∧ Avoid l b p d
  · rw [if_pos (hk.2 h), if_pos h]
  · rw [if_neg (fun k => h (hk.1 k)), if_neg h]
theorem foldB_eq {root d p : Int} (hr : 0 ≤ root ∧ root < n) (hd : 0 ≤ d ∧ d < n) (hp : 0 ≤ p ∧ p < n) : ∀ (es : List E) (acc : Option (Al × Int)), (∀ e ∈ es, e ∈ l) → es.foldl (stepB t root d p) acc = es.foldl (stepA l root d p) acc
  | [], acc, _ => rfl
  | e :: es, acc, hall => by
    rw [List.foldl_cons, List.foldl_cons]
    have he := hall e (by simp)
    have hs : stepB t root d p acc e = stepA l root d p acc e := by
      obtain ⟨a, b, c⟩ := e
      have hed := edge hv he
      have hb : 0 ≤ b ∧ b < (n : Int) := by omega
      unfold stepB stepA
      rw [weighB_eq hv hn ht hr hd hp he]
      have ha := avoidB_iff (t := t) (l := l) (n := b) (x := root) (d := d) (ht b d hb.1 hb.2 hd.1 hd.2) (ht b root hb.1 hb.2 hr.1 hr.2) (ht root d hr.1 hr.2 hd.1 hd.2)
      have hk : ((b == p) || !(avoidB t b root d)) = true ↔ (b = p ∨ ¬ Avoid l b root d) := by
        rw [Bool.or_eq_true, Bool.not_eq_true', ← ha]; simp
      dsimp only
      by_cases h : b = p ∨ ¬ Avoid l b root d
      · rw [if_pos (hk.2 h), if_pos h]
      · rw [if_neg (fun k => h (hk.1 k)), if_neg h]
        try (cases acc <;> rfl)
    rw [hs]
    exact foldB_eq hr hd hp es _ (fun x hx => hall x (by simp [hx]))
theorem altsB_eq {root d : Int} (hr : 0 ≤ root ∧ root < n) (hd : 0 ≤ d ∧ d < n) : ∀ (hs : List Int), (∀ p ∈ hs, 0 ≤ p ∧ p < (n : Int)) → altsB t l root d hs = altsOf l root d hs
  | [], _ => rfl
  | p :: r, hh => by
    have ih := altsB_eq hr hd r (fun q hq => hh q (by simp [hq]))
    unfold altsB altsOf at ih ⊢
    rw [List.filterMap_cons, List.filterMap_cons, ih]
    unfold bestA
    rw [foldB_eq hv hn ht hr hd (hh p (by simp)) _ _ (fun e he => by
      unfold outs at he; exact (List.mem_filter.1 he).1)]
theorem allB_eq {root : Int} (hr : 0 ≤ root ∧ root < n) {hops : List (List Int)} (hh : ∀ d : Nat, d < n → ∀ p ∈ gL hops d, 0 ≤ p ∧ p < (n : Int)) : allB t l root n hops = allA l root n hops := by
  unfold allB allA
  have key : ∀ m, m ≤ n → (List.range m).flatMap (fun d : Nat => altsB t l root (d : Int) (gL hops d)) = (List.range m).flatMap (fun d : Nat => altsOf l root (d : Int) (gL hops d)) := by
    intro m
    induction m with
    | zero => intro _; rfl
    | succ m ih =>
      intro hm
      rw [List.range_succ, List.flatMap_append, List.flatMap_append, ih (by omega)]
      simp only [List.flatMap_cons, List.flatMap_nil, List.append_nil]
      rw [altsB_eq hv hn ht hr ⟨by omega, by omega⟩ _ (hh m (by omega))]
  exact key n (Nat.le_refl _)
end
theorem ring4_all : allA ringL 0 4 [[], [1], [1, 3], [3]] = [⟨2, 1, 3, 2, true⟩, ⟨2, 3, 1, 2, true⟩] := by
  rw [← allB_eq (R := 4) ring_valid (t := tb ring4T) (n := 4) rfl (fun i k h0 h1 k0 k1 => (ring4_T i k h0 (by omega) k0 (by omega)).symm) ⟨by omega, by omega⟩ (by decide)]
  decide
end Go.Proofs.Ytmbogobebllheaa.SP
namespace Go.Proofs.Ytmbogobebllheaa.SP
open GM HM Classical
set_option linter.unusedVariables false
set_option linter.unusedSimpArgs false
section
variable {R : Int} {l : List E} (hv : Valid R 0 l)
include hv
end
end Go.Proofs.Ytmbogobebllheaa.SP
namespace Go.Proofs.Ytmbogobebllheaa.SP
open GM HM Classical
set_option linter.unusedVariables false
set_option linter.unusedSimpArgs false
def spB (t : Int → Int → Int) (s e c y : Int) : Bool := decide (0 ≤ t s y) && (decide (t e y < 0) || decide (t s y < c + t e y))
def sqB (t : Int → Int → Int) (s e c y : Int) : Bool := decide (0 ≤ t y e) && (decide (t y s < 0) || decide (t y e < t y s + c))
/-- the nodes that are reached without the edge -/
noncomputable def pSp (l : List E) (s e c : Int) (n : Nat) : List Int := rowF n (spB (T l) s e c)
noncomputable def qSp (l : List E) (s e c : Int) (n : Nat) : List Int := rowF n (sqB (T l) s e c)
/-- the nearest one -/
def remStep (t : Int → Int → Int) (s : Int) (acc : Option Int) (y : Int) : Option Int := match acc with
  | none => some y
  | some b => if t s y < t s b then some y else some b
def remF (t : Int → Int → Int) (s : Int) (p q : List Int) : Option Int := (p.filter (fun y => !(y == s) && q.contains y)).foldl (remStep t s) none
section
variable {R N : Int} {l : List E} {t : Int → Int → Int} {n : Nat} (ht : ∀ i k : Int, 0 ≤ i → i < n → 0 ≤ k → k < n → t i k = T l i k)
include ht
theorem pSp_eq {s e c : Int} (hs : 0 ≤ s ∧ s < n) (he : 0 ≤ e ∧ e < n) : rowF n (spB t s e c) = pSp l s e c n := rowF_congr fun y h0 h1 => by
  unfold spB; rw [ht s y hs.1 hs.2 h0 h1, ht e y he.1 he.2 h0 h1]
theorem qSp_eq {s e c : Int} (hs : 0 ≤ s ∧ s < n) (he : 0 ≤ e ∧ e < n) : rowF n (sqB t s e c) = qSp l s e c n := rowF_congr fun y h0 h1 => by
  unfold sqB; rw [ht y e h0 h1 he.1 he.2, ht y s h0 h1 hs.1 hs.2]
theorem remF_eq {s : Int} (hs : 0 ≤ s ∧ s < n) {p q : List Int} (hp : ∀ y ∈ p, 0 ≤ y ∧ y < (n : Int)) : remF t s p q = remF (T l) s p q := by
  unfold remF
  have key : ∀ (r : List Int) (acc : Option Int), (∀ y ∈ r, 0 ≤ y ∧ y < (n : Int)) → (∀ b, acc = some b → 0 ≤ b ∧ b < (n : Int)) → r.foldl (remStep t s) acc = r.foldl (remStep (T l) s) acc := by
    intro r
    induction r with
    | nil => intros; rfl
    | cons y r ih =>
      intro acc hr ha
      have hy := hr y (by simp)
      have hst : remStep t s acc y = remStep (T l) s acc y := by
        cases acc with
        | none => rfl
        | some b =>
          have hb := ha b rfl
          unfold remStep
          dsimp only
          rw [ht s y hs.1 hs.2 hy.1 hy.2, ht s b hs.1 hs.2 hb.1 hb.2]
      rw [List.foldl_cons, List.foldl_cons, hst]
      refine ih _ (fun z hz => hr z (by simp [hz])) fun b hb => ?_
      cases acc with
      | none => simp [remStep] at hb; subst hb; exact hy
      | some b0 =>
        unfold remStep at hb
        dsimp only at hb
        split at hb <;> (cases hb; first | exact hy | exact ha _ rfl)
  exact key _ none (fun y hy => hp y (List.mem_filter.1 hy).1) (fun b hb => by cases hb)
end
theorem ring5_p : pSp ring5L 0 1 1 5 = [0, 3, 4] := by
  rw [← pSp_eq (t := tb ring5T) (n := 5) (fun i k h0 h1 k0 k1 => (ring5_T i k h0 (by omega) k0 (by omega)).symm) ⟨by omega, by omega⟩ ⟨by omega, by omega⟩]
  decide
theorem ring5_q : qSp ring5L 0 1 1 5 = [1, 2, 3] := by
  rw [← qSp_eq (t := tb ring5T) (n := 5) (fun i k h0 h1 k0 k1 => (ring5_T i k h0 (by omega) k0 (by omega)).symm) ⟨by omega, by omega⟩ ⟨by omega, by omega⟩]
  decide
theorem ring4_p : pSp ringL 0 1 1 4 = [0, 3] := by
  rw [← pSp_eq (t := tb ring4T) (n := 4) (fun i k h0 h1 k0 k1 => (ring4_T i k h0 (by omega) k0 (by omega)).symm) ⟨by omega, by omega⟩ ⟨by omega, by omega⟩]
  decide
theorem ring4_q : qSp ringL 0 1 1 4 = [1, 2] := by
  rw [← qSp_eq (t := tb ring4T) (n := 4) (fun i k h0 h1 k0 k1 => (ring4_T i k h0 (by omega) k0 (by omega)).symm) ⟨by omega, by omega⟩ ⟨by omega, by omega⟩]
  decide
theorem ring5_r : remF (T ring5L) 0 [0, 3, 4] [1, 2, 3] = some 3 := by
  rw [← remF_eq (t := tb ring5T) (n := 5) (fun i k h0 h1 k0 k1 => (ring5_T i k h0 (by omega) k0 (by omega)).symm) ⟨by omega, by omega⟩ (by decide)]
  decide
theorem ring4_r : remF (T ringL) 0 [0, 3] [1, 2] = none := by
  rw [← remF_eq (t := tb ring4T) (n := 4) (fun i k h0 h1 k0 k1 => (ring4_T i k h0 (by omega) k0 (by omega)).symm) ⟨by omega, by omega⟩ (by decide)]
  decide
end Go.Proofs.Ytmbogobebllheaa.SP
namespace Go.Proofs.Ytmbogobebllheaa.SP
open GM HM Classical
set_option linter.unusedVariables false
set_option linter.unusedSimpArgs false
/-- the least next hop -/
def LeastH (R : Int) (l : List E) (u d h : Int) : Prop := Hop R l u d h ∧ ∀ k, Hop R l u d k → h ≤ k
theorem LeastH.unique {R : Int} {l : List E} {u d h k : Int} (a : LeastH R l u d h) (b : LeastH R l u d k) : h = k := Int.le_antisymm (a.2 k b.1) (b.2 h a.1)
def OnLink (a b u h : Int) : Prop := (u = a ∧ h = b) ∨ (u = b ∧ h = a)
inductive Wk (R : Int) (l : List E) (d a b : Int) : Int → List Int → Bool → Prop
  | here : Wk R l d a b d [d] true
  | none {u : Int} (hu : u ≠ d) (hn : ∀ h, ¬ Hop R l u d h) : Wk R l d a b u [u] false
  | cut {u h : Int} (hu : u ≠ d) (hn : LeastH R l u d h) (hc : OnLink a b u h) : Wk R l d a b u [u] false
  | go {u h : Int} {p : List Int} {ok : Bool} (hu : u ≠ d) (hn : LeastH R l u d h) (hc : ¬ OnLink a b u h) (hw : Wk R l d a b h p ok) : Wk R l d a b u (u :: p) ok
theorem Wk.unique {R : Int} {l : List E} {d a b u : Int} {p q : List Int} {ok ok' : Bool} (h : Wk R l d a b u p ok) (k : Wk R l d a b u q ok') : p = q ∧ ok = ok' := by
  induction h generalizing q ok' with
  | here =>
    cases k with
    | here => exact ⟨rfl, rfl⟩
    | none hu _ => exact absurd rfl hu
    | cut hu _ _ => exact absurd rfl hu
    | go hu _ _ _ => exact absurd rfl hu
  | none hu hn =>
    cases k with
    | here => exact absurd rfl hu
    | none _ _ => exact ⟨rfl, rfl⟩
    | cut _ h2 _ => exact absurd h2.1 (hn _)
    | go _ h2 _ _ => exact absurd h2.1 (hn _)
  | cut hu hn hc =>
    cases k with
    | here => exact absurd rfl hu
    | none _ h2 => exact absurd hn.1 (h2 _)
    | cut _ _ _ => exact ⟨rfl, rfl⟩
    | go _ h2 h3 _ => rw [hn.unique h2] at hc; exact absurd hc h3
  | go hu hn hc hw ih =>
    cases k with
    | here => exact absurd rfl hu
    | none _ h2 => exact absurd hn.1 (h2 _)
    | cut _ h2 h3 => rw [hn.unique h2] at hc; exact absurd h3 hc
    | go _ h2 _ h4 =>
      obtain rfl := hn.unique h2
      obtain ⟨rfl, rfl⟩ := ih h4
      exact ⟨rfl, rfl⟩
section
variable {R : Int} {l : List E} (hv : Valid R 0 l)
include hv
/-- all nodes of the walk lie on shortest paths, if the first one does -/
theorem Wk.on {d a b u s : Int} {p : List Int} {ok : Bool} (h : Wk R l d a b u p ok) (ho : On l s d u) : ∀ x ∈ p, On l s d x := by
  induction h with
  | here => intro x hx; simp at hx; subst hx; exact ho
  | none _ _ => intro x hx; simp at hx; subst hx; exact ho
  | cut _ _ _ => intro x hx; simp at hx; subst hx; exact ho
  | go hu hn hc hw ih =>
    intro x hx
    rcases List.mem_cons.1 hx with rfl | hx
    · exact ho
    · exact ih (On.hop hv ho hn.1) x hx
/-- a hop brings nearer -/
theorem hop_near {u d h : Int} (hh : Hop R l u d h) : 0 ≤ T l h d ∧ T l h d < T l u d := by
  obtain ⟨_, c, he, h2, h3⟩ := (hop0 hv).1 hh
  have hed := edge hv he
  have : 1 ≤ c := hed.2.2.2.2.2.2.2.1 (by omega)
  exact ⟨h2, by omega⟩
/-- the walk arrives where no node of a shortest path lies on the link with its next one -/
theorem Wk.arrives {d a b u s : Int} (hs : 0 ≤ s ∧ s < R) {p : List Int} {ok : Bool} (h : Wk R l d a b u p ok) (ho : On l s d u) (hl : ∀ x y, On l s d x → On l s d y → ¬ OnLink a b x y) : ok = true ∧ p.getLast? = some d := by
  induction h with
  | here => exact ⟨rfl, rfl⟩
  | none hu hn =>
    rename_i u
    have hun := ho.node hv (by omega)
    obtain ⟨h, hh⟩ := Hop.ex hv (s := u) (v := d) (by omega) (Ne.symm hu) ho.2.1
    exact absurd hh (hn h)
  | cut hu hn hc => exact absurd hc (hl _ _ ho (On.hop hv ho hn.1))
  | go hu hn hc hw ih =>
    obtain ⟨h1, h2⟩ := ih (On.hop hv ho hn.1)
    refine ⟨h1, ?_⟩
    cases hw <;> simp_all [List.getLast?_cons]
end
end Go.Proofs.Ytmbogobebllheaa.SP
namespace Go.Proofs.Ytmbogobebllheaa.SP
open GM HM Classical
set_option linter.unusedVariables false
set_option linter.unusedSimpArgs false
/-- an element of a table, if it has it -/
def ent (tab : List (List Int)) (x y : Int) : Option Int := if 0 ≤ x ∧ 0 ≤ y then (tab[x.toNat]?).bind (fun r => r[y.toNat]?) else none
theorem ent_neg {tab : List (List Int)} {x y : Int} (h : ¬ (0 ≤ x ∧ 0 ≤ y)) : ent tab x y = none := by unfold ent; rw [if_neg h]
theorem ent_nat (tab : List (List Int)) (a b : Nat) : ent tab (a : Int) (b : Int) = (tab[a]?).bind (fun r => r[b]?) := by
  unfold ent; rw [if_pos ⟨by omega, by omega⟩]; simp
theorem ent_row {tab : List (List Int)} {x : Int} (h : ¬ (0 ≤ x ∧ x < (tab.length : Int))) (y : Int) : ent tab x y = none := by
  unfold ent
  split
  · rename_i k
    rw [List.getElem?_eq_none (by omega)]; rfl
  · rfl
/-- the value, 0 if there is none -/
def entV (o : Option Int) : Int := o.getD 0
def avO : Option Int → Option Int → Option Int → Bool
  | some a, some b, some c => decide (0 ≤ a) && (decide (b < 0) || decide (c < 0) || decide (a - b < c))
  | _, _, _ => false
def dnO : Option Int → Option Int → Bool
  | some a, some b => decide (0 ≤ a) && (decide (b < 0) || decide (a < b))
  | _, _ => false
/-- no shortest path from n to d leads through x, by a table -/
def avT (tab : List (List Int)) (n x d : Int) : Bool := avO (ent tab n d) (ent tab n x) (ent tab x d)
def dnT (tab : List (List Int)) (s n d : Int) : Bool := dnO (ent tab n d) (ent tab s d)
section
variable {l : List E} {tab : List (List Int)} {n : Nat} (ht : ∀ i k : Int, 0 ≤ i → i < n → 0 ≤ k → k < n → ent tab i k = some (T l i k))
include ht
theorem avT_iff {a x d : Int} (ha : 0 ≤ a ∧ a < n) (hx : 0 ≤ x ∧ x < n) (hd : 0 ≤ d ∧ d < n) : avT tab a x d = true ↔ Avoid l a x d := by
  unfold avT
  rw [ht a d ha.1 ha.2 hd.1 hd.2, ht a x ha.1 ha.2 hx.1 hx.2, ht x d hx.1 hx.2 hd.1 hd.2]
  unfold Avoid
  dsimp only [avO]
  have e : decide (T l a d - T l a x < T l x d) = decide (T l a d < T l a x + T l x d) := by
    rw [decide_eq_decide]; omega
  rw [e]
  simp [or_assoc]
theorem dnT_eq {s a d : Int} (hs : 0 ≤ s ∧ s < n) (ha : 0 ≤ a ∧ a < n) (hd : 0 ≤ d ∧ d < n) : dnT tab s a d = decide (0 ≤ T l a d ∧ (T l s d < 0 ∨ T l a d < T l s d)) := by
  unfold dnT
  rw [ht a d ha.1 ha.2 hd.1 hd.2, ht s d hs.1 hs.2 hd.1 hd.2, Bool.eq_iff_iff]
  unfold dnO
  simp
end
end Go.Proofs.Ytmbogobebllheaa.SP
