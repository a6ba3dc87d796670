/-
  The search of shortest paths as mathematics: what its rows hold at every step.
-/
import Derived.Test.YtmlpbhankgojpaaSpP
import Derived.Test.YtmlpbhankgojpaaHpMath
namespace Go.Proofs.Ytmlpbhankgojpaa.SP
open GM HM Classical
set_option linter.unusedVariables false
set_option linter.unusedSimpArgs false

/-- an ascending list of the numbers with P -/
def RowI (P : Int → Prop) (r : List Int) : Prop := r.Pairwise (· < ·) ∧ ∀ x, x ∈ r ↔ P x
theorem RowI.congr {P Q : Int → Prop} {r : List Int} (h : RowI P r) (he : ∀ x, P x ↔ Q x) : RowI Q r := ⟨h.1, fun x => (h.2 x).trans (he x)⟩
theorem RowI.nil {P : Int → Prop} (h : ∀ x, ¬ P x) : RowI P [] := ⟨List.Pairwise.nil, fun x => ⟨(fun h => absurd h (by simp)), fun hx => absurd hx (h x)⟩⟩
theorem RowI.unique {P : Int → Prop} {r q : List Int} (h : RowI P r) (k : RowI P q) : r = q := by
  have key : ∀ (r q : List Int), r.Pairwise (· < ·) → q.Pairwise (· < ·) → (∀ x, x ∈ r ↔ x ∈ q) → r = q := by
    intro r
    induction r with
    | nil =>
      intro q _ _ h
      cases q with
      | nil => rfl
      | cons a q => have := (h a).2 (by simp); cases this
    | cons a r ih =>
      intro q h1 h2 h
      cases q with
      | nil => have := (h a).1 (by simp); cases this
      | cons b q =>
        obtain ⟨a1, a2⟩ := List.pairwise_cons.1 h1
        obtain ⟨b1, b2⟩ := List.pairwise_cons.1 h2
        have e : a = b := by
          rcases List.mem_cons.1 ((h a).1 (by simp)) with e | e
          · exact e
          · rcases List.mem_cons.1 ((h b).2 (by simp)) with e' | e'
            · exact e'.symm
            · have := a1 b e'; have := b1 a e; omega
        subst e
        congr 1
        refine ih q a2 b2 fun x => ?_
        have hx := h x
        simp only [List.mem_cons] at hx
        constructor
        · intro hr
          rcases hx.1 (.inr hr) with e | e
          · subst e; have := a1 x hr; omega
          · exact e
        · intro hr
          rcases hx.2 (.inr hr) with e | e
          · subst e; have := b1 x hr; omega
          · exact e
  exact key r q h.1 k.1 fun x => (h.2 x).trans (k.2 x).symm
/-- x at place p -/
def putI (r : List Int) (p : Nat) (x : Int) : List Int := r.take p ++ x :: r.drop p
theorem putI_len {r : List Int} {p : Nat} {x : Int} (hp : p ≤ r.length) : (putI r p x).length = r.length + 1 := by unfold putI; simp; omega
theorem RowI.put {P : Int → Prop} {r : List Int} (h : RowI P r) {p : Nat} {x : Int} (hp : p ≤ r.length) (h1 : ∀ i, i < p → gI r i < x) (h2 : ∀ i, p ≤ i → i < r.length → x < gI r i) : RowI (fun y => P y ∨ y = x) (putI r p x) := by
  have low : ∀ y ∈ r.take p, y < x := fun y hy => by
    obtain ⟨i, hi⟩ := List.getElem?_of_mem hy
    have hlt := (List.getElem?_eq_some_iff.1 hi).1
    rw [List.getElem?_take] at hi
    have hip : i < p := by simp at hlt; omega
    rw [if_pos hip] at hi
    have := h1 i hip
    unfold gI at this; rw [hi] at this; exact this
  have high : ∀ y ∈ r.drop p, x < y := fun y hy => by
    obtain ⟨i, hi⟩ := List.getElem?_of_mem hy
    rw [List.getElem?_drop] at hi
    have hlt := (List.getElem?_eq_some_iff.1 hi).1
    have := h2 (p + i) (by omega) hlt
    unfold gI at this; rw [hi] at this; exact this
  have hsp : r = r.take p ++ r.drop p := (List.take_append_drop p r).symm
  have hpw := h.1
  rw [hsp, List.pairwise_append] at hpw
  refine ⟨?_, fun y => ?_⟩
  · unfold putI
    rw [List.pairwise_append]
    refine ⟨hpw.1, List.pairwise_cons.2 ⟨high, hpw.2.1⟩, fun a ha b hb => ?_⟩
    rcases List.mem_cons.1 hb with rfl | hb
    · exact low a ha
    · exact hpw.2.2 a ha b hb
  · unfold putI
    show _ ↔ (P y ∨ y = x)
    rw [← h.2 y, List.mem_append, List.mem_cons]
    constructor
    · rintro (h3 | h3 | h3)
      · exact .inl (List.mem_of_mem_take h3)
      · exact .inr h3
      · exact .inl (List.mem_of_mem_drop h3)
    · rintro (h3 | h3)
      · rw [hsp, List.mem_append] at h3
        rcases h3 with h3 | h3
        · exact .inl h3
        · exact .inr (.inr h3)
      · exact .inr (.inl h3)
theorem RowI.old {P : Int → Prop} {r : List Int} (h : RowI P r) {x : Int} (hx : x ∈ r) : RowI (fun y => P y ∨ y = x) r :=
  h.congr fun y => ⟨.inl, fun e => e.elim id (fun e => e ▸ (h.2 x).1 hx)⟩
/-- distances in a row -/
def dO (d : List Int) : Int → Int := fun y => gI d y.toNat
theorem dO_nat (d : List Int) (v : Nat) : dO d (v : Int) = gI d v := rfl
def gL (r : List (List Int)) (v : Nat) : List Int := r[v]?.getD []
theorem gL_set {r : List (List Int)} {q p : Nat} {x : List Int} (hq : q < r.length) : gL (r.set q x) p = if p = q then x else gL r p := by
  unfold gL; rw [List.getElem?_set]
  by_cases h : q = p
  · subst h; simp [hq]
  · rw [if_neg h, if_neg (fun e => h e.symm)]
theorem gL_get {r : List (List Int)} {p : Nat} (h : p < r.length) : r[p]? = some (gL r p) := by unfold gL; simp [h]
section
variable {R N : Int} {l : List E} {s : Int} {S : Int → Prop} {X : E → Prop} {D D' : Int → Int}
theorem Inv.congrD (hv : Valid R N l) (hs : 0 ≤ s ∧ s < R + N) (h : Inv R N l s S X D) (he : ∀ y, 0 ≤ y → y < R + N → D' y = D y) : Inv R N l s S X D' := by
  refine ⟨⟨h.root.1, (he s hs.1 hs.2).trans h.root.2⟩, fun v h0 h1 hne => ?_, h.sub, fun v hS => ?_, fun v y hS h0 h1 hy hd => ?_⟩
  · rw [he v h0 h1]; exact h.best v h0 h1 hne
  · have := h.set v hS
    rw [he v this.1.1 this.1.2]; exact this
  · rw [he y h0 h1] at hd ⊢; exact h.far v y hS h0 h1 hy hd
end
/-- the rows of a search -/
structure Sr (R N : Int) (l : List E) (s : Int) (S : Int → Prop) (X : E → Prop) (n : Nat) (dist : List Int) (hops pars : List (List Int)) : Prop where
  inv : Inv R N l s S X (dO dist)
  ld : dist.length = n
  lh : hops.length = n
  lp : pars.length = n
  hp : ∀ v, v < n → RowI (PX l s X (dO dist) (v : Int)) (gL pars v)
  hh : ∀ v, v < n → RowI (HX R l s X (dO dist) (v : Int)) (gL hops v)
/-- the queue of a search -/
structure Qu (R : Int) (S : Int → Prop) (n : Nat) (dist : List Int) (ins : List Bool) (keys : List Int) : Prop where
  li : ins.length = n
  lk : keys.length = n
  i : ∀ v, v < n → (gB ins v = true ↔ (¬ S (v : Int) ∧ 0 ≤ gI dist v))
  k : ∀ v, v < n → gB ins v = true → gI keys v = tr R (v : Int) (gI dist v)
def outs (l : List E) (v : Int) : List E := l.filter (fun e => decide (e.1 = v))
/-- x is followed, its first k edges are done -/
structure At (R N : Int) (l : List E) (s : Int) (n : Nat) (x k : Nat) (dist : List Int) (hops pars : List (List Int)) (ins : List Bool) (keys : List Int) (S : Int → Prop) (X : E → Prop) : Prop where
  sr : Sr R N l s S X n dist hops pars
  qu : Qu R S n dist ins keys
  xn : x < n
  xS : S (x : Int)
  rem : ∀ e, e ∈ l → S e.1 → X e ∨ e ∈ (outs l (x : Int)).drop k
  far : ∀ u, S u → tr R u (T l s u) ≤ tr R (x : Int) (T l s (x : Int))
  hx : RowI (Hop R l s (x : Int)) (gL hops x)
/-- between two nodes -/
structure Bt (R N : Int) (l : List E) (s : Int) (n : Nat) (dist : List Int) (hops pars : List (List Int)) (ins : List Bool) (keys : List Int) (S : Int → Prop) (X : E → Prop) : Prop where
  sr : Sr R N l s S X n dist hops pars
  qu : Qu R S n dist ins keys
  full : Full l S X
/-- the tree -/
structure Tree (R N : Int) (l : List E) (s : Int) (n : Nat) (dist : List Int) (hops pars : List (List Int)) : Prop where
  ld : dist.length = n
  lh : hops.length = n
  lp : pars.length = n
  d : ∀ v : Nat, v < n → gI dist v = T l s (v : Int)
  p : ∀ v : Nat, v < n → RowI (Par l s (v : Int)) (gL pars v)
  h : ∀ v : Nat, v < n → RowI (Hop R l s (v : Int)) (gL hops v)
theorem ext_gI {a b : List Int} (h : a.length = b.length) (he : ∀ v, v < a.length → gI a v = gI b v) : a = b := by
  refine List.ext_getElem h fun v h1 h2 => ?_
  have := he v h1
  unfold gI at this
  simpa [h1, h2] using this
theorem ext_gL {a b : List (List Int)} (h : a.length = b.length) (he : ∀ v, v < a.length → gL a v = gL b v) : a = b := by
  refine List.ext_getElem h fun v h1 h2 => ?_
  have := he v h1
  unfold gL at this
  simpa [h1, h2] using this
theorem Tree.unique {R N : Int} {l : List E} {s : Int} {n : Nat} {d d' : List Int} {h h' p p' : List (List Int)} (a : Tree R N l s n d h p) (b : Tree R N l s n d' h' p') : d = d' ∧ h = h' ∧ p = p' :=
  ⟨ext_gI (by rw [a.ld, b.ld]) fun v hv => by rw [a.ld] at hv; rw [a.d v hv, b.d v hv],
   ext_gL (by rw [a.lh, b.lh]) fun v hv => by rw [a.lh] at hv; exact (a.h v hv).unique (b.h v hv),
   ext_gL (by rw [a.lp, b.lp]) fun v hv => by rw [a.lp] at hv; exact (a.p v hv).unique (b.p v hv)⟩
section
variable {R N : Int} {l : List E} (hv : Valid R N l) {s : Int} (hs : 0 ≤ s ∧ s < R) {n : Nat} (hn : (n : Int) = R + N)
variable {dist : List Int} {hops pars : List (List Int)} {ins : List Bool} {keys : List Int} {S : Int → Prop} {X : E → Prop}
include hv hs hn
/-- the end of a search -/
theorem Bt.end_ (h : Bt R N l s n dist hops pars ins keys S X) (he : ∀ v, v < n → gB ins v = false) : Tree R N l s n dist hops pars := by
  have hout : ∀ y, 0 ≤ y → y < R + N → ¬ S y → ¬ 0 ≤ dO dist y := fun y h0 h1 hS hd => by
    obtain ⟨v, rfl⟩ : ∃ v : Nat, y = v := ⟨y.toNat, by omega⟩
    have := (h.qu.i v (by omega)).2 ⟨hS, hd⟩
    rw [he v (by omega)] at this; cases this
  have hD := h.sr.inv.end_ hv h.full hout
  have hT : ∀ u, 0 ≤ u → u < R + N → 0 ≤ T l s u → S u := fun u h0 h1 hu => Classical.byContradiction fun hS => hout u h0 h1 hS (by rw [hD u h0 h1]; exact hu)
  have hed : ∀ e, X e → e ∈ l ∧ 0 ≤ T l s e.1 := fun e hX => ⟨(h.sr.inv.sub e hX).1, (h.sr.inv.set _ (h.sr.inv.sub e hX).2).2.2⟩
  have hX : ∀ u v c, (u, v, c) ∈ l → 0 ≤ T l s u → X (u, v, c) := fun u v c hu ht => by
    have := edge hv hu
    exact h.full _ hu (hT u this.1 this.2.1 ht)
  refine ⟨h.sr.ld, h.sr.lh, h.sr.lp, fun v hvn => hD v (by omega) (by omega), fun v hvn => (h.sr.hp v hvn).congr fun u => ?_, fun v hvn => (h.sr.hh v hvn).congr fun k => ?_⟩
  · unfold PX Par
    rw [hD v (by omega) (by omega)]
    constructor
    · rintro ⟨c, h1, h2⟩; exact ⟨c, (hed _ h1).1, (hed _ h1).2, h2⟩
    · rintro ⟨c, h1, h2, h3⟩; exact ⟨c, hX _ _ _ h1 h2, h3⟩
  · by_cases hc : (v : Int) ≠ s ∧ 0 ≤ T l s (v : Int)
    · rw [hop_rec hv hs.2 hc.1 hc.2]
      unfold HX
      rw [hD v (by omega) (by omega)]
      constructor
      · rintro ⟨u, c, h1, h2, h3⟩; exact ⟨u, c, (hed _ h1).1, (hed _ h1).2, h2, h3⟩
      · rintro ⟨u, c, h1, h2, h3, h4⟩; exact ⟨u, c, hX _ _ _ h1 h2, h3, h4⟩
    · constructor
      · rintro ⟨u, c, h1, h2, h3⟩
        exfalso
        rw [hD v (by omega) (by omega)] at h2
        have h4 := hed _ h1
        have := T_edge hv h4.2 h4.1
        by_cases e : (v : Int) = s
        · rw [e] at h1 h2
          exact Par.self hv u hs.2 ⟨c, (hed _ h1).1, h4.2, h2⟩
        · exact hc ⟨e, this.1⟩
      · rintro ⟨h1, h2, _⟩; exact absurd ⟨h1, h2⟩ hc
/-- a node leaves the queue -/
theorem Bt.pop (h : Bt R N l s n dist hops pars ins keys S X) {x : Nat} (hx : x < n) (hi : gB ins x = true) (hm : ∀ y, y < n → gB ins y = true → ¬ lt (gI keys) y x) :
    At R N l s n x 0 dist hops pars (ins.set x false) keys (fun v => S v ∨ v = (x : Int)) X := by
  obtain ⟨hS, hd⟩ := (h.qu.i x hx).1 hi
  have hmin : ∀ y, 0 ≤ y → y < R + N → ¬ S y → 0 ≤ dO dist y → tr R x (dO dist x) ≤ tr R y (dO dist y) := fun y h0 h1 hy hdy => by
    obtain ⟨v, rfl⟩ : ∃ v : Nat, y = v := ⟨y.toNat, by omega⟩
    have hvi := (h.qu.i v (by omega)).2 ⟨hy, hdy⟩
    have := hm v (by omega) hvi
    unfold lt at this
    rw [h.qu.k v (by omega) hvi, h.qu.k x hx hi] at this
    rw [dO_nat, dO_nat]
    omega
  have hxn : (0 : Int) ≤ (x : Int) ∧ (x : Int) < R + N := by omega
  have hxs : (x : Int) ≠ s := fun e => hS (e ▸ h.sr.inv.root.1)
  obtain ⟨p1, p2, p3⟩ := h.sr.inv.pop hv h.full hxn hS hd hmin
  refine ⟨⟨h.sr.inv.add hv h.full hxn hS hd hmin, h.sr.ld, h.sr.lh, h.sr.lp, h.sr.hp, h.sr.hh⟩, ⟨by simp [h.qu.li], h.qu.lk, fun v hvn => ?_, fun v hvn hb => ?_⟩, hx, .inr rfl, fun e he hSe => ?_, fun u hu => ?_, ?_⟩
  · rw [gB_set (by rw [h.qu.li]; exact hx)]
    by_cases e : v = x
    · subst e; simp
    · rw [if_neg e, h.qu.i v hvn]
      have : (v : Int) ≠ (x : Int) := by omega
      simp [this]
  · rw [gB_set (by rw [h.qu.li]; exact hx)] at hb
    by_cases e : v = x
    · rw [if_pos e] at hb; cases hb
    · rw [if_neg e] at hb; exact h.qu.k v hvn hb
  · rcases hSe with hSe | hSe
    · exact .inl (h.full e he hSe)
    · exact .inr (by simpa [outs] using ⟨he, hSe⟩)
  · rcases hu with hu | rfl
    · have := h.sr.inv.far u x hu hxn.1 hxn.2 hS hd
      rwa [p1] at this
    · exact Int.le_refl _
  · exact (h.sr.hh x hx).congr (h.sr.inv.hop hv hs.2 h.full hxs p2 p1 p3)
/-- the root leaves the queue -/
theorem At.root {x : Nat} (hx : s = (x : Int)) : At R N l s n x 0 ((List.replicate n (-1)).set x 0) (List.replicate n []) (List.replicate n []) ((List.replicate n false)) (keys := (List.replicate n 0).set x 0) (S := fun v => v = s) (X := fun _ => False) := by
  have hxn : x < n := by have := hv.n; omega
  have hT : T l s s = 0 := T_self hv s
  have gd : ∀ v, v < n → gI ((List.replicate n (-1)).set x 0) v = if v = x then 0 else -1 := fun v hvn => by
    rw [gI_set (by simpa using hxn)]
    split
    · rfl
    · unfold gI; simp [hvn]
  have ge : ∀ v, v < n → gL (List.replicate n []) v = [] := fun v hvn => by unfold gL; simp [hvn]
  refine ⟨⟨⟨⟨rfl, ?_⟩, fun v h0 h1 hne => .inl ⟨?_, fun e he => he.elim⟩, fun e he => he.elim, fun v hS => ?_, fun v y hS h0 h1 hy hd => ?_⟩, by simp, by simp, by simp, fun v hvn => ?_, fun v hvn => ?_⟩, ⟨by simp, by simp, fun v hvn => ?_, fun v hvn hb => ?_⟩, hxn, hx.symm, fun e he hSe => .inr ?_, fun u hu => ?_, ?_⟩
  · rw [hx, dO_nat, gd x hxn, if_pos rfl]
  · obtain ⟨v, rfl⟩ : ∃ u : Nat, v = u := ⟨v.toNat, by omega⟩
    rw [dO_nat, gd v (by omega), if_neg (fun e => hne (by rw [hx, e]))]
  · subst hS
    refine ⟨⟨hs.1, by have := hv.n; omega⟩, ?_, by omega⟩
    rw [hT, hx, dO_nat, gd x hxn, if_pos rfl]
  · obtain ⟨u, rfl⟩ : ∃ u : Nat, y = u := ⟨y.toNat, by omega⟩
    rw [dO_nat, gd u (by omega)] at hd
    by_cases e : u = x
    · exact absurd (by rw [e, hx]) hy
    · rw [if_neg e] at hd; omega
  · rw [ge v hvn]; exact RowI.nil fun u hu => by obtain ⟨c, h, _⟩ := hu; exact h
  · rw [ge v hvn]; exact RowI.nil fun u hu => by obtain ⟨_, c, h, _⟩ := hu; exact h
  · rw [gd v hvn]
    have : gB (List.replicate n false) v = false := by unfold gB; simp [hvn]
    rw [this]
    by_cases e : v = x
    · simp [e, hx]
    · rw [if_neg e]; simp
  · have : gB (List.replicate n false) v = false := by unfold gB; simp [hvn]
    rw [this] at hb; cases hb
  · simpa [outs] using ⟨he, hSe.trans hx⟩
  · subst hu; rw [← hx]; exact Int.le_refl _
  · rw [ge x hxn]; exact RowI.nil fun k hk => hk.1 hx.symm
omit hv hs hn in
/-- all edges of a node are done -/
theorem At.done {x : Nat} (h : At R N l s n x (outs l (x : Int)).length dist hops pars ins keys S X) : Bt R N l s n dist hops pars ins keys S X :=
  ⟨h.sr, h.qu, fun e he hS => (h.rem e he hS).elim id (fun hd => by simp at hd)⟩
omit hv hs hn in
theorem At.drop {x k : Nat} (h : At R N l s n x k dist hops pars ins keys S X) {v c : Int} (he : (outs l (x : Int))[k]? = some ((x : Int), v, c)) (e : E) (hl : e ∈ l) (hS : S e.1) : (X e ∨ e = ((x : Int), v, c)) ∨ e ∈ (outs l (x : Int)).drop (k + 1) := by
  rcases h.rem e hl hS with h1 | h1
  · exact .inl (.inl h1)
  · obtain ⟨hk, hk2⟩ := List.getElem?_eq_some_iff.1 he
    rw [List.drop_eq_getElem_cons hk, hk2] at h1
    rcases List.mem_cons.1 h1 with h1 | h1
    · exact .inl (.inr h1)
    · exact .inr h1
omit hs hn hv in
theorem outs_get {x : Int} {k : Nat} {e : E} (he : (outs l x)[k]? = some e) : e ∈ l ∧ e.1 = x := by
  have := List.mem_of_getElem? he
  simpa [outs] using this
omit hs in
/-- what an edge meets -/
theorem At.facts {x k : Nat} (h : At R N l s n x k dist hops pars ins keys S X) {v : Nat} {c : Int} (he : (outs l (x : Int))[k]? = some ((x : Int), (v : Int), c)) :
    ((x : Int), (v : Int), c) ∈ l ∧ v < n ∧ v ≠ x ∧ 0 ≤ c ∧ c ≤ 65535 ∧ gI dist x = T l s x ∧ 0 ≤ gI dist x ∧ (S (v : Int) → 0 ≤ gI dist v ∧ gI dist v < gI dist x + c) := by
  have h1 := (outs_get he).1
  have h2 := edge hv h1
  have h3 := h.sr.inv.set _ h.xS
  have h4 : gI dist x = T l s x := h3.2.1
  refine ⟨h1, by omega, by omega, h2.2.2.2.2.2.1, h2.2.2.2.2.2.2.1, h4, by omega, fun hS => ?_⟩
  have h5 := h.sr.inv.set _ hS
  have h6 : gI dist v = T l s v := h5.2.1
  have := Inv.longer hv h.sr.inv h.xS hS h1 (h.far _ hS)
  omega
omit hs in
theorem At.skip {x k : Nat} (h : At R N l s n x k dist hops pars ins keys S X) {v : Nat} {c : Int} (he : (outs l (x : Int))[k]? = some ((x : Int), (v : Int), c)) (h0 : 0 ≤ gI dist v) (hlt : gI dist v < gI dist x + c) :
    At R N l s n x (k + 1) dist hops pars ins keys S (fun e => X e ∨ e = ((x : Int), (v : Int), c)) := by
  obtain ⟨f1, f2, f3, f4, f5, f6, f7, f8⟩ := h.facts hv hn he
  have hlt' : dO dist (v : Int) < T l s (x : Int) + c := by rw [dO_nat]; omega
  exact ⟨⟨h.sr.inv.skip h.xS f1 h0 hlt', h.sr.ld, h.sr.lh, h.sr.lp, fun u hu => (h.sr.hp u hu).congr fun y => (PX.skip hlt' _ _).symm, fun u hu => (h.sr.hh u hu).congr fun y => (HX.skip hlt' _ _).symm⟩, h.qu, h.xn, h.xS, h.drop he, h.far, h.hx⟩
omit hs in
theorem At.same {x k : Nat} (h : At R N l s n x k dist hops pars ins keys S X) {v : Nat} {c : Int} (he : (outs l (x : Int))[k]? = some ((x : Int), (v : Int), c)) (hd : gI dist v = gI dist x + c) {rp rh : List Int}
    (hp : RowI (fun y => y ∈ gL pars v ∨ y = (x : Int)) rp) (hh : RowI (fun y => y ∈ gL hops v ∨ Con R s x v y (fun k => k ∈ gL hops x)) rh) :
    At R N l s n x (k + 1) dist (hops.set v rh) (pars.set v rp) ins keys S (fun e => X e ∨ e = ((x : Int), (v : Int), c)) := by
  obtain ⟨f1, f2, f3, f4, f5, f6, f7, f8⟩ := h.facts hv hn he
  have hd' : dO dist (v : Int) = T l s (x : Int) + c := by rw [dO_nat]; omega
  refine ⟨⟨h.sr.inv.same hv h.xS f1 hd', h.sr.ld, by simp [h.sr.lh], by simp [h.sr.lp], fun u hu => ?_, fun u hu => ?_⟩, h.qu, h.xn, h.xS, h.drop he, h.far, ?_⟩
  · rw [gL_set (by rw [h.sr.lp]; exact f2)]
    by_cases e : u = v
    · subst e
      rw [if_pos rfl]
      refine hp.congr fun y => ?_
      rw [PX.same hd', (h.sr.hp u hu).2 y]
      simp
    · rw [if_neg e]
      refine (h.sr.hp u hu).congr fun y => ?_
      rw [PX.same hd']
      have : (u : Int) ≠ (v : Int) := by omega
      simp [this]
  · rw [gL_set (by rw [h.sr.lh]; exact f2)]
    by_cases e : u = v
    · subst e
      rw [if_pos rfl]
      refine hh.congr fun y => ?_
      rw [HX.same hd', (h.sr.hh u hu).2 y]
      have : (fun k => k ∈ gL hops x) = Hop R l s (x : Int) := funext fun k => propext (h.hx.2 k)
      rw [this]; simp
    · rw [if_neg e]
      refine (h.sr.hh u hu).congr fun y => ?_
      rw [HX.same hd']
      have : (u : Int) ≠ (v : Int) := by omega
      simp [this]
  · rw [gL_set (by rw [h.sr.lh]; exact f2), if_neg (Ne.symm f3)]; exact h.hx
theorem At.less {x k : Nat} (h : At R N l s n x k dist hops pars ins keys S X) {v : Nat} {c : Int} (he : (outs l (x : Int))[k]? = some ((x : Int), (v : Int), c)) (hd : gI dist v < 0 ∨ gI dist x + c < gI dist v) {rp rh : List Int}
    (hp : RowI (fun y => y ∈ ([] : List Int) ∨ y = (x : Int)) rp) (hh : RowI (fun y => y ∈ ([] : List Int) ∨ Con R s x v y (fun k => k ∈ gL hops x)) rh) :
    At R N l s n x (k + 1) (dist.set v (gI dist x + c)) (hops.set v rh) (pars.set v rp) (ins.set v true) (keys.set v (tr R (v : Int) (gI dist x + c))) S (fun e => X e ∨ e = ((x : Int), (v : Int), c)) := by
  obtain ⟨f1, f2, f3, f4, f5, f6, f7, f8⟩ := h.facts hv hn he
  have hS : ¬ S (v : Int) := fun hS => by have := f8 hS; omega
  have hd' : dO dist (v : Int) < 0 ∨ T l s (x : Int) + c < dO dist (v : Int) := by rw [dO_nat]; omega
  have hb := h.sr.inv.before hv h.xS f1 (fun e => hS (e ▸ h.sr.inv.root.1)) hd'
  have hin := h.sr.inv.less hv h.xS hS f1 hd' h.far
  have hcg : ∀ y : Int, 0 ≤ y → y < R + N → dO (dist.set v (gI dist x + c)) y = nd (dO dist) (v : Int) (T l s (x : Int) + c) y := fun y h0 h1 => by
    obtain ⟨u, rfl⟩ : ∃ u : Nat, y = u := ⟨y.toNat, by omega⟩
    rw [dO_nat, gI_set (by rw [h.sr.ld]; exact f2)]
    unfold nd
    by_cases e : u = v
    · rw [if_pos e, if_pos (by omega), f6]
    · rw [if_neg e, if_neg (by omega), dO_nat]
  refine ⟨⟨hin.congrD hv ⟨hs.1, by have := hv.n; omega⟩ hcg, by simp [h.sr.ld], by simp [h.sr.lh], by simp [h.sr.lp], fun u hu => ?_, fun u hu => ?_⟩, ⟨by simp [h.qu.li], by simp [h.qu.lk], fun u hu => ?_, fun u hu hbu => ?_⟩, h.xn, h.xS, h.drop he, h.far, ?_⟩
  · have e1 : ∀ y, PX l s (fun e => X e ∨ e = ((x : Int), (v : Int), c)) (dO (dist.set v (gI dist x + c))) (u : Int) y ↔ PX l s (fun e => X e ∨ e = ((x : Int), (v : Int), c)) (nd (dO dist) (v : Int) (T l s (x : Int) + c)) (u : Int) y := fun y => by
      unfold PX; rw [hcg u (by omega) (by omega)]
    rw [gL_set (by rw [h.sr.lp]; exact f2)]
    by_cases e : u = v
    · subst e
      rw [if_pos rfl]
      refine hp.congr fun y => ?_
      rw [e1, PX.less hb, if_pos rfl]; simp
    · rw [if_neg e]
      refine (h.sr.hp u hu).congr fun y => ?_
      rw [e1, PX.less hb, if_neg (by omega)]
  · have e1 : ∀ y, HX R l s (fun e => X e ∨ e = ((x : Int), (v : Int), c)) (dO (dist.set v (gI dist x + c))) (u : Int) y ↔ HX R l s (fun e => X e ∨ e = ((x : Int), (v : Int), c)) (nd (dO dist) (v : Int) (T l s (x : Int) + c)) (u : Int) y := fun y => by
      unfold HX; rw [hcg u (by omega) (by omega)]
    rw [gL_set (by rw [h.sr.lh]; exact f2)]
    by_cases e : u = v
    · subst e
      rw [if_pos rfl]
      refine hh.congr fun y => ?_
      have : (fun k => k ∈ gL hops x) = Hop R l s (x : Int) := funext fun k => propext (h.hx.2 k)
      rw [e1, HX.less hb, if_pos rfl, this]; simp
    · rw [if_neg e]
      refine (h.sr.hh u hu).congr fun y => ?_
      rw [e1, HX.less hb, if_neg (by omega)]
  · rw [gB_set (by rw [h.qu.li]; exact f2), gI_set (by rw [h.sr.ld]; exact f2)]
    by_cases e : u = v
    · subst e; rw [if_pos rfl, if_pos rfl]; simp [hS]; omega
    · rw [if_neg e, if_neg e]; exact h.qu.i u hu
  · rw [gB_set (by rw [h.qu.li]; exact f2)] at hbu
    rw [gI_set (by rw [h.qu.lk]; exact f2), gI_set (by rw [h.sr.ld]; exact f2)]
    by_cases e : u = v
    · subst e; rw [if_pos rfl, if_pos rfl]
    · rw [if_neg e] at hbu ⊢; rw [if_neg e]; exact h.qu.k u hu hbu
  · rw [gL_set (by rw [h.sr.lh]; exact f2), if_neg (Ne.symm f3)]; exact h.hx
end
end Go.Proofs.Ytmlpbhankgojpaa.SP
