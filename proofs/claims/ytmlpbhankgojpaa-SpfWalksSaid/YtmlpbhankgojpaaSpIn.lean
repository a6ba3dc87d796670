/-
  What the loops of a search keep, as mathematics.
-/
import Derived.Test.YtmlpbhankgojpaaSpOut
import Derived.Test.YtmlpbhankgojpaaHpE
namespace Go.Proofs.Ytmlpbhankgojpaa
open HM GM SP Classical
set_option linter.unusedVariables false
set_option linter.unusedSimpArgs false

noncomputable def nS (S : Int → Prop) (v : Nat) : Bool := if S (v : Int) then false else true
theorem nS_iff {S : Int → Prop} {v : Nat} : nS S v = true ↔ ¬ S (v : Int) := by unfold nS; split <;> simp [*]
noncomputable def unS (n : Nat) (S : Int → Prop) : Nat := (List.range n).countP (nS S)
theorem unS_le (n : Nat) (S : Int → Prop) : unS n S ≤ n := by
  have := List.countP_le_length (p := nS S) (l := List.range n)
  rw [List.length_range] at this; exact this
theorem unS_add {n y : Nat} {S : Int → Prop} (hy : y < n) (hS : ¬ S (y : Int)) : unS n (fun v => S v ∨ v = (y : Int)) + 1 ≤ unS n S := by
  have key : ∀ l : List Nat, l.countP (nS (fun v => S v ∨ v = (y : Int))) ≤ l.countP (nS S) ∧ (y ∈ l → l.countP (nS (fun v => S v ∨ v = (y : Int))) + 1 ≤ l.countP (nS S)) := by
    intro l
    induction l with
    | nil => exact ⟨Nat.le_refl _, fun h => by cases h⟩
    | cons a l ih =>
      by_cases ha : a = y
      · subst ha
        rw [List.countP_cons_of_neg (by rw [nS_iff]; simp), List.countP_cons_of_pos (nS_iff.2 hS)]
        exact ⟨by omega, fun _ => by omega⟩
      · have hya : y ∈ a :: l → y ∈ l := fun h => (List.mem_cons.1 h).elim (fun e => absurd e.symm ha) id
        have hai : (a : Int) ≠ (y : Int) := by omega
        by_cases hSa : S (a : Int)
        · rw [List.countP_cons_of_neg (by rw [nS_iff]; simp [hSa]), List.countP_cons_of_neg (by rw [nS_iff]; simp [hSa])]
          exact ⟨ih.1, fun h => ih.2 (hya h)⟩
        · rw [List.countP_cons_of_pos (nS_iff.2 (by simp [hSa, hai])), List.countP_cons_of_pos (nS_iff.2 hSa)]
          exact ⟨by omega, fun h => by have := ih.2 (hya h); omega⟩
  exact (key (List.range n)).2 (List.mem_range.2 hy)
section
variable {R N : Int} {l : List E} {x n : Nat}
/-- between two nodes -/
def OutR (R N : Int) (l : List E) (x n g : Nat) (dist : List Int) (hops pars : List (List Int)) (ins : List Bool) (keys : List Int) : Prop :=
  (dist.length = n ∧ (∀ v, v < n → gI dist v ≤ 65535 * ((n : Int) + 1 - g)) ∧ g ≤ n + 1) ∧ ((dist = (List.replicate n (-1)).set x 0 ∧ hops = List.replicate n [] ∧ pars = List.replicate n [] ∧ ins = (List.replicate n false).set x true ∧ keys = (List.replicate n 0).set x 0 ∧ n + 1 ≤ g) ∨
  ∃ S X, Bt R N l (x : Int) n dist hops pars ins keys S X ∧ unS n S ≤ g)
/-- y is followed, k edges are done -/
def InR (R N : Int) (l : List E) (x n y k : Nat) (B : Int) (m : Nat) (dist : List Int) (hops pars : List (List Int)) (ins : List Bool) (keys : List Int) : Prop :=
  ∃ S X, At R N l (x : Int) n y k dist hops pars ins keys S X ∧ unS n S ≤ m ∧ (∀ v, v < n → gI dist v ≤ B) ∧ gI dist y ≤ B - 65535
theorem OutR.start (hx : x < n) : OutR R N l x n (n + 1) ((List.replicate n (-1)).set x 0) (List.replicate n []) (List.replicate n []) ((List.replicate n false).set x true) ((List.replicate n 0).set x 0) := by
  refine ⟨⟨by simp, fun v hv => ?_, Nat.le_refl _⟩, .inl ⟨rfl, rfl, rfl, rfl, rfl, Nat.le_refl _⟩⟩
  rw [gI_set (by simpa using hx)]
  split
  · omega
  · have : gI (List.replicate n (-1)) v = -1 := by unfold gI; simp [hv]
    omega
variable {dist : List Int} {hops pars : List (List Int)} {ins : List Bool} {keys : List Int} {g : Nat}
theorem OutR.pop (hv : Valid R N l) (hs : (x : Int) < R) (hn : (n : Int) = R + N) (h : OutR R N l x n g dist hops pars ins keys) {y : Nat} (hm : IsMin n ins keys y) :
    0 < g ∧ InR R N l x n y 0 (65535 * ((n : Int) + 1 - ((g - 1 : Nat) : Int))) (g - 1) dist hops pars (ins.set y false) keys := by
  have hN := hv.n
  have hxn : x < n := by omega
  obtain ⟨⟨hl, hb, hg⟩, h⟩ := h
  obtain ⟨m1, m2, m3⟩ := hm
  rcases h with ⟨rfl, rfl, rfl, rfl, rfl, h6⟩ | ⟨S, X, h1, h2⟩
  · have hyx : y = x := by
      rw [gB_set (by simpa using hxn)] at m2
      by_cases e : y = x
      · exact e
      · rw [if_neg e] at m2
        have : gB (List.replicate n false) y = false := by unfold gB; simp [m1]
        rw [this] at m2; cases m2
    subst hyx
    have e1 : ((List.replicate n false).set y true).set y false = List.replicate n false := by
      rw [List.set_set]
      apply List.ext_getElem?
      intro i
      rw [List.getElem?_set]
      by_cases e : y = i
      · subst e; simp [m1]
      · simp [e]
    have hr := At.root hv ⟨by omega, hs⟩ hn (x := y) rfl
    refine ⟨by omega, _, _, by rw [e1]; exact hr, ?_, fun v hvn => ?_, ?_⟩
    · exact Nat.le_trans (unS_le _ _) (by omega)
    · have := hb v hvn; omega
    · have := hb y m1; omega
  · have hp := Bt.pop hv ⟨by omega, hs⟩ hn h1 m1 m2 m3
    have hnS : ¬ S (y : Int) := ((h1.qu.i y m1).1 m2).1
    have hu := unS_add m1 hnS
    refine ⟨by omega, _, _, hp, by omega, fun v hvn => ?_, ?_⟩
    · have := hb v hvn; omega
    · have := hb y m1; omega
theorem OutR.tree (hv : Valid R N l) (hs : (x : Int) < R) (hn : (n : Int) = R + N) (h : OutR R N l x n g dist hops pars ins keys) (h0 : cntB ins = 0) : Tree R N l (x : Int) n dist hops pars := by
  have hN := hv.n
  have hxn : x < n := by omega
  rcases h.2 with ⟨rfl, rfl, rfl, rfl, rfl, h6⟩ | ⟨S, X, h1, h2⟩
  · have := cntB_zero h0 x
    rw [gB_set (by simpa using hxn), if_pos rfl] at this; cases this
  · exact Bt.end_ hv ⟨by omega, hs⟩ hn h1 fun v _ => cntB_zero h0 v
variable {y k m : Nat} {B : Int}
theorem InR.done (h : InR R N l x n y (outs l (y : Int)).length (65535 * ((n : Int) + 1 - ((g : Nat) : Int))) g dist hops pars ins keys) (hg : g ≤ n + 1) : OutR R N l x n g dist hops pars ins keys := by
  obtain ⟨S, X, h1, h2, h3, _⟩ := h
  exact ⟨⟨h1.sr.ld, h3, hg⟩, .inr ⟨S, X, h1.done, h2⟩⟩
/-- what an edge meets, for the walk -/
theorem InR.facts (hv : Valid R N l) (hs : (x : Int) < R) (hn : (n : Int) = R + N) (h : InR R N l x n y k B m dist hops pars ins keys) {e : E} (he : (outs l (y : Int))[k]? = some e) :
    ∃ v : Nat, ∃ c : Int, e = ((y : Int), (v : Int), c) ∧ v < n ∧ y ≠ v ∧ y < n ∧ 0 ≤ c ∧ c ≤ 65535 ∧ 0 ≤ gI dist y ∧ gI dist y ≤ B - 65535 ∧
      ((∀ z ∈ gL hops y, 0 ≤ z ∧ z < (n : Int)) ∧ (∀ z ∈ gL hops v, 0 ≤ z ∧ z < (n : Int)) ∧ (gL hops v).Pairwise (· < ·) ∧ (gL hops y).Pairwise (· < ·)) ∧ ((∀ z ∈ gL pars v, 0 ≤ z ∧ z < (n : Int)) ∧ (gL pars v).Pairwise (· < ·)) ∧ -1 ≤ gI dist v := by
  obtain ⟨S, X, h1, h2, h3, h4⟩ := h
  have hN := hv.n
  have hm := outs_get he
  obtain ⟨a, b, c⟩ := e
  have ha : a = (y : Int) := hm.2
  subst ha
  have hed := edge hv hm.1
  obtain ⟨v, rfl⟩ : ∃ v : Nat, b = v := ⟨b.toNat, by omega⟩
  obtain ⟨f1, f2, f3, f4, f5, f6, f7, f8⟩ := At.facts hv hn h1 he
  have hx0 : 0 ≤ (x : Int) ∧ (x : Int) < R := ⟨by omega, hs⟩
  refine ⟨v, c, rfl, f2, fun e => f3 e.symm, h1.xn, f4, f5, f7, h4, ⟨fun z hz => ?_, fun z hz => ?_, (h1.sr.hh v f2).1, h1.hx.1⟩, ⟨fun z hz => ?_, (h1.sr.hp v f2).1⟩, ?_⟩
  · have := Hop.node' hv hx0 ((h1.hx.2 z).1 hz); omega
  · have := HX.node hv hx0 h1.sr.inv (((h1.sr.hh v f2).2 z).1 hz); omega
  · have := PX.node hv h1.sr.inv (((h1.sr.hp v f2).2 z).1 hz); omega
  · by_cases e : (v : Int) = (x : Int)
    · have := h1.sr.inv.root.2
      rw [← e] at this
      have e2 : dO dist (v : Int) = gI dist v := dO_nat _ _
      omega
    · rcases h1.sr.inv.best (v : Int) (by omega) (by omega) e with ⟨h5, _⟩ | ⟨⟨z, h5, h6, h7⟩, _⟩
      · rw [dO_nat] at h5; omega
      · rw [dO_nat] at h7
        obtain ⟨h8, h9⟩ := h1.sr.inv.sub z h5
        have := (h1.sr.inv.set _ h9).2.2
        have := edge hv (u := z.1) (v := z.2.1) (c := z.2.2) h8
        omega
theorem InR.skip (hv : Valid R N l) (hn : (n : Int) = R + N) (h : InR R N l x n y k B m dist hops pars ins keys) {v : Nat} {c : Int} (he : (outs l (y : Int))[k]? = some ((y : Int), (v : Int), c)) (h0 : 0 ≤ gI dist v) (hlt : gI dist v < gI dist y + c) : InR R N l x n y (k + 1) B m dist hops pars ins keys := by
  obtain ⟨S, X, h1, h2, h3, h4⟩ := h
  exact ⟨S, _, At.skip hv hn h1 he h0 hlt, h2, h3, h4⟩
theorem InR.same (hv : Valid R N l) (hn : (n : Int) = R + N) (h : InR R N l x n y k B m dist hops pars ins keys) {v : Nat} {c : Int} (he : (outs l (y : Int))[k]? = some ((y : Int), (v : Int), c)) (hd : gI dist v = gI dist y + c) {rp rh : List Int}
    (hp : RowI (fun z => z ∈ gL pars v ∨ z = (y : Int)) rp) (hh : RowI (fun z => z ∈ gL hops v ∨ Con R (x : Int) y v z (fun k => k ∈ gL hops y)) rh) : InR R N l x n y (k + 1) B m dist (hops.set v rh) (pars.set v rp) ins keys := by
  obtain ⟨S, X, h1, h2, h3, h4⟩ := h
  exact ⟨S, _, At.same hv hn h1 he hd hp hh, h2, h3, h4⟩
theorem InR.less (hv : Valid R N l) (hs : (x : Int) < R) (hn : (n : Int) = R + N) (h : InR R N l x n y k B m dist hops pars ins keys) {v : Nat} {c : Int} (he : (outs l (y : Int))[k]? = some ((y : Int), (v : Int), c)) (hd : gI dist v < 0 ∨ gI dist y + c < gI dist v) {rp rh : List Int}
    (hp : RowI (fun z => z ∈ ([] : List Int) ∨ z = (y : Int)) rp) (hh : RowI (fun z => z ∈ ([] : List Int) ∨ Con R (x : Int) y v z (fun k => k ∈ gL hops y)) rh) :
    InR R N l x n y (k + 1) B m (dist.set v (gI dist y + c)) (hops.set v rh) (pars.set v rp) (ins.set v true) (keys.set v (tr R (v : Int) (gI dist y + c))) := by
  obtain ⟨S, X, h1, h2, h3, h4⟩ := h
  obtain ⟨f1, f2, f3, f4, f5, f6, f7, f8⟩ := At.facts hv hn h1 he
  have hvd : v < dist.length := by rw [h1.sr.ld]; exact f2
  refine ⟨S, _, At.less hv ⟨by omega, hs⟩ hn h1 he hd hp hh, h2, fun u hu => ?_, ?_⟩
  · rw [gI_set hvd]; split
    · omega
    · exact h3 u hu
  · rw [gI_set hvd, if_neg (Ne.symm f3)]; exact h4
theorem InR.less' (hv : Valid R N l) (hs : (x : Int) < R) (hn : (n : Int) = R + N) (h : InR R N l x n y k B m dist hops pars ins keys) {v : Nat} {c dy dv : Int} (he : (outs l (y : Int))[k]? = some ((y : Int), (v : Int), c)) (hdy : gI dist y = dy) (hdv : gI dist v = dv) (hd : dv < 0 ∨ dy + c < dv) {rp rh : List Int}
    (hp : RowI (fun z => z ∈ gL (pars.set v []) v ∨ z = (y : Int)) rp) (hh : RowI (fun z => z ∈ gL (hops.set v []) v ∨ Con R (x : Int) y v z (fun k => k ∈ gL (hops.set v []) y)) rh) :
    InR R N l x n y (k + 1) B m (dist.set v (dy + c)) ((hops.set v []).set v rh) ((pars.set v []).set v rp) (ins.set v true) (keys.set v (tr R (v : Int) (dy + c))) := by
  subst hdy hdv
  obtain ⟨S, X, h1, h2, h3, h4⟩ := h
  obtain ⟨f1, f2, f3, f4, f5, f6, f7, f8⟩ := At.facts hv hn h1 he
  have e1 : gL (pars.set v []) v = [] := by rw [gL_set (by rw [h1.sr.lp]; exact f2), if_pos rfl]
  have e2 : gL (hops.set v []) v = [] := by rw [gL_set (by rw [h1.sr.lh]; exact f2), if_pos rfl]
  have e3 : gL (hops.set v []) y = gL hops y := by rw [gL_set (by rw [h1.sr.lh]; exact f2), if_neg (fun e => f3 e.symm)]
  rw [e1] at hp
  rw [e2, e3] at hh
  rw [List.set_set, List.set_set]
  exact InR.less hv hs hn ⟨S, X, h1, h2, h3, h4⟩ he hd hp hh
end
end Go.Proofs.Ytmlpbhankgojpaa
