/-
  The memory of a search: the tree's rows, the queue, and the blocks that no step changes.
-/
import Derived.Test.YtmlpbhankgojpaaSpSt
import Derived.Test.YtmlpbhankgojpaaSpMg
namespace Go.Proofs.Ytmlpbhankgojpaa
open Go.RowKit HM GM SP
set_option linter.unusedSimpArgs false
set_option linter.unusedVariables false
set_option maxHeartbeats 4000000
set_option maxRecDepth 100000

/-- a block that is none of those that are changed -/
def Fx (w : World) (Bk : List Nat) (c : Nat) (o : Obj) : Prop := w.heap[c]? = some o ∧ c ∉ Bk
theorem Fx.move {w w' : World} {Bk Bk' : List Nat} {c : Nat} {o : Obj} (h : Fx w Bk c o) (hk : Kp Bk w w') (hb : ∀ g ∈ Bk', g ∈ Bk ∨ w.heap.size ≤ g) : Fx w' Bk' c o :=
  ⟨(hk.block c (lt_block h.1) h.2).trans h.1, fun hm => (hb c hm).elim h.2 fun h1 => by have := lt_block h.1; omega⟩
def bkS (D H P : Nat) (hv pv : List Value) (gs : List Nat) : List Nat := trB D H P hv pv ++ gs
/-- the state of a search in memory -/
structure SS (w0 w : World) (cs : List (Nat × Obj)) (D H P qb n : Nat) (dist : List Int) (hv pv : List Value) (hops pars : List (List Int)) (ins : List Bool) (keys : List Int) (gs : List Nat) : Prop where
  tr : TR w D H P n dist hv pv hops pars
  hq : HeapR w qb n ins keys gs
  dj : ∀ g ∈ gs, g ∉ trB D H P hv pv
  lo : ∀ g ∈ bkS D H P hv pv gs, w0.heap.size ≤ g
  b : Below w0.heap.size w0 w
  fx : ∀ c ∈ cs, Fx w (bkS D H P hv pv gs) c.1 c.2
section
variable {w0 w w' : World} {cs : List (Nat × Obj)} {D H P qb n : Nat} {dist dist' : List Int} {hv pv hv' pv' : List Value} {hops pars hops' pars' : List (List Int)} {ins ins' : List Bool} {keys keys' : List Int} {gs gs' : List Nat}
theorem SS.lt (h : SS w0 w cs D H P qb n dist hv pv hops pars ins keys gs) : ∀ g ∈ bkS D H P hv pv gs, g < w.heap.size := fun g hg => by
  rcases List.mem_append.1 hg with h1 | h1
  · exact h.tr.lt g h1
  · exact h.hq.lt g h1
theorem SS.move (h : SS w0 w cs D H P qb n dist hv pv hops pars ins keys gs) (ht : TR w' D H P n dist' hv' pv' hops' pars') (hq : HeapR w' qb n ins' keys' gs') (dj : ∀ g ∈ gs', g ∉ trB D H P hv' pv') (hk : Kp (bkS D H P hv pv gs) w w')
    (hb : ∀ g ∈ bkS D H P hv' pv' gs', g ∈ bkS D H P hv pv gs ∨ w.heap.size ≤ g) : SS w0 w' cs D H P qb n dist' hv' pv' hops' pars' ins' keys' gs' :=
  ⟨ht, hq, dj, fun g hg => (hb g hg).elim (h.lo g) fun h1 => Nat.le_trans h.b.size h1, h.b.trans (hk.below h.b.size h.lo), fun c hc => (h.fx c hc).move hk hb⟩
theorem SS.grow (h : SS w0 w cs D H P qb n dist hv pv hops pars ins keys gs) (hb : Below w.heap.size w w') : SS w0 w' cs D H P qb n dist hv pv hops pars ins keys gs :=
  h.move (h.tr.below hb) (h.hq.below hb) h.dj (Kp.of_below hb) fun g hg => .inl hg
theorem SS.add (h : SS w0 w cs D H P qb n dist hv pv hops pars ins keys gs) {c : Nat} {o : Obj} (hc : Fx w (bkS D H P hv pv gs) c o) : SS w0 w ((c, o) :: cs) D H P qb n dist hv pv hops pars ins keys gs :=
  ⟨h.tr, h.hq, h.dj, h.lo, h.b, fun x hx => by
    rcases List.mem_cons.1 hx with rfl | hx
    · exact hc
    · exact h.fx x hx⟩
theorem SS.drop {x : Nat × Obj} (h : SS w0 w (x :: cs) D H P qb n dist hv pv hops pars ins keys gs) : SS w0 w cs D H P qb n dist hv pv hops pars ins keys gs :=
  ⟨h.tr, h.hq, h.dj, h.lo, h.b, fun c hc => h.fx c (by simp [hc])⟩
/-- a new block -/
theorem SS.alloc (h : SS w0 w cs D H P qb n dist hv pv hops pars ins keys gs) (o : Obj) : SS w0 (w.alloc o) ((w.heap.size, o) :: cs) D H P qb n dist hv pv hops pars ins keys gs :=
  (h.grow (below_alloc w o)).add ⟨heap_alloc_new w o, fun hm => by have := h.lt _ hm; omega⟩
/-- a call that changes the queue -/
theorem SS.put (h : SS w0 w cs D H P qb n dist hv pv hops pars ins keys gs) (hp : Put w qb n ins' keys' gs w') : ∃ gs', SS w0 w' cs D H P qb n dist hv pv hops pars ins' keys' gs' := by
  obtain ⟨gs', h1, h2, h3⟩ := hp
  have hdj : ∀ g ∈ gs', g ∉ trB D H P hv pv := fun g hg ht => by
    rcases h2 g hg with h4 | h4
    · exact h.dj g h4 ht
    · have := h.tr.lt g ht; omega
  refine ⟨gs', h.move (h.tr.kp h3 fun g hg hm => h.dj g hm hg) h1 hdj (h3.mono fun g hg => by simp [bkS, hg]) fun g hg => ?_⟩
  rcases List.mem_append.1 hg with h4 | h4
  · exact .inl (by simp [bkS, h4])
  · rcases h2 g h4 with h5 | h5
    · exact .inl (by simp [bkS, h5])
    · exact .inr h5
/-- another tree, beside the same queue -/
theorem SS.tree (h : SS w0 w cs D H P qb n dist hv pv hops pars ins keys gs) (ht : TR w' D H P n dist' hv' pv' hops' pars') (hk : Kp (trB D H P hv pv) w w') (hb : ∀ g ∈ trB D H P hv' pv', g ∈ trB D H P hv pv ∨ w.heap.size ≤ g) :
    SS w0 w' cs D H P qb n dist' hv' pv' hops' pars' ins keys gs := by
  refine h.move ht (h.hq.kp hk fun g hg hm => h.dj g hg hm) (fun g hg hm => ?_) (hk.mono fun g hg => by simp [bkS, hg]) fun g hg => ?_
  · rcases hb g hm with h1 | h1
    · exact h.dj g hg h1
    · have := h.hq.lt g hg; omega
  · rcases List.mem_append.1 hg with h4 | h4
    · rcases hb g h4 with h5 | h5
      · exact .inl (by simp [bkS, h5])
      · exact .inr h5
    · exact .inl (by simp [bkS, h4])
/-- the rows of a node begin anew -/
theorem SS.anew (h : SS w0 w cs D H P qb n dist hv pv hops pars ins keys gs) {v : Nat} (hvn : v < n) (d : Int) :
    SS w0 (((w.setCell ⟨D, v, none⟩ (.int .i64 d)).setCell ⟨H, v, none⟩ (.slice none 0 0)).setCell ⟨P, v, none⟩ (.slice none 0 0)) cs D H P qb n (dist.set v d) (hv.set v (.slice none 0 0)) (pv.set v (.slice none 0 0)) (hops.set v []) (pars.set v []) ins keys gs := by
  have h1 := h.tr.setD v d
  have h2 := h1.putH hvn (x := .slice none 0 0) (r := []) (Kp.refl _ _) (World.ownsRow_nil _ _ _ _) (fun g hg => by cases hg)
  have h2b := h1.putHB hvn (x := .slice none 0 0) (fun g hg => by cases hg)
  have h2k := h1.putHK hvn (x := .slice none 0 0) (Kp.refl _ _)
  have h3 := h2.putP hvn (x := .slice none 0 0) (r := []) (Kp.refl _ _) (World.ownsRow_nil _ _ _ _) (fun g hg => by cases hg)
  have h3b := h2.putPB hvn (x := .slice none 0 0) (fun g hg => by cases hg)
  have h3k := h2.putPK hvn (x := .slice none 0 0) (Kp.refl _ _)
  have hs1 : ((w.setCell ⟨D, v, none⟩ (.int .i64 d)).setCell ⟨H, v, none⟩ (.slice none 0 0)).heap.size = w.heap.size := by simp
  have hs0 : (w.setCell ⟨D, v, none⟩ (.int .i64 d)).heap.size = w.heap.size := by simp
  refine h.tree h3 ?_ fun g hg => ?_
  · have k0 : Kp (trB D H P hv pv) w (w.setCell ⟨D, v, none⟩ (.int .i64 d)) := (Kp.refl _ w).setCell (.inl (by simp [trB]))
    exact (k0.trans h2k fun g hg => .inl hg).trans h3k fun g hg => by rcases h2b g hg with h4 | h4; exact .inl h4; exact .inr (by rw [hs0] at h4; exact h4)
  · rcases h3b g hg with h4 | h4
    · rcases h2b g h4 with h5 | h5
      · exact .inl h5
      · exact .inr (by rw [hs0] at h5; exact h5)
    · exact .inr (by rw [hs1] at h4; exact h4)
/-- another row of parents -/
theorem SS.par (h : SS w0 w cs D H P qb n dist hv pv hops pars ins keys gs) {v : Nat} (hvn : v < n) {x : Value} {r : List Int} {w1 : World} (hk : Kp (vblk (gVl pv v)) w w1) (hr : w1.ownsRow 0 3 1 x r.length (ints r)) (hb : ∀ g, x.ownBlock = some g → (gVl pv v).ownBlock = some g ∨ w.heap.size ≤ g) :
    SS w0 (w1.setCell ⟨P, v, none⟩ x) cs D H P qb n dist hv (pv.set v x) hops (pars.set v r) ins keys gs :=
  h.tree (h.tr.putP hvn hk hr hb) (h.tr.putPK hvn hk) (h.tr.putPB hvn hb)
/-- behind the closure -/
theorem SS.hop (h : SS w0 w cs D H P qb n dist hv pv hops pars ins keys gs) {v : Nat} (hvn : v < n) {x : Value} {r : List Int} (ht : TR w' D H P n dist (hv.set v x) pv (hops.set v r) pars) (hb : ∀ g, x.ownBlock = some g → (gVl hv v).ownBlock = some g ∨ w.heap.size ≤ g) (hk : Kp (H :: vblk (gVl hv v)) w w') :
    SS w0 w' cs D H P qb n dist (hv.set v x) pv (hops.set v r) pars ins keys gs :=
  h.tree ht (hk.mono fun g hg => by
    rcases List.mem_cons.1 hg with h1 | h1
    · simp [trB, h1]
    · simp [trB, vblk_rblk (by rw [h.tr.lhv]; exact hvn) h1]) (h.tr.putHB hvn hb)
end
end Go.Proofs.Ytmlpbhankgojpaa
