/-
  The reader of a path in memory; what putting a segment or a number does to it.
-/
import Derived.Test.YtiobfgcpbihbhaaGreatDoorAtM
import Derived.Test.YtiobfgcpbihbhaaGreatDoorAsL
import Derived.Test.YtiobfgcpbihbhaaGreatDoorAsJ
import Derived.Deep.AppendLies
namespace Go.Proofs.YtiobfgcpbihbhaaGreatDoor
open Go.RowKit P
set_option linter.unusedSimpArgs false
set_option linter.unusedVariables false
set_option maxHeartbeats 1000000
set_option maxRecDepth 100000
theorem RdN.grow2 {h : Nat} {row : Option Nat} {w w' : World} {v : Value} {l : List Int} (hh : RdN h w v l) (hgn : ∀ k, row = some k → RdN k w v l) (hg : w.grownBy w' row) : RdN h w' v l := by
  obtain ⟨ad, cap, e, h1, h2, hc⟩ := hh
  refine ⟨ad, cap, e, h1, h2, fun k x hk => ?_⟩
  obtain ⟨b, off, a1, a2, a3, a4⟩ := hc k x hk
  refine ⟨b, off, a1, Nat.lt_of_lt_of_le a2 hg.size, a3, ?_⟩
  rw [← a4]
  refine World.cell?_of_block (hg.block b a2 fun e2 => ?_)
  obtain ⟨ad', cap', e', _, _, hc'⟩ := hgn b e2.symm
  rw [e] at e'
  injection e' with e1 _ _
  obtain ⟨b', off', a1', _, a3', _⟩ := hc' k x hk
  rw [← e1, a1] at a1'
  cases a1'
  exact a3' rfl
theorem OwnI.grow2 {B : Nat} {row : Option Nat} {w w' : World} {v : Value} {l : List Int} (h : OwnI B w v l) (hn : ∀ k, row = some k → v.ownBlock ≠ some k) (hg : w.grownBy w' row) : OwnI B w' v l :=
  ⟨Nat.le_trans h.1 hg.size, row_congr h.2 fun g e => hg.block g (h.lt g e).2 fun e2 => hn g e2.symm e⟩
theorem OwnI.base' {B B' : Nat} {w : World} {v : Value} {l : List Int} (h : OwnI B w v l) (hB : B' ≤ B) : OwnI B' w v l := by
  refine ⟨Nat.le_trans hB h.1, h.2.1, ?_⟩
  rcases h.2.2 with h0 | ⟨g, cap, cur, e, hg, hr⟩
  · exact .inl h0
  · exact .inr ⟨g, cap, cur, e, Nat.le_trans hB hg, hr⟩
theorem cells_of_cell {w : World} {b o : Nat} {v : Value} (h : w.cell? ⟨b, o, none⟩ = some v) : ∃ cs t f, w.heap[b]? = some (.cells cs t f) ∧ cs[o]? = some v := by
  unfold World.cell? at h
  cases hb : w.heap[b]? with
  | none => simp [hb] at h
  | some x =>
    cases x with
    | cells cs t f => exact ⟨cs, t, f, rfl, by simpa [hb] using h⟩
    | _ => simp [hb] at h
/-- what changes between two worlds is no cells, or a block of one truth value -/
def Moved (j : Nat) (W W' : World) : Prop := (∃ x, W.heap[j]? = some (.cells #[.bool x] 4 (0, 0))) ∧ W.heap.size ≤ W'.heap.size ∧ ∀ k cs t f, W.heap[k]? = some (.cells cs t f) → k ≠ j → W'.heap[k]? = W.heap[k]?
theorem RdN.move {g j : Nat} {W W' : World} {v : Value} {l : List Int} (h : RdN g W v l) (hm : Moved j W W') : RdN g W' v l := by
  obtain ⟨ad, cap, e, h1, h2, hc⟩ := h
  refine ⟨ad, cap, e, h1, h2, fun k x hk => ?_⟩
  obtain ⟨b, off, a1, a2, a3, a4⟩ := hc k x hk
  refine ⟨b, off, a1, Nat.lt_of_lt_of_le a2 hm.2.1, a3, ?_⟩
  obtain ⟨cs, t, f, e1, e2⟩ := cells_of_cell a4
  rw [← a4]
  refine World.cell?_of_block (hm.2.2 b cs t f e1 fun e => ?_)
  obtain ⟨y, hy⟩ := hm.1
  rw [e, hy] at e1
  cases e1
  cases ho : off + k with
  | zero => rw [ho] at e2; simp at e2
  | succ n => rw [ho] at e2; simp at e2
theorem row_move {B e sz n j : Nat} {W W' : World} {v : Value} {xs : List Value} (h : W.ownsRow B e sz v n xs) (he : e ≠ 4) (hm : Moved j W W') : W'.ownsRow B e sz v n xs := by
  refine row_congr h fun g hg => ?_
  rcases h.2 with ⟨h0, _⟩ | ⟨g', cap', cur, ev, _, hgg, _⟩
  · rw [h0] at hg; cases hg
  · rw [ev] at hg
    cases hg
    show W'.heap[g']? = W.heap[g']?
    refine hm.2.2 _ _ _ _ hgg fun e2 => ?_
    obtain ⟨y, hy⟩ := hm.1
    rw [e2, hy] at hgg
    cases hgg
    exact he rfl
theorem OwnI.move {B j : Nat} {W W' : World} {v : Value} {l : List Int} (h : OwnI B W v l) (hm : Moved j W W') : OwnI B W' v l := ⟨Nat.le_trans h.1 hm.2.1, row_move h.2 (by decide) hm⟩
/-- the numbers of a path that the reader holds: none lies in the path's own row g or in the reader b; the last ones in a row that nothing else lies in -/
structure NumsR (B g b : Nat) (w : World) (q : List (Int × Value)) (p : List Sg) : Prop where
  prs : Prs g w q p
  rdr : ∀ (k : Nat) (s : Sg) (u : Value), p[k]? = some s → q[k]? = some (s.k, u) → RdN b w u s.as
  last : ∀ (s : Sg) (u : Value), p[p.length - 1]? = some s → q[p.length - 1]? = some (s.k, u) → OwnI B w u s.as ∧ ∀ h, u.ownBlock = some h → h ≠ g ∧ h ≠ b ∧ ∀ (k : Nat) (s' : Sg) (u' : Value), k + 1 < p.length → p[k]? = some s' → q[k]? = some (s'.k, u') → RdN h w u' s'.as
theorem NumsR.below {B g b : Nat} {w w' : World} {q : List (Int × Value)} {p : List Sg} (h : NumsR B g b w q p) (hb : Below w.heap.size w w') : NumsR B g b w' q p :=
  ⟨h.prs.below hb, fun k s u hk hq => (h.rdr k s u hk hq).below hb, fun s u hs hu => by
    obtain ⟨h1, h2⟩ := h.last s u hs hu
    exact ⟨h1.below hb, fun j hj => ⟨(h2 j hj).1, (h2 j hj).2.1, fun k s' u' hk hs' hu' => ((h2 j hj).2.2 k s' u' hk hs' hu').below hb⟩⟩⟩
/-- the path's slice of a reader -/
def RowR (B b : Nat) (v : Value) (p : List Sg) (w : World) : Prop := (v = .slice none 0 0 ∧ p = []) ∨ ∃ g cap q, v = .slice (some ⟨g, 0, none⟩) p.length cap ∧ w.ownsRow B 46 2 v p.length (flatQ q) ∧ g ≠ b ∧ NumsR B g b w q p
/-- a reader -/
structure RdrI (B b : Nat) (v : Value) (st : Rs) (w : World) : Prop where
  lo : B ≤ b ∧ b < w.heap.size
  blk : w.heap[b]? = some (.cells #[v, .bool st.2] 70 (0, 0))
  row : RowR B b v st.1 w
theorem RowR.below {B b : Nat} {v : Value} {p : List Sg} {w w' : World} (h : RowR B b v p w) (hb : Below w.heap.size w w') : RowR B b v p w' := by
  rcases h with h | ⟨g, cap, q, e, ho, hg, hn⟩
  · exact .inl h
  · exact .inr ⟨g, cap, q, e, row_below ho hb, hg, hn.below hb⟩
theorem RdrI.below {B b : Nat} {v : Value} {st : Rs} {w w' : World} (h : RdrI B b v st w) (hb : Below w.heap.size w w') : RdrI B b v st w' :=
  ⟨⟨h.lo.1, Nat.lt_of_lt_of_le h.lo.2 hb.size⟩, (hb.block b h.lo.2).trans h.blk, h.row.below hb⟩
theorem RdrI.cells {B b : Nat} {v : Value} {st : Rs} {w : World} (h : RdrI B b v st w) : w.cell? ⟨b, 0, none⟩ = some v ∧ w.cell? ⟨b, 1, none⟩ = some (.bool st.2) ∧ w.frozen? ⟨b, 0, none⟩ = false ∧ w.frozen? ⟨b, 1, none⟩ = false :=
  ⟨cell_of h.blk rfl, cell_of h.blk rfl, free_of h.blk _, free_of h.blk _⟩
theorem RowR.own {B b : Nat} {v : Value} {p : List Sg} {w : World} (h : RowR B b v p w) (hB : B ≤ w.heap.size) : OwnP B w v p := by
  rcases h with h | ⟨g, cap, q, e, ho, hg, hn⟩
  · exact ⟨hB, .inl h⟩
  · exact ⟨hB, .inr ⟨g, cap, q, e, ho, hn.prs⟩⟩
theorem RowR.rd {B b : Nat} {v : Value} {p : List Sg} {w : World} (h : RowR B b v p w) (hB : B ≤ w.heap.size) : RdS w v p := (h.own hB).rd
/-- a store into the reader itself -/
theorem RowR.set {B b o : Nat} {v u : Value} {p : List Sg} {w : World} (h : RowR B b v p w) : RowR B b v p (w.setCell ⟨b, o, none⟩ u) := by
  rcases h with h | ⟨g, cap, q, e, ho, hg, hn⟩
  · exact .inl h
  · refine .inr ⟨g, cap, q, e, row_congr ho fun j hj => heap_set_ne (by rw [e] at hj; cases hj; exact hg), hg, ?_⟩
    refine ⟨⟨hn.prs.1, fun k s hk => ?_⟩, fun k s u' hk hq => (hn.rdr k s u' hk hq).set, fun s u' hs hu => ?_⟩
    · obtain ⟨u', a, c⟩ := hn.prs.2 k s hk
      exact ⟨u', a, c.set2 (hn.rdr k s u' hk a)⟩
    · obtain ⟨h1, h2⟩ := hn.last s u' hs hu
      refine ⟨⟨by simpa using h1.1, row_congr h1.2 fun j hj => heap_set_ne (h2 j hj).2.1⟩, fun j hj => ⟨(h2 j hj).1, (h2 j hj).2.1, fun k s' u2 hk hs' hu' => ?_⟩⟩
      exact ((h2 j hj).2.2 k s' u2 hk hs' hu').set2 (hn.rdr k s' u2 hs' hu')
theorem RowR.move {B b j : Nat} {v : Value} {p : List Sg} {W W' : World} (h : RowR B b v p W) (hm : Moved j W W') : RowR B b v p W' := by
  rcases h with h | ⟨g, cap, q, e, ho, hg, hn⟩
  · exact .inl h
  · refine .inr ⟨g, cap, q, e, row_move ho (by decide) hm, hg, ⟨⟨hn.prs.1, fun k s hk => ?_⟩, fun k s u hk hq => (hn.rdr k s u hk hq).move hm, fun s u hs hu => ?_⟩⟩
    · obtain ⟨u, a, c⟩ := hn.prs.2 k s hk
      exact ⟨u, a, c.move hm⟩
    · obtain ⟨h1, h2⟩ := hn.last s u hs hu
      exact ⟨h1.move hm, fun i hi => ⟨(h2 i hi).1, (h2 i hi).2.1, fun k s' u' hk hs' hu' => ((h2 i hi).2.2 k s' u' hk hs' hu').move hm⟩⟩
theorem getLast_app {α : Type} (l : List α) (x : α) : (l ++ [x])[(l ++ [x]).length - 1]? = some x := by simp
/-- a segment whose numbers lie in a row made since, put behind the path -/
theorem RowR.push {B b C : Nat} {w0 w w' : World} {v : Value} {p : List Sg} {kd : Int} {u : Value} {ns : List Int} {g' cap' : Nat} {q : List (Int × Value)}
    (hr : RowR B b v p w0) (hq : (v = .slice none 0 0 ∧ q = [] ∧ p = []) ∨ ∃ g cap, v = .slice (some ⟨g, 0, none⟩) p.length cap ∧ B ≤ g ∧ g < w0.heap.size ∧ g ≠ b ∧ NumsR B g b w0 q p) (hbb : b < w0.heap.size) (hB0 : B ≤ w0.heap.size) (hb : Below w0.heap.size w0 w) (hC : w0.heap.size ≤ C) (hu : OwnI C w u ns)
    (h1 : w'.ownsRow B 46 2 (.slice (some ⟨g', 0, none⟩) (p.length + 1) cap') (p.length + 1) (flatQ q ++ [.int .i64 kd, u])) (h2 : w.grownBy w' v.ownBlock) (h3 : v.ownBlock = some g' ∨ g' = w.heap.size) :
    RowR B b (.slice (some ⟨g', 0, none⟩) (p.length + 1) cap') (p ++ [⟨kd, ns⟩]) w' := by
  have hlen : (p ++ [(⟨kd, ns⟩ : Sg)]).length = p.length + 1 := by simp
  have hfq : flatQ q ++ [.int .i64 kd, u] = flatQ (q ++ [(kd, u)]) := by rw [flatQ_app]; rfl
  rw [hfq] at h1
  have hql : q.length = p.length := by
    rcases hq with ⟨_, e1, e2⟩ | ⟨g, cap, _, _, _, _, hn⟩
    · rw [e1, e2]; rfl
    · exact hn.prs.1
  have hvb : ∀ k, v.ownBlock = some k → k < w0.heap.size ∧ B ≤ k ∧ k ≠ b := fun k hk => by
    rcases hq with ⟨e, _⟩ | ⟨g, cap, e, hBg, hg, hgb, _⟩
    · rw [e] at hk; cases hk
    · rw [e] at hk; cases hk; exact ⟨hg, hBg, hgb⟩
  have hws := hb.size
  have hgb' : g' ≠ b := by
    rcases h3 with e | e
    · exact (hvb g' e).2.2
    · omega
  -- the old numbers: not in the row, the reader, or any block made since
  have hold : ∀ (k : Nat) (s : Sg) (u' : Value), p[k]? = some s → q[k]? = some (s.k, u') → (∀ j, v.ownBlock = some j → RdN j w u' s.as) ∧ RdN b w u' s.as ∧ (∀ j, w0.heap.size ≤ j → RdN j w u' s.as) := fun k s u' hk hqk => by
    rcases hq with ⟨_, _, e2⟩ | ⟨g, cap, e, hBg, hg, hgb, hn⟩
    · rw [e2] at hk; simp at hk
    · obtain ⟨u2, a, c⟩ := hn.prs.2 k s hk
      rw [hqk] at a
      cases a
      refine ⟨fun j hj => ?_, (hn.rdr k s u' hk hqk).below hb, fun j hj => c.rd.away hj hb⟩
      rw [e] at hj
      cases hj
      exact c.below hb
  have hnew : ∀ j, (j < w0.heap.size ∨ w.heap.size ≤ j) → RdN j w u ns := fun j hj => by
    rcases hj with hj | hj
    · exact hu.away (by omega)
    · exact hu.rd.away hj (Below.refl _ _)
  have hcut : ∀ k, k < p.length → (p ++ [(⟨kd, ns⟩ : Sg)])[k]? = p[k]? ∧ (q ++ [(kd, u)])[k]? = q[k]? := fun k hk => ⟨List.getElem?_append_left hk, List.getElem?_append_left (by omega)⟩
  have hend : (p ++ [(⟨kd, ns⟩ : Sg)])[p.length]? = some ⟨kd, ns⟩ ∧ (q ++ [(kd, u)])[p.length]? = some (kd, u) := ⟨by simp, by rw [← hql]; simp⟩
  have hin : ∀ {k : Nat} {s : Sg}, (p ++ [(⟨kd, ns⟩ : Sg)])[k]? = some s → k < p.length ∨ (k = p.length ∧ s = ⟨kd, ns⟩) := fun {k s} hk => by
    by_cases h : k < p.length
    · exact .inl h
    · have hk2 := (List.getElem?_eq_some_iff.1 hk).1
      rw [hlen] at hk2
      have e : k = p.length := by omega
      subst e
      rw [hend.1] at hk
      cases hk
      exact .inr ⟨rfl, rfl⟩
  -- any numbers, at the world behind
  have key : ∀ (k : Nat) (s : Sg) (u' : Value), (p ++ [(⟨kd, ns⟩ : Sg)])[k]? = some s → (q ++ [(kd, u)])[k]? = some (s.k, u') → RdN g' w' u' s.as ∧ RdN b w' u' s.as := fun k s u' hk hqk => by
    rcases hin hk with h | ⟨e, es⟩
    · rw [(hcut k h).1] at hk
      rw [(hcut k h).2] at hqk
      obtain ⟨a1, a2, a3⟩ := hold k s u' hk hqk
      refine ⟨?_, a2.grow2 a1 h2⟩
      rcases h3 with e3 | e3
      · exact (a1 g' e3).grow2 a1 h2
      · exact (a3 g' (by omega)).grow2 a1 h2
    · subst e es
      rw [hend.2] at hqk
      cases hqk
      have a1 : ∀ j, v.ownBlock = some j → RdN j w u ns := fun j hj => hnew j (.inl (hvb j hj).1)
      refine ⟨?_, (hnew b (.inl hbb)).grow2 a1 h2⟩
      rcases h3 with e3 | e3
      · exact (a1 g' e3).grow2 a1 h2
      · exact (hnew g' (.inr (by omega))).grow2 a1 h2
  have hq2 : ∀ (k : Nat) (s : Sg), (p ++ [(⟨kd, ns⟩ : Sg)])[k]? = some s → ∃ u', (q ++ [(kd, u)])[k]? = some (s.k, u') := fun k s hk => by
    rcases hin hk with h | ⟨e, es⟩
    · rw [(hcut k h).1] at hk
      rw [(hcut k h).2]
      rcases hq with ⟨_, _, e2⟩ | ⟨g, cap, e, hBg, hg, hgb, hn⟩
      · rw [e2] at hk; simp at hk
      · obtain ⟨u2, a, _⟩ := hn.prs.2 k s hk
        exact ⟨u2, a⟩
    · subst e es
      exact ⟨u, hend.2⟩
  refine .inr ⟨g', cap', q ++ [(kd, u)], by rw [hlen], by rw [hlen]; exact h1, hgb', ⟨⟨by rw [List.length_append, hlen, hql]; rfl, fun k s hk => ?_⟩, fun k s u' hk hqk => (key k s u' hk hqk).2, fun s u' hs hu' => ?_⟩⟩
  · obtain ⟨u', hqk⟩ := hq2 k s hk
    exact ⟨u', hqk, (key k s u' hk hqk).1⟩
  · rw [hlen, Nat.add_sub_cancel] at hs hu'
    rw [hend.1] at hs
    cases hs
    rw [hend.2] at hu'
    cases hu'
    have hn1 : ∀ k, v.ownBlock = some k → u.ownBlock ≠ some k := fun k hk e => by
      have := (hu.lt k e).1
      have := (hvb k hk).1
      omega
    refine ⟨(hu.grow2 hn1 h2).base' (by omega), fun h hh => ?_⟩
    obtain ⟨hC1, hC2⟩ := hu.lt h hh
    refine ⟨?_, by omega, fun k s' u' hk hs' hu' => ?_⟩
    · rcases h3 with e | e
      · have := (hvb g' e).1; omega
      · omega
    · have hk' : k < p.length := by rw [hlen] at hk; omega
      rw [(hcut k hk').1] at hs'
      rw [(hcut k hk').2] at hu'
      obtain ⟨a1, a2, a3⟩ := hold k s' u' hs' hu'
      exact (a3 h (by omega)).grow2 a1 h2
end Go.Proofs.YtiobfgcpbihbhaaGreatDoor
