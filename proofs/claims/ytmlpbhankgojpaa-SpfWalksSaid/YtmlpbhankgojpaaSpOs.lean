/-
  The memory of onward's loops: rows by node, and the work.
-/
import Derived.Test.YtmlpbhankgojpaaSpNd
import Derived.Test.YtmlpbhankgojpaaSpW
import Derived.Test.YtmlpbhankgojpaaSpRu
namespace Go.Proofs.Ytmlpbhankgojpaa
open Go.RowKit Go.Maps Go.ChangeShapes HM GM SP
set_option linter.unusedSimpArgs false
set_option linter.unusedVariables false
set_option maxRecDepth 100000

theorem grownBy_set1 (W : World) (g o : Nat) (v : Value) : W.grownBy (W.setCells g o [v]) (some g) := by
  have h := setCells_below' (B := g) (w := W) (blk := g) (Nat.le_refl _) [v] o W (Below.refl _ _)
  refine ⟨h.os, h.tape, h.output, h.size, fun i hi hne => ?_⟩
  have h2 := kp_setCells (S := [g]) (a := W) (g := g) (.inl (by simp)) [v] o W (Kp.refl _ _)
  exact h2.block i hi (by simp; exact fun e => hne (by rw [e]))
structure OS (w0 : World) (ob : Obj) (m g off cap : Nat) (next : Int → List Int) (wk : List Int) (wr : World) : Prop where
  mg : MG wr (w0.heap.size + 1) m next g
  wk : WK wr (w0.heap.size + 2) g off cap wk
  bel : Below w0.heap.size w0 wr
  bx : wr.heap[w0.heap.size]? = some ob
section
variable {w0 wr w' : World} {ob : Obj} {m g off cap : Nat} {next : Int → List Int} {wk : List Int}
theorem OS.still (h : OS w0 ob m g off cap next wk wr) (hg : wr.grownBy w' none) : OS w0 ob m g off cap next wk w' :=
  ⟨h.mg.grow hg, h.wk.congr (hg.block g h.wk.lt (by simp)), h.bel.grown hg h.bel.size (by simp), (hg.block _ (lt_block h.bx) (by simp)).trans h.bx⟩
theorem OS.alloc (h : OS w0 ob m g off cap next wk wr) (o : Obj) : OS w0 ob m g off cap next wk (wr.alloc o) := h.still (World.grownBy_alloc wr o none)
theorem OS.room (h : OS w0 ob m g off cap next wk wr) (hr : wk.length < cap) (x : Int) : OS w0 ob m g off cap next (wk ++ [x]) (wr.setCells g (off + wk.length) [.int .i64 x]) := by
  have hg := grownBy_set1 wr g (off + wk.length) (.int .i64 x)
  have hlo := h.wk.lo
  refine ⟨h.mg.work hg (by omega), h.wk.room hr x, h.bel.grown hg h.bel.size (fun k hk => by cases hk; omega), (hg.block _ (lt_block h.bx) (fun e => ?_)).trans h.bx⟩
  injection e with e; omega
theorem OS.grows (h : OS w0 ob m g off cap next wk wr) (hg : wr.grownBy w' none) {v' : Value} {x : Int} {n : Nat} (ho : w'.ownsRow wr.heap.size 3 1 v' n (ints (wk ++ [x]))) (h0 : 0 < n) :
    ∃ g' cap', v' = .slice (some ⟨g', 0, none⟩) n cap' ∧ n = (wk ++ [x]).length ∧ OS w0 ob m g' 0 cap' next (wk ++ [x]) w' := by
  obtain ⟨g', cap', e1, e2, hw⟩ := WK.of_own ho h0
  have hlt := h.wk.lt
  have hlo := h.wk.lo
  exact ⟨g', cap', e1, e2, h.mg.other hg hw.lo, ⟨by have := hw.lo; omega, hw.len, hw.capm, hw.row⟩, h.bel.grown hg h.bel.size (by simp), (hg.block _ (lt_block h.bx) (by simp)).trans h.bx⟩
theorem OS.stored (h : OS w0 ob m g off cap next wk wr) {w5 w6 : World} {row : Option Nat} {m' : Nat} {next' : Int → List Int} (hall : wr.grownBy w5 row) (hrow : ∀ k, row = some k → w0.heap.size + 2 ≤ k ∧ k ≠ g) (h6 : w5.grownBy w6 (some (w0.heap.size + 1))) (hm : MG w6 (w0.heap.size + 1) m' next' g) :
    OS w0 ob m' g off cap next' wk w6 := by
  have hlt := h.wk.lt
  have hlo := h.wk.lo
  have l1 := hall.size
  have hb := lt_block h.bx
  have e1 : ∀ i, i < wr.heap.size → row ≠ some i → i ≠ w0.heap.size + 1 → w6.heap[i]? = wr.heap[i]? := fun i hi h1 h2 =>
    (h6.block i (by omega) (fun e => h2 (by injection e))).trans (hall.block i hi (fun e => h1 e.symm))
  have hbel := h.bel.grown hall h.bel.size (fun k hk => by have := hrow k hk; omega)
  have hsz := h.bel.size
  refine ⟨hm, h.wk.congr (e1 g hlt (fun e => (hrow g e).2 rfl) (by omega)), hbel.grown h6 hbel.size (fun k hk => by cases hk; omega), (e1 _ hb (fun e => by have := (hrow _ e).1; omega) (by omega)).trans h.bx⟩
theorem OS.tail {x : Int} (h : OS w0 ob m g off cap next (x :: wk) wr) : OS w0 ob m g (off + 1) (cap - 1) next wk wr := ⟨h.mg, h.wk.tail, h.bel, h.bx⟩
end
theorem own_block_lo {w : World} {B e n : Nat} {v : Value} {xs : List Value} (h : w.ownsRow B e 1 v n xs) {k : Nat} (hk : v.ownBlock = some k) : B ≤ k ∧ k < w.heap.size := by
  rcases h.2 with ⟨rfl, _⟩ | ⟨g, cap, cur, rfl, hl, hg, _⟩
  · cases hk
  · cases hk; exact ⟨hl, lt_block hg⟩
theorem mg_put {w : World} {B m g : Nat} {D : DataW Unit} {next : Int → List Int} {p x : Int} {v' : Value} {base : Nat} {w5 : World} (hN : NxD D next) (hp : I64 p) (hw : w5.ownsInts base 3 .i64 v' (next p ++ [x]))
    (ho : w.ownsGroups Try.prog 3 (B + 1) 3 .i64 B (m + 1) (D.put (kI p) (rowDatum .i64 v' (next p ++ [x])))) (hs : w.Shuns B (fun b => b = g)) : MG w B (m + 1) (fun u => if u = p then next p ++ [x] else next u) g := by
  have e : rowDatum (H := Unit) .i64 v' (next p ++ [x]) = .slice (lits .i64 (next p ++ [x])) [] := by
    rcases hw.datum (H := Unit) with ⟨_, h⟩ | h
    · simp at h
    · exact h
  rw [e] at ho
  exact ⟨_, ho, hN.put hp (by simp), hs⟩
end Go.Proofs.Ytmlpbhankgojpaa
