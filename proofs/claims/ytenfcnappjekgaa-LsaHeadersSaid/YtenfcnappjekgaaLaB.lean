/-
  Memory: what a call leaves as it was; headers of advertisements.
-/
import Derived.Test.YtenfcnappjekgaaWalkH
import Derived.Deep.QuietTactic
import Derived.BigQuiet
import Derived.Deep.RegionHeld3
import Derived.Laws.ResultCell
import Derived.OneCell
import Derived.LoopN
import Derived.RegionTactic
namespace Go.Proofs.Ytenfcnappjekgaa
open Go.RowKit
set_option linter.unusedSimpArgs false
set_option linter.unusedVariables false

theorem below_alloc (w : World) (o : Obj) : Below w.heap.size w (w.alloc o) := (Below.refl _ w).alloc (Nat.le_refl _) o
theorem below_then {w W w1 : World} (h : Below w.heap.size w W) (hb : Below W.heap.size W w1) : Below w.heap.size w w1 := h.trans (hb.mono h.size)
theorem below2 (w : World) (o1 o2 : Obj) : Below w.heap.size w ((w.alloc o1).alloc o2) := below_then (below_alloc _ _) (below_alloc _ _)
theorem below3 (w : World) (o1 o2 o3 : Obj) : Below w.heap.size w (((w.alloc o1).alloc o2).alloc o3) := below_then (below2 _ _ _) (below_alloc _ _)
theorem carry {W w1 : World} (hb : Below W.heap.size W w1) {p : Addr} {v : Value} (h : W.cell? p = some v) : w1.cell? p = some v := (hb.cell (World.block_lt_of_cell? _ _ h)).trans h
theorem bcell {W w1 : World} (hb : Below W.heap.size W w1) : (∀ b o, b < W.heap.size → w1.cell? ⟨b, o, none⟩ = W.cell? ⟨b, o, none⟩) ∧ (∀ b o, b < W.heap.size → w1.frozen? ⟨b, o, none⟩ = W.frozen? ⟨b, o, none⟩) :=
  ⟨fun b o h => hb.cell (p := ⟨b, o, none⟩) h, fun b o h => by unfold World.frozen?; rw [hb.block b h]⟩
theorem cell_of {w : World} {g o : Nat} {cs : Array Value} {t : TypeId} {v : Value} (h : w.heap[g]? = some (.cells cs t (0, 0))) (hv : cs[o]? = some v) : w.cell? ⟨g, o, none⟩ = some v := by simp [World.cell?, h, hv]
theorem alloc_at {W : World} {cs : Array Value} {t g : Nat} (h : W.heap.size = g) : (W.alloc (.cells cs t)).heap[g]? = some (.cells cs t (0, 0)) := h ▸ heap_alloc_new W _
theorem alloc_past {W : World} {o : Obj} {g : Nat} {c : Option Obj} (h : W.heap[g]? = c) (hg : g < W.heap.size) : (W.alloc o).heap[g]? = c := (Below.heap_alloc W o g hg).trans h
def Boxed (w w' : World) : Prop := Below w.heap.size w w' ∧ w.heap.size < w'.heap.size
theorem boxed_box (w : World) (o : Obj) : Boxed w (w.alloc o).drew := ⟨(below_alloc w o).drew, by simp⟩
theorem boxed_then {w W w1 : World} (h : Boxed w W) (hb : Below W.heap.size W w1) : Boxed w w1 := ⟨below_then h.1 hb, Nat.lt_of_lt_of_le h.2 hb.size⟩

/-- a header: type, ID, length, router, number, age, sum -/
structure Hd where
  ty : Int
  id : Nat
  len : Int
  rt : Nat
  seq : Int
  age : Int
  sum : Int
structure HdOk (h : Hd) : Prop where
  ty : I64 h.ty
  id : h.id < 4294967296
  len : I64 h.len
  rt : h.rt < 4294967296
  seq : I64 h.seq
  age : I64 h.age
  sum : I64 h.sum
abbrev hdV (h : Hd) : Value := .agg #[.int .i64 h.ty, .int .u32 (h.id : Int), .int .i64 h.len, .int .u32 (h.rt : Int), .int .i64 h.seq, .int .i64 h.age, .int .i64 h.sum]
abbrev hdC (h : Hd) : Obj := .cells #[.int .i64 h.ty, .int .u32 (h.id : Int), .int .i64 h.len, .int .u32 (h.rt : Int), .int .i64 h.seq, .int .i64 h.age, .int .i64 h.sum] 24
abbrev keV (a : Int) (b : Nat) (c : Int) (d : Nat) : Value := .agg #[.int .i64 a, .int .u32 (b : Int), .int .i64 c, .int .u32 (d : Int)]
end Go.Proofs.Ytenfcnappjekgaa
