/-
  The walk of the law Headers.
-/
import Derived.Test.YtenfcnappjekgaaLcF
import Derived.Test.YtenfcnappjekgaaLaW
import Derived.Test.YtenfcnappjekgaaLxA
import Derived.Laws.StructEq
namespace Go.Proofs.Ytenfcnappjekgaa
open Go.RowKit
set_option linter.unusedSimpArgs false
set_option linter.unusedVariables false
set_option maxHeartbeats 4000000
set_option maxRecDepth 100000

theorem lawHeaders0 (h : Hd) (ho : HdOk h) (l : List Nat) (v : Value) (w : World) (hl : l.length ≤ 140737488351232) (hr : Rd w v l) (h0 : hdrC h = 0) : Calls Try.prog 8 #[hdV h, v] w fun e w' => e = .returned (.bool true) ∧ Below w.heap.size w w' := by
  obtain ⟨E, hE⟩ : ∃ E, hdB (toN h) = E := ⟨_, rfl⟩
  have H1 : Hid (∀ W, Calls Try.prog 31 #[hdV h] W fun e w' => ∃ v, e = .returned (.tuple #[v, .int .i64 0]) ∧ OwnB W w' v E ∧ Below W.heap.size W w') := fun W => by
    have := encHeader_any h ho W
    rw [h0, hE] at this
    exact this
  have H2 : Hid (∀ W, Calls Try.prog 32 #[hdV h] W fun e w' => e = .returned (.int .i64 0) ∧ Below W.heap.size W w') := fun W => h0 ▸ rhdr_any h ho W
  have H3 : Hid (∀ W, Calls Try.prog 33 #[hdV h] W fun e w' => ∃ v, e = .returned v ∧ OwnB W w' v E ∧ Below W.heap.size W w') := fun W => by
    have := rheader_any (toN h) (toN_ok ho h0) W
    rw [toN_z h0, hE] at this
    exact this
  obtain ⟨X, hX⟩ : ∃ X, dhH l = X := ⟨_, rfl⟩
  obtain ⟨d, hd⟩ : ∃ d, dhC l = d := ⟨_, rfl⟩
  have H4 : Hid (∀ W, Below w.heap.size w W → Calls Try.prog 34 #[v] W fun e w' => e = .returned (.tuple #[hdV X, .int .i64 d]) ∧ Below W.heap.size W w') := fun W hW => hX ▸ hd ▸ decHeader_any l v W (by omega) (hr.below hW)
  have H5 : Hid (∀ W, Below w.heap.size w W → Calls Try.prog 35 #[v] W fun e w' => e = .returned (.tuple #[hdV X, .int .i64 d]) ∧ Below W.heap.size W w') := fun W hW => hX ▸ hd ▸ rdecHeader_any l v W (by omega) (hr.below hW)
  have H6 := Lib.hid lives_any
  clear hX hd hr hl h0 ho hE
  have B0 := Lib.hid (below_alloc w (hdC h))
  have X0 : Hid ((w.alloc (hdC h)).heap[w.heap.size]? = some (.cells #[.int .i64 h.ty, .int .u32 (h.id : Int), .int .i64 h.len, .int .u32 (h.rt : Int), .int .i64 h.seq, .int .i64 h.age, .int .i64 h.sum] 24 (0, 0))) := heap_alloc_new w _
  go_enter Try.func8, Try.ntmps8
  go_wp2_with fail
  go_at_call 31
  refine (H1.out _).mono ?_
  rintro e w1 ⟨v1, rfl, hO, hb⟩
  have O1 := Lib.hid hO
  clear hO
  have B1 := Lib.hid (below_then B0.out hb)
  have X1 : Hid (w1.heap[w.heap.size]? = some (.cells #[.int .i64 h.ty, .int .u32 (h.id : Int), .int .i64 h.len, .int .u32 (h.rt : Int), .int .i64 h.seq, .int .i64 h.age, .int .i64 h.sum] 24 (0, 0))) := (hb.block _ (by simp)).trans X0.out
  clear hb
  have a0 : w1.cell? ⟨w.heap.size, 0, none⟩ = some (.int .i64 h.ty) := cell_of X1.out (rfl : (#[.int .i64 h.ty, .int .u32 (h.id : Int), .int .i64 h.len, .int .u32 (h.rt : Int), .int .i64 h.seq, .int .i64 h.age, .int .i64 h.sum] : Array Value)[0]? = some (.int .i64 h.ty))
  have a1 : w1.cell? ⟨w.heap.size, 1, none⟩ = some (.int .u32 (h.id : Int)) := cell_of X1.out (rfl : (#[.int .i64 h.ty, .int .u32 (h.id : Int), .int .i64 h.len, .int .u32 (h.rt : Int), .int .i64 h.seq, .int .i64 h.age, .int .i64 h.sum] : Array Value)[1]? = some (.int .u32 (h.id : Int)))
  have a2 : w1.cell? ⟨w.heap.size, 2, none⟩ = some (.int .i64 h.len) := cell_of X1.out (rfl : (#[.int .i64 h.ty, .int .u32 (h.id : Int), .int .i64 h.len, .int .u32 (h.rt : Int), .int .i64 h.seq, .int .i64 h.age, .int .i64 h.sum] : Array Value)[2]? = some (.int .i64 h.len))
  have a3 : w1.cell? ⟨w.heap.size, 3, none⟩ = some (.int .u32 (h.rt : Int)) := cell_of X1.out (rfl : (#[.int .i64 h.ty, .int .u32 (h.id : Int), .int .i64 h.len, .int .u32 (h.rt : Int), .int .i64 h.seq, .int .i64 h.age, .int .i64 h.sum] : Array Value)[3]? = some (.int .u32 (h.rt : Int)))
  have a4 : w1.cell? ⟨w.heap.size, 4, none⟩ = some (.int .i64 h.seq) := cell_of X1.out (rfl : (#[.int .i64 h.ty, .int .u32 (h.id : Int), .int .i64 h.len, .int .u32 (h.rt : Int), .int .i64 h.seq, .int .i64 h.age, .int .i64 h.sum] : Array Value)[4]? = some (.int .i64 h.seq))
  have a5 : w1.cell? ⟨w.heap.size, 5, none⟩ = some (.int .i64 h.age) := cell_of X1.out (rfl : (#[.int .i64 h.ty, .int .u32 (h.id : Int), .int .i64 h.len, .int .u32 (h.rt : Int), .int .i64 h.seq, .int .i64 h.age, .int .i64 h.sum] : Array Value)[5]? = some (.int .i64 h.age))
  have a6 : w1.cell? ⟨w.heap.size, 6, none⟩ = some (.int .i64 h.sum) := cell_of X1.out (rfl : (#[.int .i64 h.ty, .int .u32 (h.id : Int), .int .i64 h.len, .int .u32 (h.rt : Int), .int .i64 h.seq, .int .i64 h.age, .int .i64 h.sum] : Array Value)[6]? = some (.int .i64 h.sum))
  go_wp2_with fail
  go_at_call 32
  refine (H2.out _).mono ?_
  rintro e w2 ⟨rfl, hb⟩
  have B2 := Lib.hid (below_then B1.out hb)
  have L1 : w.heap.size < w1.heap.size := (Array.getElem?_eq_some_iff.1 X1.out).1
  have X2 : Hid (w2.heap[w.heap.size]? = some (.cells #[.int .i64 h.ty, .int .u32 (h.id : Int), .int .i64 h.len, .int .u32 (h.rt : Int), .int .i64 h.seq, .int .i64 h.age, .int .i64 h.sum] 24 (0, 0))) := (hb.block _ L1).trans X1.out
  have L2 : w.heap.size < w2.heap.size := (Array.getElem?_eq_some_iff.1 X2.out).1
  have O2 := Lib.hid (O1.out.below hb)
  clear hb a0 a1 a2 a3 a4 a5 a6
  have b0 : w2.cell? ⟨w.heap.size, 0, none⟩ = some (.int .i64 h.ty) := cell_of X2.out (rfl : (#[.int .i64 h.ty, .int .u32 (h.id : Int), .int .i64 h.len, .int .u32 (h.rt : Int), .int .i64 h.seq, .int .i64 h.age, .int .i64 h.sum] : Array Value)[0]? = some (.int .i64 h.ty))
  have b1 : w2.cell? ⟨w.heap.size, 1, none⟩ = some (.int .u32 (h.id : Int)) := cell_of X2.out (rfl : (#[.int .i64 h.ty, .int .u32 (h.id : Int), .int .i64 h.len, .int .u32 (h.rt : Int), .int .i64 h.seq, .int .i64 h.age, .int .i64 h.sum] : Array Value)[1]? = some (.int .u32 (h.id : Int)))
  have b2 : w2.cell? ⟨w.heap.size, 2, none⟩ = some (.int .i64 h.len) := cell_of X2.out (rfl : (#[.int .i64 h.ty, .int .u32 (h.id : Int), .int .i64 h.len, .int .u32 (h.rt : Int), .int .i64 h.seq, .int .i64 h.age, .int .i64 h.sum] : Array Value)[2]? = some (.int .i64 h.len))
  have b3 : w2.cell? ⟨w.heap.size, 3, none⟩ = some (.int .u32 (h.rt : Int)) := cell_of X2.out (rfl : (#[.int .i64 h.ty, .int .u32 (h.id : Int), .int .i64 h.len, .int .u32 (h.rt : Int), .int .i64 h.seq, .int .i64 h.age, .int .i64 h.sum] : Array Value)[3]? = some (.int .u32 (h.rt : Int)))
  have b4 : w2.cell? ⟨w.heap.size, 4, none⟩ = some (.int .i64 h.seq) := cell_of X2.out (rfl : (#[.int .i64 h.ty, .int .u32 (h.id : Int), .int .i64 h.len, .int .u32 (h.rt : Int), .int .i64 h.seq, .int .i64 h.age, .int .i64 h.sum] : Array Value)[4]? = some (.int .i64 h.seq))
  have b5 : w2.cell? ⟨w.heap.size, 5, none⟩ = some (.int .i64 h.age) := cell_of X2.out (rfl : (#[.int .i64 h.ty, .int .u32 (h.id : Int), .int .i64 h.len, .int .u32 (h.rt : Int), .int .i64 h.seq, .int .i64 h.age, .int .i64 h.sum] : Array Value)[5]? = some (.int .i64 h.age))
  have b6 : w2.cell? ⟨w.heap.size, 6, none⟩ = some (.int .i64 h.sum) := cell_of X2.out (rfl : (#[.int .i64 h.ty, .int .u32 (h.id : Int), .int .i64 h.len, .int .u32 (h.rt : Int), .int .i64 h.seq, .int .i64 h.age, .int .i64 h.sum] : Array Value)[6]? = some (.int .i64 h.sum))
  go_wp2_with fail
  go_at_call 33
  refine (H3.out _).mono ?_
  rintro e w3 ⟨v2, rfl, hO, hb⟩
  have B3 := Lib.hid (below_then B2.out hb)
  have R1 := Lib.hid (O2.out.below hb).rd
  have R2 := Lib.hid hO.rd
  clear hb hO
  go_wp2_with fail
  go_at_call 27
  refine (sameBytes_any E v1 v2 _ R1.out R2.out).mono ?_
  rintro e w3 ⟨rfl, rfl⟩
  have B5 := B3
  go_wp2_with fail
  go_at_call 34
  refine (H4.out _ B5.out).mono ?_
  rintro e w6 ⟨rfl, hb⟩
  have B6 := Lib.hid (below_then B5.out hb)
  have Y6 : Hid ((w6.alloc (hdC X)).heap[w6.heap.size]? = some (.cells #[.int .i64 X.ty, .int .u32 (X.id : Int), .int .i64 X.len, .int .u32 (X.rt : Int), .int .i64 X.seq, .int .i64 X.age, .int .i64 X.sum] 24 (0, 0))) := heap_alloc_new w6 _
  clear hb
  go_wp2_with fail
  go_at_call 35
  refine (H5.out _ (below_then B6.out (below_alloc _ _))).mono ?_
  rintro e w7 ⟨rfl, hb⟩
  have B7 := Lib.hid (below_then (below_then B6.out (below_alloc _ _)) hb)
  have Y7 : Hid (w7.heap[w6.heap.size]? = some (.cells #[.int .i64 X.ty, .int .u32 (X.id : Int), .int .i64 X.len, .int .u32 (X.rt : Int), .int .i64 X.seq, .int .i64 X.age, .int .i64 X.sum] 24 (0, 0))) := (hb.block _ (by simp)).trans Y6.out
  have L7 : w6.heap.size < w7.heap.size := (Array.getElem?_eq_some_iff.1 Y7.out).1
  have Y8 : Hid ((w7.alloc (hdC X)).heap[w6.heap.size]? = some (.cells #[.int .i64 X.ty, .int .u32 (X.id : Int), .int .i64 X.len, .int .u32 (X.rt : Int), .int .i64 X.seq, .int .i64 X.age, .int .i64 X.sum] 24 (0, 0))) := alloc_past Y7.out L7
  have Z8 : Hid ((w7.alloc (hdC X)).heap[w7.heap.size]? = some (.cells #[.int .i64 X.ty, .int .u32 (X.id : Int), .int .i64 X.len, .int .u32 (X.rt : Int), .int .i64 X.seq, .int .i64 X.age, .int .i64 X.sum] 24 (0, 0))) := heap_alloc_new w7 _
  have B8 := Lib.hid (below_then B7.out (below_alloc w7 (hdC X)))
  have L8 : w6.heap.size < (w7.alloc (hdC X)).heap.size := (Array.getElem?_eq_some_iff.1 Y8.out).1
  have L9 : w7.heap.size < (w7.alloc (hdC X)).heap.size := (Array.getElem?_eq_some_iff.1 Z8.out).1
  clear hb
  have y0 : (w7.alloc (hdC X)).cell? ⟨w6.heap.size, 0, none⟩ = some (.int .i64 X.ty) := cell_of Y8.out (rfl : (#[.int .i64 X.ty, .int .u32 (X.id : Int), .int .i64 X.len, .int .u32 (X.rt : Int), .int .i64 X.seq, .int .i64 X.age, .int .i64 X.sum] : Array Value)[0]? = some (.int .i64 X.ty))
  have y1 : (w7.alloc (hdC X)).cell? ⟨w6.heap.size, 1, none⟩ = some (.int .u32 (X.id : Int)) := cell_of Y8.out (rfl : (#[.int .i64 X.ty, .int .u32 (X.id : Int), .int .i64 X.len, .int .u32 (X.rt : Int), .int .i64 X.seq, .int .i64 X.age, .int .i64 X.sum] : Array Value)[1]? = some (.int .u32 (X.id : Int)))
  have y2 : (w7.alloc (hdC X)).cell? ⟨w6.heap.size, 2, none⟩ = some (.int .i64 X.len) := cell_of Y8.out (rfl : (#[.int .i64 X.ty, .int .u32 (X.id : Int), .int .i64 X.len, .int .u32 (X.rt : Int), .int .i64 X.seq, .int .i64 X.age, .int .i64 X.sum] : Array Value)[2]? = some (.int .i64 X.len))
  have y3 : (w7.alloc (hdC X)).cell? ⟨w6.heap.size, 3, none⟩ = some (.int .u32 (X.rt : Int)) := cell_of Y8.out (rfl : (#[.int .i64 X.ty, .int .u32 (X.id : Int), .int .i64 X.len, .int .u32 (X.rt : Int), .int .i64 X.seq, .int .i64 X.age, .int .i64 X.sum] : Array Value)[3]? = some (.int .u32 (X.rt : Int)))
  have y4 : (w7.alloc (hdC X)).cell? ⟨w6.heap.size, 4, none⟩ = some (.int .i64 X.seq) := cell_of Y8.out (rfl : (#[.int .i64 X.ty, .int .u32 (X.id : Int), .int .i64 X.len, .int .u32 (X.rt : Int), .int .i64 X.seq, .int .i64 X.age, .int .i64 X.sum] : Array Value)[4]? = some (.int .i64 X.seq))
  have y5 : (w7.alloc (hdC X)).cell? ⟨w6.heap.size, 5, none⟩ = some (.int .i64 X.age) := cell_of Y8.out (rfl : (#[.int .i64 X.ty, .int .u32 (X.id : Int), .int .i64 X.len, .int .u32 (X.rt : Int), .int .i64 X.seq, .int .i64 X.age, .int .i64 X.sum] : Array Value)[5]? = some (.int .i64 X.age))
  have y6 : (w7.alloc (hdC X)).cell? ⟨w6.heap.size, 6, none⟩ = some (.int .i64 X.sum) := cell_of Y8.out (rfl : (#[.int .i64 X.ty, .int .u32 (X.id : Int), .int .i64 X.len, .int .u32 (X.rt : Int), .int .i64 X.seq, .int .i64 X.age, .int .i64 X.sum] : Array Value)[6]? = some (.int .i64 X.sum))
  have z0 : (w7.alloc (hdC X)).cell? ⟨w7.heap.size, 0, none⟩ = some (.int .i64 X.ty) := cell_of Z8.out (rfl : (#[.int .i64 X.ty, .int .u32 (X.id : Int), .int .i64 X.len, .int .u32 (X.rt : Int), .int .i64 X.seq, .int .i64 X.age, .int .i64 X.sum] : Array Value)[0]? = some (.int .i64 X.ty))
  have z1 : (w7.alloc (hdC X)).cell? ⟨w7.heap.size, 1, none⟩ = some (.int .u32 (X.id : Int)) := cell_of Z8.out (rfl : (#[.int .i64 X.ty, .int .u32 (X.id : Int), .int .i64 X.len, .int .u32 (X.rt : Int), .int .i64 X.seq, .int .i64 X.age, .int .i64 X.sum] : Array Value)[1]? = some (.int .u32 (X.id : Int)))
  have z2 : (w7.alloc (hdC X)).cell? ⟨w7.heap.size, 2, none⟩ = some (.int .i64 X.len) := cell_of Z8.out (rfl : (#[.int .i64 X.ty, .int .u32 (X.id : Int), .int .i64 X.len, .int .u32 (X.rt : Int), .int .i64 X.seq, .int .i64 X.age, .int .i64 X.sum] : Array Value)[2]? = some (.int .i64 X.len))
  have z3 : (w7.alloc (hdC X)).cell? ⟨w7.heap.size, 3, none⟩ = some (.int .u32 (X.rt : Int)) := cell_of Z8.out (rfl : (#[.int .i64 X.ty, .int .u32 (X.id : Int), .int .i64 X.len, .int .u32 (X.rt : Int), .int .i64 X.seq, .int .i64 X.age, .int .i64 X.sum] : Array Value)[3]? = some (.int .u32 (X.rt : Int)))
  have z4 : (w7.alloc (hdC X)).cell? ⟨w7.heap.size, 4, none⟩ = some (.int .i64 X.seq) := cell_of Z8.out (rfl : (#[.int .i64 X.ty, .int .u32 (X.id : Int), .int .i64 X.len, .int .u32 (X.rt : Int), .int .i64 X.seq, .int .i64 X.age, .int .i64 X.sum] : Array Value)[4]? = some (.int .i64 X.seq))
  have z5 : (w7.alloc (hdC X)).cell? ⟨w7.heap.size, 5, none⟩ = some (.int .i64 X.age) := cell_of Z8.out (rfl : (#[.int .i64 X.ty, .int .u32 (X.id : Int), .int .i64 X.len, .int .u32 (X.rt : Int), .int .i64 X.seq, .int .i64 X.age, .int .i64 X.sum] : Array Value)[5]? = some (.int .i64 X.age))
  have z6 : (w7.alloc (hdC X)).cell? ⟨w7.heap.size, 6, none⟩ = some (.int .i64 X.sum) := cell_of Z8.out (rfl : (#[.int .i64 X.ty, .int .u32 (X.id : Int), .int .i64 X.len, .int .u32 (X.rt : Int), .int .i64 X.seq, .int .i64 X.age, .int .i64 X.sum] : Array Value)[6]? = some (.int .i64 X.sum))
  go_wp2_with fail
  go_at_call 15
  refine (H6.out _).mono ?_
  rintro e w9 ⟨rfl, hb⟩
  have B9 := Lib.hid (below_then B8.out hb)
  clear hb
  go_wp2
  go_ret
  exact ⟨rfl, B9.out⟩
theorem lawHeaders1 (h : Hd) (ho : HdOk h) (l : List Nat) (v : Value) (w : World) (hl : l.length ≤ 140737488351232) (hr : Rd w v l) (h0 : hdrC h ≠ 0) : Calls Try.prog 8 #[hdV h, v] w fun e w' => e = .returned (.bool true) ∧ Below w.heap.size w w' := by
  obtain ⟨c, hc⟩ : ∃ c, hdrC h = c := ⟨_, rfl⟩
  rw [hc] at h0
  have H1 : Hid (∀ W, Calls Try.prog 31 #[hdV h] W fun e w' => ∃ ad cap, e = .returned (.tuple #[.slice ad 0 cap, .int .i64 c]) ∧ Below W.heap.size W w') := fun W => by
    have := encHeader_any h ho W
    rw [hc] at this
    refine this.mono ?_
    rintro e w' ⟨v, he, hO, hb⟩
    rw [if_neg h0] at hO
    obtain ⟨ad, cap, rfl, -⟩ := hO.rd
    exact ⟨ad, cap, he, hb⟩
  have H2 : Hid (∀ W, Calls Try.prog 32 #[hdV h] W fun e w' => e = .returned (.int .i64 c) ∧ Below W.heap.size W w') := fun W => hc ▸ rhdr_any h ho W
  have n0 : (c == 0) = false := by simpa using h0
  have n1 : (c != 0) = true := by simpa using h0
  obtain ⟨X, hX⟩ : ∃ X, dhH l = X := ⟨_, rfl⟩
  obtain ⟨d, hd⟩ : ∃ d, dhC l = d := ⟨_, rfl⟩
  have H4 : Hid (∀ W, Below w.heap.size w W → Calls Try.prog 34 #[v] W fun e w' => e = .returned (.tuple #[hdV X, .int .i64 d]) ∧ Below W.heap.size W w') := fun W hW => hX ▸ hd ▸ decHeader_any l v W (by omega) (hr.below hW)
  have H5 : Hid (∀ W, Below w.heap.size w W → Calls Try.prog 35 #[v] W fun e w' => e = .returned (.tuple #[hdV X, .int .i64 d]) ∧ Below W.heap.size W w') := fun W hW => hX ▸ hd ▸ rdecHeader_any l v W (by omega) (hr.below hW)
  have H6 := Lib.hid lives_any
  clear hX hd hr hl h0 ho hc
  have B0 := Lib.hid (below_alloc w (hdC h))
  have X0 : Hid ((w.alloc (hdC h)).heap[w.heap.size]? = some (.cells #[.int .i64 h.ty, .int .u32 (h.id : Int), .int .i64 h.len, .int .u32 (h.rt : Int), .int .i64 h.seq, .int .i64 h.age, .int .i64 h.sum] 24 (0, 0))) := heap_alloc_new w _
  go_enter Try.func8, Try.ntmps8
  go_wp2_with fail
  go_at_call 31
  refine (H1.out _).mono ?_
  rintro e w1 ⟨ad, cap, rfl, hb⟩
  have B1 := Lib.hid (below_then B0.out hb)
  have X1 : Hid (w1.heap[w.heap.size]? = some (.cells #[.int .i64 h.ty, .int .u32 (h.id : Int), .int .i64 h.len, .int .u32 (h.rt : Int), .int .i64 h.seq, .int .i64 h.age, .int .i64 h.sum] 24 (0, 0))) := (hb.block _ (by simp)).trans X0.out
  clear hb
  have a0 : w1.cell? ⟨w.heap.size, 0, none⟩ = some (.int .i64 h.ty) := cell_of X1.out (rfl : (#[.int .i64 h.ty, .int .u32 (h.id : Int), .int .i64 h.len, .int .u32 (h.rt : Int), .int .i64 h.seq, .int .i64 h.age, .int .i64 h.sum] : Array Value)[0]? = some (.int .i64 h.ty))
  have a1 : w1.cell? ⟨w.heap.size, 1, none⟩ = some (.int .u32 (h.id : Int)) := cell_of X1.out (rfl : (#[.int .i64 h.ty, .int .u32 (h.id : Int), .int .i64 h.len, .int .u32 (h.rt : Int), .int .i64 h.seq, .int .i64 h.age, .int .i64 h.sum] : Array Value)[1]? = some (.int .u32 (h.id : Int)))
  have a2 : w1.cell? ⟨w.heap.size, 2, none⟩ = some (.int .i64 h.len) := cell_of X1.out (rfl : (#[.int .i64 h.ty, .int .u32 (h.id : Int), .int .i64 h.len, .int .u32 (h.rt : Int), .int .i64 h.seq, .int .i64 h.age, .int .i64 h.sum] : Array Value)[2]? = some (.int .i64 h.len))
  have a3 : w1.cell? ⟨w.heap.size, 3, none⟩ = some (.int .u32 (h.rt : Int)) := cell_of X1.out (rfl : (#[.int .i64 h.ty, .int .u32 (h.id : Int), .int .i64 h.len, .int .u32 (h.rt : Int), .int .i64 h.seq, .int .i64 h.age, .int .i64 h.sum] : Array Value)[3]? = some (.int .u32 (h.rt : Int)))
  have a4 : w1.cell? ⟨w.heap.size, 4, none⟩ = some (.int .i64 h.seq) := cell_of X1.out (rfl : (#[.int .i64 h.ty, .int .u32 (h.id : Int), .int .i64 h.len, .int .u32 (h.rt : Int), .int .i64 h.seq, .int .i64 h.age, .int .i64 h.sum] : Array Value)[4]? = some (.int .i64 h.seq))
  have a5 : w1.cell? ⟨w.heap.size, 5, none⟩ = some (.int .i64 h.age) := cell_of X1.out (rfl : (#[.int .i64 h.ty, .int .u32 (h.id : Int), .int .i64 h.len, .int .u32 (h.rt : Int), .int .i64 h.seq, .int .i64 h.age, .int .i64 h.sum] : Array Value)[5]? = some (.int .i64 h.age))
  have a6 : w1.cell? ⟨w.heap.size, 6, none⟩ = some (.int .i64 h.sum) := cell_of X1.out (rfl : (#[.int .i64 h.ty, .int .u32 (h.id : Int), .int .i64 h.len, .int .u32 (h.rt : Int), .int .i64 h.seq, .int .i64 h.age, .int .i64 h.sum] : Array Value)[6]? = some (.int .i64 h.sum))
  go_wp2_with fail
  go_at_call 32
  refine (H2.out _).mono ?_
  rintro e w2 ⟨rfl, hb⟩
  have B2 := Lib.hid (below_then B1.out hb)
  have L1 : w.heap.size < w1.heap.size := (Array.getElem?_eq_some_iff.1 X1.out).1
  have X2 : Hid (w2.heap[w.heap.size]? = some (.cells #[.int .i64 h.ty, .int .u32 (h.id : Int), .int .i64 h.len, .int .u32 (h.rt : Int), .int .i64 h.seq, .int .i64 h.age, .int .i64 h.sum] 24 (0, 0))) := (hb.block _ L1).trans X1.out
  have L2 : w.heap.size < w2.heap.size := (Array.getElem?_eq_some_iff.1 X2.out).1
  clear hb a0 a1 a2 a3 a4 a5 a6
  have b0 : w2.cell? ⟨w.heap.size, 0, none⟩ = some (.int .i64 h.ty) := cell_of X2.out (rfl : (#[.int .i64 h.ty, .int .u32 (h.id : Int), .int .i64 h.len, .int .u32 (h.rt : Int), .int .i64 h.seq, .int .i64 h.age, .int .i64 h.sum] : Array Value)[0]? = some (.int .i64 h.ty))
  have b1 : w2.cell? ⟨w.heap.size, 1, none⟩ = some (.int .u32 (h.id : Int)) := cell_of X2.out (rfl : (#[.int .i64 h.ty, .int .u32 (h.id : Int), .int .i64 h.len, .int .u32 (h.rt : Int), .int .i64 h.seq, .int .i64 h.age, .int .i64 h.sum] : Array Value)[1]? = some (.int .u32 (h.id : Int)))
  have b2 : w2.cell? ⟨w.heap.size, 2, none⟩ = some (.int .i64 h.len) := cell_of X2.out (rfl : (#[.int .i64 h.ty, .int .u32 (h.id : Int), .int .i64 h.len, .int .u32 (h.rt : Int), .int .i64 h.seq, .int .i64 h.age, .int .i64 h.sum] : Array Value)[2]? = some (.int .i64 h.len))
  have b3 : w2.cell? ⟨w.heap.size, 3, none⟩ = some (.int .u32 (h.rt : Int)) := cell_of X2.out (rfl : (#[.int .i64 h.ty, .int .u32 (h.id : Int), .int .i64 h.len, .int .u32 (h.rt : Int), .int .i64 h.seq, .int .i64 h.age, .int .i64 h.sum] : Array Value)[3]? = some (.int .u32 (h.rt : Int)))
  have b4 : w2.cell? ⟨w.heap.size, 4, none⟩ = some (.int .i64 h.seq) := cell_of X2.out (rfl : (#[.int .i64 h.ty, .int .u32 (h.id : Int), .int .i64 h.len, .int .u32 (h.rt : Int), .int .i64 h.seq, .int .i64 h.age, .int .i64 h.sum] : Array Value)[4]? = some (.int .i64 h.seq))
  have b5 : w2.cell? ⟨w.heap.size, 5, none⟩ = some (.int .i64 h.age) := cell_of X2.out (rfl : (#[.int .i64 h.ty, .int .u32 (h.id : Int), .int .i64 h.len, .int .u32 (h.rt : Int), .int .i64 h.seq, .int .i64 h.age, .int .i64 h.sum] : Array Value)[5]? = some (.int .i64 h.age))
  have b6 : w2.cell? ⟨w.heap.size, 6, none⟩ = some (.int .i64 h.sum) := cell_of X2.out (rfl : (#[.int .i64 h.ty, .int .u32 (h.id : Int), .int .i64 h.len, .int .u32 (h.rt : Int), .int .i64 h.seq, .int .i64 h.age, .int .i64 h.sum] : Array Value)[6]? = some (.int .i64 h.sum))
  have B3 := B2
  have B5 := B3
  go_wp2_with fail
  go_at_call 34
  refine (H4.out _ B5.out).mono ?_
  rintro e w6 ⟨rfl, hb⟩
  have B6 := Lib.hid (below_then B5.out hb)
  have Y6 : Hid ((w6.alloc (hdC X)).heap[w6.heap.size]? = some (.cells #[.int .i64 X.ty, .int .u32 (X.id : Int), .int .i64 X.len, .int .u32 (X.rt : Int), .int .i64 X.seq, .int .i64 X.age, .int .i64 X.sum] 24 (0, 0))) := heap_alloc_new w6 _
  clear hb
  go_wp2_with fail
  go_at_call 35
  refine (H5.out _ (below_then B6.out (below_alloc _ _))).mono ?_
  rintro e w7 ⟨rfl, hb⟩
  have B7 := Lib.hid (below_then (below_then B6.out (below_alloc _ _)) hb)
  have Y7 : Hid (w7.heap[w6.heap.size]? = some (.cells #[.int .i64 X.ty, .int .u32 (X.id : Int), .int .i64 X.len, .int .u32 (X.rt : Int), .int .i64 X.seq, .int .i64 X.age, .int .i64 X.sum] 24 (0, 0))) := (hb.block _ (by simp)).trans Y6.out
  have L7 : w6.heap.size < w7.heap.size := (Array.getElem?_eq_some_iff.1 Y7.out).1
  have Y8 : Hid ((w7.alloc (hdC X)).heap[w6.heap.size]? = some (.cells #[.int .i64 X.ty, .int .u32 (X.id : Int), .int .i64 X.len, .int .u32 (X.rt : Int), .int .i64 X.seq, .int .i64 X.age, .int .i64 X.sum] 24 (0, 0))) := alloc_past Y7.out L7
  have Z8 : Hid ((w7.alloc (hdC X)).heap[w7.heap.size]? = some (.cells #[.int .i64 X.ty, .int .u32 (X.id : Int), .int .i64 X.len, .int .u32 (X.rt : Int), .int .i64 X.seq, .int .i64 X.age, .int .i64 X.sum] 24 (0, 0))) := heap_alloc_new w7 _
  have B8 := Lib.hid (below_then B7.out (below_alloc w7 (hdC X)))
  have L8 : w6.heap.size < (w7.alloc (hdC X)).heap.size := (Array.getElem?_eq_some_iff.1 Y8.out).1
  have L9 : w7.heap.size < (w7.alloc (hdC X)).heap.size := (Array.getElem?_eq_some_iff.1 Z8.out).1
  clear hb
  have y0 : (w7.alloc (hdC X)).cell? ⟨w6.heap.size, 0, none⟩ = some (.int .i64 X.ty) := cell_of Y8.out (rfl : (#[.int .i64 X.ty, .int .u32 (X.id : Int), .int .i64 X.len, .int .u32 (X.rt : Int), .int .i64 X.seq, .int .i64 X.age, .int .i64 X.sum] : Array Value)[0]? = some (.int .i64 X.ty))
  have y1 : (w7.alloc (hdC X)).cell? ⟨w6.heap.size, 1, none⟩ = some (.int .u32 (X.id : Int)) := cell_of Y8.out (rfl : (#[.int .i64 X.ty, .int .u32 (X.id : Int), .int .i64 X.len, .int .u32 (X.rt : Int), .int .i64 X.seq, .int .i64 X.age, .int .i64 X.sum] : Array Value)[1]? = some (.int .u32 (X.id : Int)))
  have y2 : (w7.alloc (hdC X)).cell? ⟨w6.heap.size, 2, none⟩ = some (.int .i64 X.len) := cell_of Y8.out (rfl : (#[.int .i64 X.ty, .int .u32 (X.id : Int), .int .i64 X.len, .int .u32 (X.rt : Int), .int .i64 X.seq, .int .i64 X.age, .int .i64 X.sum] : Array Value)[2]? = some (.int .i64 X.len))
  have y3 : (w7.alloc (hdC X)).cell? ⟨w6.heap.size, 3, none⟩ = some (.int .u32 (X.rt : Int)) := cell_of Y8.out (rfl : (#[.int .i64 X.ty, .int .u32 (X.id : Int), .int .i64 X.len, .int .u32 (X.rt : Int), .int .i64 X.seq, .int .i64 X.age, .int .i64 X.sum] : Array Value)[3]? = some (.int .u32 (X.rt : Int)))
  have y4 : (w7.alloc (hdC X)).cell? ⟨w6.heap.size, 4, none⟩ = some (.int .i64 X.seq) := cell_of Y8.out (rfl : (#[.int .i64 X.ty, .int .u32 (X.id : Int), .int .i64 X.len, .int .u32 (X.rt : Int), .int .i64 X.seq, .int .i64 X.age, .int .i64 X.sum] : Array Value)[4]? = some (.int .i64 X.seq))
  have y5 : (w7.alloc (hdC X)).cell? ⟨w6.heap.size, 5, none⟩ = some (.int .i64 X.age) := cell_of Y8.out (rfl : (#[.int .i64 X.ty, .int .u32 (X.id : Int), .int .i64 X.len, .int .u32 (X.rt : Int), .int .i64 X.seq, .int .i64 X.age, .int .i64 X.sum] : Array Value)[5]? = some (.int .i64 X.age))
  have y6 : (w7.alloc (hdC X)).cell? ⟨w6.heap.size, 6, none⟩ = some (.int .i64 X.sum) := cell_of Y8.out (rfl : (#[.int .i64 X.ty, .int .u32 (X.id : Int), .int .i64 X.len, .int .u32 (X.rt : Int), .int .i64 X.seq, .int .i64 X.age, .int .i64 X.sum] : Array Value)[6]? = some (.int .i64 X.sum))
  have z0 : (w7.alloc (hdC X)).cell? ⟨w7.heap.size, 0, none⟩ = some (.int .i64 X.ty) := cell_of Z8.out (rfl : (#[.int .i64 X.ty, .int .u32 (X.id : Int), .int .i64 X.len, .int .u32 (X.rt : Int), .int .i64 X.seq, .int .i64 X.age, .int .i64 X.sum] : Array Value)[0]? = some (.int .i64 X.ty))
  have z1 : (w7.alloc (hdC X)).cell? ⟨w7.heap.size, 1, none⟩ = some (.int .u32 (X.id : Int)) := cell_of Z8.out (rfl : (#[.int .i64 X.ty, .int .u32 (X.id : Int), .int .i64 X.len, .int .u32 (X.rt : Int), .int .i64 X.seq, .int .i64 X.age, .int .i64 X.sum] : Array Value)[1]? = some (.int .u32 (X.id : Int)))
  have z2 : (w7.alloc (hdC X)).cell? ⟨w7.heap.size, 2, none⟩ = some (.int .i64 X.len) := cell_of Z8.out (rfl : (#[.int .i64 X.ty, .int .u32 (X.id : Int), .int .i64 X.len, .int .u32 (X.rt : Int), .int .i64 X.seq, .int .i64 X.age, .int .i64 X.sum] : Array Value)[2]? = some (.int .i64 X.len))
  have z3 : (w7.alloc (hdC X)).cell? ⟨w7.heap.size, 3, none⟩ = some (.int .u32 (X.rt : Int)) := cell_of Z8.out (rfl : (#[.int .i64 X.ty, .int .u32 (X.id : Int), .int .i64 X.len, .int .u32 (X.rt : Int), .int .i64 X.seq, .int .i64 X.age, .int .i64 X.sum] : Array Value)[3]? = some (.int .u32 (X.rt : Int)))
  have z4 : (w7.alloc (hdC X)).cell? ⟨w7.heap.size, 4, none⟩ = some (.int .i64 X.seq) := cell_of Z8.out (rfl : (#[.int .i64 X.ty, .int .u32 (X.id : Int), .int .i64 X.len, .int .u32 (X.rt : Int), .int .i64 X.seq, .int .i64 X.age, .int .i64 X.sum] : Array Value)[4]? = some (.int .i64 X.seq))
  have z5 : (w7.alloc (hdC X)).cell? ⟨w7.heap.size, 5, none⟩ = some (.int .i64 X.age) := cell_of Z8.out (rfl : (#[.int .i64 X.ty, .int .u32 (X.id : Int), .int .i64 X.len, .int .u32 (X.rt : Int), .int .i64 X.seq, .int .i64 X.age, .int .i64 X.sum] : Array Value)[5]? = some (.int .i64 X.age))
  have z6 : (w7.alloc (hdC X)).cell? ⟨w7.heap.size, 6, none⟩ = some (.int .i64 X.sum) := cell_of Z8.out (rfl : (#[.int .i64 X.ty, .int .u32 (X.id : Int), .int .i64 X.len, .int .u32 (X.rt : Int), .int .i64 X.seq, .int .i64 X.age, .int .i64 X.sum] : Array Value)[6]? = some (.int .i64 X.sum))
  go_wp2_with fail
  go_at_call 15
  refine (H6.out _).mono ?_
  rintro e w9 ⟨rfl, hb⟩
  have B9 := Lib.hid (below_then B8.out hb)
  clear hb
  go_wp2
  go_ret
  exact ⟨rfl, B9.out⟩
theorem lawHeaders (h : Hd) (ho : HdOk h) (l : List Nat) (v : Value) (w : World) (hl : l.length ≤ 140737488351232) (hr : Rd w v l) : Calls Try.prog 8 #[hdV h, v] w fun e w' => e = .returned (.bool true) ∧ Below w.heap.size w w' := by
  by_cases h0 : hdrC h = 0
  · exact lawHeaders0 h ho l v w hl hr h0
  · exact lawHeaders1 h ho l v w hl hr h0
end Go.Proofs.Ytenfcnappjekgaa
