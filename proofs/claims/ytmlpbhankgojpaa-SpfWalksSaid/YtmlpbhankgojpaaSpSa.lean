/-
  The walks of Same, the program's and the reference's, and a tree as memory reads.
-/
import Derived.Test.YtmlpbhankgojpaaSpSm
import Derived.Test.YtmlpbhankgojpaaSpSt
namespace Go.Proofs.Ytmlpbhankgojpaa
open Go.RowKit HM GM SP
set_option linter.unusedSimpArgs false
set_option linter.unusedVariables false
set_option maxHeartbeats 4000000
set_option maxRecDepth 100000

/-- a tree as memory reads -/
structure Tre where
  root : Int
  dist : List Int
  hops : List (List Int)
  pars : List (List Int)
  deriving DecidableEq
def RdT (w : World) (v : Value) (t : Tre) : Prop := ∃ d h p, v = .agg #[.int .i64 t.root, d, h, p] ∧ RdI w d t.dist ∧ RdR w h t.hops ∧ RdR w p t.pars
theorem RdT.below {w w' : World} {v : Value} {t : Tre} (h : RdT w v t) (hb : Below w.heap.size w w') : RdT w' v t := by
  obtain ⟨d, e, p, rfl, h1, h2, h3⟩ := h
  exact ⟨d, e, p, rfl, h1.below hb, h2.below hb, h3.below hb⟩
theorem RdI.form {w : World} {v : Value} {l : List Int} (h : RdI w v l) : ∃ ad cap, v = .slice ad l.length cap := by obtain ⟨ad, cap, rfl, _⟩ := h; exact ⟨ad, cap, rfl⟩
theorem RdR.form {w : World} {v : Value} {l : List (List Int)} (h : RdR w v l) : ∃ ad cap, v = .slice ad l.length cap := by obtain ⟨ad, cap, rfl, _⟩ := h; exact ⟨ad, cap, rfl⟩
theorem rsame_0 (a b : Tre) (v u : Value) (w : World) (hv : RdT w v a) (hu : RdT w u b)  (h0 : ¬ a.root = b.root) : Calls Try.prog 14 #[v, u] w fun e w' => e = .returned (.bool false) ∧ Below w.heap.size w w' := by
  obtain ⟨d, h, p, rfl, v1, v2, v3⟩ := hv
  obtain ⟨d', h', p', rfl, u1, u2, u3⟩ := hu
  obtain ⟨x1, q1, rfl⟩ := v1.form
  obtain ⟨x2, q2, rfl⟩ := v2.form
  obtain ⟨x3, q3, rfl⟩ := v3.form
  obtain ⟨y1, r1, rfl⟩ := u1.form
  obtain ⟨y2, r2, rfl⟩ := u2.form
  obtain ⟨y3, r3, rfl⟩ := u3.form
  have hb0 : (a.root == b.root) = false := by simpa using h0
  generalize a.root = ra at *
  generalize b.root = rb at *
  generalize a.dist.length = n1 at *
  generalize a.hops.length = n2 at *
  generalize a.pars.length = n3 at *
  generalize b.dist.length = n1' at *
  generalize b.hops.length = n2' at *
  generalize b.pars.length = n3' at *
  clear v1 v2 v3 u1 u2 u3 h0
  go_enter Try.func14, Try.ntmps14
  go_upto_region 1 with (fail)
  have o1 := heap_up (o := .cells #[.int .i64 rb, .slice y1 n1' r1, .slice y2 n2' r2, .slice y3 n3' r3] 28) (heap_new1 w (.cells #[.int .i64 ra, .slice x1 n1 q1, .slice x2 n2 q2, .slice x3 n3 q3] 28) (b := w.heap.size) rfl)
  have o2 := heap_new1 (w.alloc (.cells #[.int .i64 ra, .slice x1 n1 q1, .slice x2 n2 q2, .slice x3 n3 q3] 28)) (.cells #[.int .i64 rb, .slice y1 n1' r1, .slice y2 n2' r2, .slice y3 n3' r3] 28) (b := w.heap.size + 1) (by simp)
  have HB := Lib.hid (below_then (below_alloc w (.cells #[.int .i64 ra, .slice x1 n1 q1, .slice x2 n2 q2, .slice x3 n3 q3] 28)) (below_alloc _ (.cells #[.int .i64 rb, .slice y1 n1' r1, .slice y2 n2' r2, .slice y3 n3' r3] 28)))
  go_wp2
  go_ret
  exact ⟨rfl, HB.out⟩
theorem rsame_1 (a b : Tre) (v u : Value) (w : World) (hv : RdT w v a) (hu : RdT w u b) (h0 : a.root = b.root) (h1 : ¬ a.dist = b.dist) : Calls Try.prog 14 #[v, u] w fun e w' => e = .returned (.bool false) ∧ Below w.heap.size w w' := by
  obtain ⟨d, h, p, rfl, v1, v2, v3⟩ := hv
  obtain ⟨d', h', p', rfl, u1, u2, u3⟩ := hu
  have HD : Hid (∀ W, Below w.heap.size w W → Calls Try.prog 18 #[d, d'] W fun e w' => e = .returned (.bool false) ∧ Below W.heap.size W w') := fun W hW => by
    have := same_ints a.dist b.dist d d' W (v1.below hW) (u1.below hW)
    rwa [decide_eq_false h1] at this
  obtain ⟨x1, q1, rfl⟩ := v1.form
  obtain ⟨x2, q2, rfl⟩ := v2.form
  obtain ⟨x3, q3, rfl⟩ := v3.form
  obtain ⟨y1, r1, rfl⟩ := u1.form
  obtain ⟨y2, r2, rfl⟩ := u2.form
  obtain ⟨y3, r3, rfl⟩ := u3.form
  have hb0 : (a.root == b.root) = true := by simpa using h0
  generalize a.root = ra at *
  generalize b.root = rb at *
  generalize a.dist.length = n1 at *
  generalize a.hops.length = n2 at *
  generalize a.pars.length = n3 at *
  generalize b.dist.length = n1' at *
  generalize b.hops.length = n2' at *
  generalize b.pars.length = n3' at *
  clear v1 v2 v3 u1 u2 u3 h0 h1
  go_enter Try.func14, Try.ntmps14
  go_upto_region 1 with (fail)
  have o1 := heap_up (o := .cells #[.int .i64 rb, .slice y1 n1' r1, .slice y2 n2' r2, .slice y3 n3' r3] 28) (heap_new1 w (.cells #[.int .i64 ra, .slice x1 n1 q1, .slice x2 n2 q2, .slice x3 n3 q3] 28) (b := w.heap.size) rfl)
  have o2 := heap_new1 (w.alloc (.cells #[.int .i64 ra, .slice x1 n1 q1, .slice x2 n2 q2, .slice x3 n3 q3] 28)) (.cells #[.int .i64 rb, .slice y1 n1' r1, .slice y2 n2' r2, .slice y3 n3' r3] 28) (b := w.heap.size + 1) (by simp)
  have HB := Lib.hid (below_then (below_alloc w (.cells #[.int .i64 ra, .slice x1 n1 q1, .slice x2 n2 q2, .slice x3 n3 q3] 28)) (below_alloc _ (.cells #[.int .i64 rb, .slice y1 n1' r1, .slice y2 n2' r2, .slice y3 n3' r3] 28)))
  go_wp2_with fail
  go_at_call 18
  refine (HD.out _ HB.out).mono ?_
  rintro e w1 ⟨rfl, hb⟩
  replace o1 := (hb.block _ (lt_block o1)).trans o1
  replace o2 := (hb.block _ (lt_block o2)).trans o2
  have A2 : w1.cell? ⟨w.heap.size, 2, none⟩ = some (.slice x2 n2 q2) := cell_of o1 rfl
  have A3 : w1.cell? ⟨w.heap.size, 3, none⟩ = some (.slice x3 n3 q3) := cell_of o1 rfl
  have B2 : w1.cell? ⟨w.heap.size + 1, 2, none⟩ = some (.slice y2 n2' r2) := cell_of o2 rfl
  have B3 : w1.cell? ⟨w.heap.size + 1, 3, none⟩ = some (.slice y3 n3' r3) := cell_of o2 rfl
  have HB := Lib.hid (below_then HB.out hb)
  clear hb
  go_wp2
  go_ret
  exact ⟨rfl, HB.out⟩
theorem rsame_2 (a b : Tre) (v u : Value) (w : World) (hv : RdT w v a) (hu : RdT w u b) (h0 : a.root = b.root) (h1 : a.dist = b.dist) (h2 : ¬ a.hops = b.hops) : Calls Try.prog 14 #[v, u] w fun e w' => e = .returned (.bool false) ∧ Below w.heap.size w w' := by
  obtain ⟨d, h, p, rfl, v1, v2, v3⟩ := hv
  obtain ⟨d', h', p', rfl, u1, u2, u3⟩ := hu
  have HD : Hid (∀ W, Below w.heap.size w W → Calls Try.prog 18 #[d, d'] W fun e w' => e = .returned (.bool true) ∧ Below W.heap.size W w') := fun W hW => by
    have := same_ints a.dist b.dist d d' W (v1.below hW) (u1.below hW)
    rwa [decide_eq_true h1] at this
  have HH : Hid (∀ W, Below w.heap.size w W → Calls Try.prog 23 #[h, h'] W fun e w' => e = .returned (.bool false) ∧ Below W.heap.size W w') := fun W hW => by
    have := rows_any a.hops b.hops h h' W (v2.below hW) (u2.below hW)
    rwa [decide_eq_false h2] at this
  obtain ⟨x1, q1, rfl⟩ := v1.form
  obtain ⟨x2, q2, rfl⟩ := v2.form
  obtain ⟨x3, q3, rfl⟩ := v3.form
  obtain ⟨y1, r1, rfl⟩ := u1.form
  obtain ⟨y2, r2, rfl⟩ := u2.form
  obtain ⟨y3, r3, rfl⟩ := u3.form
  have hb0 : (a.root == b.root) = true := by simpa using h0
  generalize a.root = ra at *
  generalize b.root = rb at *
  generalize a.dist.length = n1 at *
  generalize a.hops.length = n2 at *
  generalize a.pars.length = n3 at *
  generalize b.dist.length = n1' at *
  generalize b.hops.length = n2' at *
  generalize b.pars.length = n3' at *
  clear v1 v2 v3 u1 u2 u3 h0 h1 h2
  go_enter Try.func14, Try.ntmps14
  go_upto_region 1 with (fail)
  have o1 := heap_up (o := .cells #[.int .i64 rb, .slice y1 n1' r1, .slice y2 n2' r2, .slice y3 n3' r3] 28) (heap_new1 w (.cells #[.int .i64 ra, .slice x1 n1 q1, .slice x2 n2 q2, .slice x3 n3 q3] 28) (b := w.heap.size) rfl)
  have o2 := heap_new1 (w.alloc (.cells #[.int .i64 ra, .slice x1 n1 q1, .slice x2 n2 q2, .slice x3 n3 q3] 28)) (.cells #[.int .i64 rb, .slice y1 n1' r1, .slice y2 n2' r2, .slice y3 n3' r3] 28) (b := w.heap.size + 1) (by simp)
  have HB := Lib.hid (below_then (below_alloc w (.cells #[.int .i64 ra, .slice x1 n1 q1, .slice x2 n2 q2, .slice x3 n3 q3] 28)) (below_alloc _ (.cells #[.int .i64 rb, .slice y1 n1' r1, .slice y2 n2' r2, .slice y3 n3' r3] 28)))
  go_wp2_with fail
  go_at_call 18
  refine (HD.out _ HB.out).mono ?_
  rintro e w1 ⟨rfl, hb⟩
  replace o1 := (hb.block _ (lt_block o1)).trans o1
  replace o2 := (hb.block _ (lt_block o2)).trans o2
  have A2 : w1.cell? ⟨w.heap.size, 2, none⟩ = some (.slice x2 n2 q2) := cell_of o1 rfl
  have A3 : w1.cell? ⟨w.heap.size, 3, none⟩ = some (.slice x3 n3 q3) := cell_of o1 rfl
  have B2 : w1.cell? ⟨w.heap.size + 1, 2, none⟩ = some (.slice y2 n2' r2) := cell_of o2 rfl
  have B3 : w1.cell? ⟨w.heap.size + 1, 3, none⟩ = some (.slice y3 n3' r3) := cell_of o2 rfl
  have HB := Lib.hid (below_then HB.out hb)
  clear hb
  go_wp2_with fail
  go_at_call 23
  refine (HH.out _ HB.out).mono ?_
  rintro e w2 ⟨rfl, hb⟩
  replace o1 := (hb.block _ (lt_block o1)).trans o1
  replace o2 := (hb.block _ (lt_block o2)).trans o2
  have A2 : w2.cell? ⟨w.heap.size, 2, none⟩ = some (.slice x2 n2 q2) := cell_of o1 rfl
  have A3 : w2.cell? ⟨w.heap.size, 3, none⟩ = some (.slice x3 n3 q3) := cell_of o1 rfl
  have B2 : w2.cell? ⟨w.heap.size + 1, 2, none⟩ = some (.slice y2 n2' r2) := cell_of o2 rfl
  have B3 : w2.cell? ⟨w.heap.size + 1, 3, none⟩ = some (.slice y3 n3' r3) := cell_of o2 rfl
  have HB := Lib.hid (below_then HB.out hb)
  clear hb
  go_wp2
  go_ret
  exact ⟨rfl, HB.out⟩
theorem rsame_3 (a b : Tre) (v u : Value) (w : World) (hv : RdT w v a) (hu : RdT w u b) (h0 : a.root = b.root) (h1 : a.dist = b.dist) (h2 : a.hops = b.hops) (h3 : ¬ a.pars = b.pars) : Calls Try.prog 14 #[v, u] w fun e w' => e = .returned (.bool false) ∧ Below w.heap.size w w' := by
  obtain ⟨d, h, p, rfl, v1, v2, v3⟩ := hv
  obtain ⟨d', h', p', rfl, u1, u2, u3⟩ := hu
  have HD : Hid (∀ W, Below w.heap.size w W → Calls Try.prog 18 #[d, d'] W fun e w' => e = .returned (.bool true) ∧ Below W.heap.size W w') := fun W hW => by
    have := same_ints a.dist b.dist d d' W (v1.below hW) (u1.below hW)
    rwa [decide_eq_true h1] at this
  have HH : Hid (∀ W, Below w.heap.size w W → Calls Try.prog 23 #[h, h'] W fun e w' => e = .returned (.bool true) ∧ Below W.heap.size W w') := fun W hW => by
    have := rows_any a.hops b.hops h h' W (v2.below hW) (u2.below hW)
    rwa [decide_eq_true h2] at this
  have HP : Hid (∀ W, Below w.heap.size w W → Calls Try.prog 23 #[p, p'] W fun e w' => e = .returned (.bool false) ∧ Below W.heap.size W w') := fun W hW => by
    have := rows_any a.pars b.pars p p' W (v3.below hW) (u3.below hW)
    rwa [decide_eq_false h3] at this
  obtain ⟨x1, q1, rfl⟩ := v1.form
  obtain ⟨x2, q2, rfl⟩ := v2.form
  obtain ⟨x3, q3, rfl⟩ := v3.form
  obtain ⟨y1, r1, rfl⟩ := u1.form
  obtain ⟨y2, r2, rfl⟩ := u2.form
  obtain ⟨y3, r3, rfl⟩ := u3.form
  have hb0 : (a.root == b.root) = true := by simpa using h0
  generalize a.root = ra at *
  generalize b.root = rb at *
  generalize a.dist.length = n1 at *
  generalize a.hops.length = n2 at *
  generalize a.pars.length = n3 at *
  generalize b.dist.length = n1' at *
  generalize b.hops.length = n2' at *
  generalize b.pars.length = n3' at *
  clear v1 v2 v3 u1 u2 u3 h0 h1 h2 h3
  go_enter Try.func14, Try.ntmps14
  go_upto_region 1 with (fail)
  have o1 := heap_up (o := .cells #[.int .i64 rb, .slice y1 n1' r1, .slice y2 n2' r2, .slice y3 n3' r3] 28) (heap_new1 w (.cells #[.int .i64 ra, .slice x1 n1 q1, .slice x2 n2 q2, .slice x3 n3 q3] 28) (b := w.heap.size) rfl)
  have o2 := heap_new1 (w.alloc (.cells #[.int .i64 ra, .slice x1 n1 q1, .slice x2 n2 q2, .slice x3 n3 q3] 28)) (.cells #[.int .i64 rb, .slice y1 n1' r1, .slice y2 n2' r2, .slice y3 n3' r3] 28) (b := w.heap.size + 1) (by simp)
  have HB := Lib.hid (below_then (below_alloc w (.cells #[.int .i64 ra, .slice x1 n1 q1, .slice x2 n2 q2, .slice x3 n3 q3] 28)) (below_alloc _ (.cells #[.int .i64 rb, .slice y1 n1' r1, .slice y2 n2' r2, .slice y3 n3' r3] 28)))
  go_wp2_with fail
  go_at_call 18
  refine (HD.out _ HB.out).mono ?_
  rintro e w1 ⟨rfl, hb⟩
  replace o1 := (hb.block _ (lt_block o1)).trans o1
  replace o2 := (hb.block _ (lt_block o2)).trans o2
  have A2 : w1.cell? ⟨w.heap.size, 2, none⟩ = some (.slice x2 n2 q2) := cell_of o1 rfl
  have A3 : w1.cell? ⟨w.heap.size, 3, none⟩ = some (.slice x3 n3 q3) := cell_of o1 rfl
  have B2 : w1.cell? ⟨w.heap.size + 1, 2, none⟩ = some (.slice y2 n2' r2) := cell_of o2 rfl
  have B3 : w1.cell? ⟨w.heap.size + 1, 3, none⟩ = some (.slice y3 n3' r3) := cell_of o2 rfl
  have HB := Lib.hid (below_then HB.out hb)
  clear hb
  go_wp2_with fail
  go_at_call 23
  refine (HH.out _ HB.out).mono ?_
  rintro e w2 ⟨rfl, hb⟩
  replace o1 := (hb.block _ (lt_block o1)).trans o1
  replace o2 := (hb.block _ (lt_block o2)).trans o2
  have A2 : w2.cell? ⟨w.heap.size, 2, none⟩ = some (.slice x2 n2 q2) := cell_of o1 rfl
  have A3 : w2.cell? ⟨w.heap.size, 3, none⟩ = some (.slice x3 n3 q3) := cell_of o1 rfl
  have B2 : w2.cell? ⟨w.heap.size + 1, 2, none⟩ = some (.slice y2 n2' r2) := cell_of o2 rfl
  have B3 : w2.cell? ⟨w.heap.size + 1, 3, none⟩ = some (.slice y3 n3' r3) := cell_of o2 rfl
  have HB := Lib.hid (below_then HB.out hb)
  clear hb
  go_wp2_with fail
  go_at_call 23
  refine (HP.out _ HB.out).mono ?_
  rintro e w3 ⟨rfl, hb⟩
  replace o1 := (hb.block _ (lt_block o1)).trans o1
  replace o2 := (hb.block _ (lt_block o2)).trans o2
  have A2 : w3.cell? ⟨w.heap.size, 2, none⟩ = some (.slice x2 n2 q2) := cell_of o1 rfl
  have A3 : w3.cell? ⟨w.heap.size, 3, none⟩ = some (.slice x3 n3 q3) := cell_of o1 rfl
  have B2 : w3.cell? ⟨w.heap.size + 1, 2, none⟩ = some (.slice y2 n2' r2) := cell_of o2 rfl
  have B3 : w3.cell? ⟨w.heap.size + 1, 3, none⟩ = some (.slice y3 n3' r3) := cell_of o2 rfl
  have HB := Lib.hid (below_then HB.out hb)
  clear hb
  go_wp2
  go_ret
  exact ⟨rfl, HB.out⟩
theorem rsame_4 (a b : Tre) (v u : Value) (w : World) (hv : RdT w v a) (hu : RdT w u b) (h0 : a.root = b.root) (h1 : a.dist = b.dist) (h2 : a.hops = b.hops) (h3 : a.pars = b.pars) : Calls Try.prog 14 #[v, u] w fun e w' => e = .returned (.bool true) ∧ Below w.heap.size w w' := by
  obtain ⟨d, h, p, rfl, v1, v2, v3⟩ := hv
  obtain ⟨d', h', p', rfl, u1, u2, u3⟩ := hu
  have HD : Hid (∀ W, Below w.heap.size w W → Calls Try.prog 18 #[d, d'] W fun e w' => e = .returned (.bool true) ∧ Below W.heap.size W w') := fun W hW => by
    have := same_ints a.dist b.dist d d' W (v1.below hW) (u1.below hW)
    rwa [decide_eq_true h1] at this
  have HH : Hid (∀ W, Below w.heap.size w W → Calls Try.prog 23 #[h, h'] W fun e w' => e = .returned (.bool true) ∧ Below W.heap.size W w') := fun W hW => by
    have := rows_any a.hops b.hops h h' W (v2.below hW) (u2.below hW)
    rwa [decide_eq_true h2] at this
  have HP : Hid (∀ W, Below w.heap.size w W → Calls Try.prog 23 #[p, p'] W fun e w' => e = .returned (.bool true) ∧ Below W.heap.size W w') := fun W hW => by
    have := rows_any a.pars b.pars p p' W (v3.below hW) (u3.below hW)
    rwa [decide_eq_true h3] at this
  obtain ⟨x1, q1, rfl⟩ := v1.form
  obtain ⟨x2, q2, rfl⟩ := v2.form
  obtain ⟨x3, q3, rfl⟩ := v3.form
  obtain ⟨y1, r1, rfl⟩ := u1.form
  obtain ⟨y2, r2, rfl⟩ := u2.form
  obtain ⟨y3, r3, rfl⟩ := u3.form
  have hb0 : (a.root == b.root) = true := by simpa using h0
  generalize a.root = ra at *
  generalize b.root = rb at *
  generalize a.dist.length = n1 at *
  generalize a.hops.length = n2 at *
  generalize a.pars.length = n3 at *
  generalize b.dist.length = n1' at *
  generalize b.hops.length = n2' at *
  generalize b.pars.length = n3' at *
  clear v1 v2 v3 u1 u2 u3 h0 h1 h2 h3
  go_enter Try.func14, Try.ntmps14
  go_upto_region 1 with (fail)
  have o1 := heap_up (o := .cells #[.int .i64 rb, .slice y1 n1' r1, .slice y2 n2' r2, .slice y3 n3' r3] 28) (heap_new1 w (.cells #[.int .i64 ra, .slice x1 n1 q1, .slice x2 n2 q2, .slice x3 n3 q3] 28) (b := w.heap.size) rfl)
  have o2 := heap_new1 (w.alloc (.cells #[.int .i64 ra, .slice x1 n1 q1, .slice x2 n2 q2, .slice x3 n3 q3] 28)) (.cells #[.int .i64 rb, .slice y1 n1' r1, .slice y2 n2' r2, .slice y3 n3' r3] 28) (b := w.heap.size + 1) (by simp)
  have HB := Lib.hid (below_then (below_alloc w (.cells #[.int .i64 ra, .slice x1 n1 q1, .slice x2 n2 q2, .slice x3 n3 q3] 28)) (below_alloc _ (.cells #[.int .i64 rb, .slice y1 n1' r1, .slice y2 n2' r2, .slice y3 n3' r3] 28)))
  go_wp2_with fail
  go_at_call 18
  refine (HD.out _ HB.out).mono ?_
  rintro e w1 ⟨rfl, hb⟩
  replace o1 := (hb.block _ (lt_block o1)).trans o1
  replace o2 := (hb.block _ (lt_block o2)).trans o2
  have A2 : w1.cell? ⟨w.heap.size, 2, none⟩ = some (.slice x2 n2 q2) := cell_of o1 rfl
  have A3 : w1.cell? ⟨w.heap.size, 3, none⟩ = some (.slice x3 n3 q3) := cell_of o1 rfl
  have B2 : w1.cell? ⟨w.heap.size + 1, 2, none⟩ = some (.slice y2 n2' r2) := cell_of o2 rfl
  have B3 : w1.cell? ⟨w.heap.size + 1, 3, none⟩ = some (.slice y3 n3' r3) := cell_of o2 rfl
  have HB := Lib.hid (below_then HB.out hb)
  clear hb
  go_wp2_with fail
  go_at_call 23
  refine (HH.out _ HB.out).mono ?_
  rintro e w2 ⟨rfl, hb⟩
  replace o1 := (hb.block _ (lt_block o1)).trans o1
  replace o2 := (hb.block _ (lt_block o2)).trans o2
  have A2 : w2.cell? ⟨w.heap.size, 2, none⟩ = some (.slice x2 n2 q2) := cell_of o1 rfl
  have A3 : w2.cell? ⟨w.heap.size, 3, none⟩ = some (.slice x3 n3 q3) := cell_of o1 rfl
  have B2 : w2.cell? ⟨w.heap.size + 1, 2, none⟩ = some (.slice y2 n2' r2) := cell_of o2 rfl
  have B3 : w2.cell? ⟨w.heap.size + 1, 3, none⟩ = some (.slice y3 n3' r3) := cell_of o2 rfl
  have HB := Lib.hid (below_then HB.out hb)
  clear hb
  go_wp2_with fail
  go_at_call 23
  refine (HP.out _ HB.out).mono ?_
  rintro e w3 ⟨rfl, hb⟩
  replace o1 := (hb.block _ (lt_block o1)).trans o1
  replace o2 := (hb.block _ (lt_block o2)).trans o2
  have A2 : w3.cell? ⟨w.heap.size, 2, none⟩ = some (.slice x2 n2 q2) := cell_of o1 rfl
  have A3 : w3.cell? ⟨w.heap.size, 3, none⟩ = some (.slice x3 n3 q3) := cell_of o1 rfl
  have B2 : w3.cell? ⟨w.heap.size + 1, 2, none⟩ = some (.slice y2 n2' r2) := cell_of o2 rfl
  have B3 : w3.cell? ⟨w.heap.size + 1, 3, none⟩ = some (.slice y3 n3' r3) := cell_of o2 rfl
  have HB := Lib.hid (below_then HB.out hb)
  clear hb
  go_wp2
  go_ret
  exact ⟨rfl, HB.out⟩
theorem rsame_any (a b : Tre) (v u : Value) (w : World) (hv : RdT w v a) (hu : RdT w u b) : Calls Try.prog 14 #[v, u] w fun e w' => e = .returned (.bool (decide (a = b))) ∧ Below w.heap.size w w' := by
  have key : ∀ x : Bool, (x = true ↔ (a.root = b.root ∧ a.dist = b.dist ∧ a.hops = b.hops ∧ a.pars = b.pars)) → decide (a = b) = x := fun x hx => by
    rw [Bool.eq_iff_iff, hx, decide_eq_true_eq]
    constructor
    · rintro rfl; exact ⟨rfl, rfl, rfl, rfl⟩
    · obtain ⟨a1, a2, a3, a4⟩ := a
      obtain ⟨b1, b2, b3, b4⟩ := b
      rintro ⟨e1, e2, e3, e4⟩
      dsimp only at e1 e2 e3 e4
      subst e1 e2 e3 e4; rfl
  by_cases h0 : a.root = b.root
  · by_cases h1 : a.dist = b.dist
    · by_cases h2 : a.hops = b.hops
      · by_cases h3 : a.pars = b.pars
        · rw [key true (by simp [h0, h1, h2, h3])]; exact rsame_4 a b v u w hv hu h0 h1 h2 h3
        · rw [key false (by simp [h3])]; exact rsame_3 a b v u w hv hu h0 h1 h2 h3
      · rw [key false (by simp [h2])]; exact rsame_2 a b v u w hv hu h0 h1 h2
    · rw [key false (by simp [h1])]; exact rsame_1 a b v u w hv hu h0 h1
  · rw [key false (by simp [h0])]; exact rsame_0 a b v u w hv hu h0
theorem csame_0 (a b : Tre) (v u : Value) (w : World) (hv : RdT w v a) (hu : RdT w u b)  (h0 : ¬ a.root = b.root) : Calls Try.prog 24 #[v, u] w fun e w' => e = .returned (.bool false) ∧ Below w.heap.size w w' := by
  obtain ⟨d, h, p, rfl, v1, v2, v3⟩ := hv
  obtain ⟨d', h', p', rfl, u1, u2, u3⟩ := hu
  obtain ⟨x1, q1, rfl⟩ := v1.form
  obtain ⟨x2, q2, rfl⟩ := v2.form
  obtain ⟨x3, q3, rfl⟩ := v3.form
  obtain ⟨y1, r1, rfl⟩ := u1.form
  obtain ⟨y2, r2, rfl⟩ := u2.form
  obtain ⟨y3, r3, rfl⟩ := u3.form
  have hb0 : (a.root == b.root) = false := by simpa using h0
  generalize a.root = ra at *
  generalize b.root = rb at *
  generalize a.dist.length = n1 at *
  generalize a.hops.length = n2 at *
  generalize a.pars.length = n3 at *
  generalize b.dist.length = n1' at *
  generalize b.hops.length = n2' at *
  generalize b.pars.length = n3' at *
  clear v1 v2 v3 u1 u2 u3 h0
  go_enter Try.func24, Try.ntmps24
  go_upto_region 1 with (fail)
  have o1 := heap_up (o := .cells #[.int .i64 rb, .slice y1 n1' r1, .slice y2 n2' r2, .slice y3 n3' r3] 28) (heap_new1 w (.cells #[.int .i64 ra, .slice x1 n1 q1, .slice x2 n2 q2, .slice x3 n3 q3] 28) (b := w.heap.size) rfl)
  have o2 := heap_new1 (w.alloc (.cells #[.int .i64 ra, .slice x1 n1 q1, .slice x2 n2 q2, .slice x3 n3 q3] 28)) (.cells #[.int .i64 rb, .slice y1 n1' r1, .slice y2 n2' r2, .slice y3 n3' r3] 28) (b := w.heap.size + 1) (by simp)
  have HB := Lib.hid (below_then (below_alloc w (.cells #[.int .i64 ra, .slice x1 n1 q1, .slice x2 n2 q2, .slice x3 n3 q3] 28)) (below_alloc _ (.cells #[.int .i64 rb, .slice y1 n1' r1, .slice y2 n2' r2, .slice y3 n3' r3] 28)))
  go_wp2
  go_ret
  exact ⟨rfl, HB.out⟩
theorem csame_1 (a b : Tre) (v u : Value) (w : World) (hv : RdT w v a) (hu : RdT w u b) (h0 : a.root = b.root) (h1 : ¬ a.dist = b.dist) : Calls Try.prog 24 #[v, u] w fun e w' => e = .returned (.bool false) ∧ Below w.heap.size w w' := by
  obtain ⟨d, h, p, rfl, v1, v2, v3⟩ := hv
  obtain ⟨d', h', p', rfl, u1, u2, u3⟩ := hu
  have HD : Hid (∀ W, Below w.heap.size w W → Calls Try.prog 38 #[d, d'] W fun e w' => e = .returned (.bool false) ∧ Below W.heap.size W w') := fun W hW => by
    have := equal_ints a.dist b.dist d d' W (v1.below hW) (u1.below hW)
    rwa [decide_eq_false h1] at this
  obtain ⟨x1, q1, rfl⟩ := v1.form
  obtain ⟨x2, q2, rfl⟩ := v2.form
  obtain ⟨x3, q3, rfl⟩ := v3.form
  obtain ⟨y1, r1, rfl⟩ := u1.form
  obtain ⟨y2, r2, rfl⟩ := u2.form
  obtain ⟨y3, r3, rfl⟩ := u3.form
  have hb0 : (a.root == b.root) = true := by simpa using h0
  generalize a.root = ra at *
  generalize b.root = rb at *
  generalize a.dist.length = n1 at *
  generalize a.hops.length = n2 at *
  generalize a.pars.length = n3 at *
  generalize b.dist.length = n1' at *
  generalize b.hops.length = n2' at *
  generalize b.pars.length = n3' at *
  clear v1 v2 v3 u1 u2 u3 h0 h1
  go_enter Try.func24, Try.ntmps24
  go_upto_region 1 with (fail)
  have o1 := heap_up (o := .cells #[.int .i64 rb, .slice y1 n1' r1, .slice y2 n2' r2, .slice y3 n3' r3] 28) (heap_new1 w (.cells #[.int .i64 ra, .slice x1 n1 q1, .slice x2 n2 q2, .slice x3 n3 q3] 28) (b := w.heap.size) rfl)
  have o2 := heap_new1 (w.alloc (.cells #[.int .i64 ra, .slice x1 n1 q1, .slice x2 n2 q2, .slice x3 n3 q3] 28)) (.cells #[.int .i64 rb, .slice y1 n1' r1, .slice y2 n2' r2, .slice y3 n3' r3] 28) (b := w.heap.size + 1) (by simp)
  have HB := Lib.hid (below_then (below_alloc w (.cells #[.int .i64 ra, .slice x1 n1 q1, .slice x2 n2 q2, .slice x3 n3 q3] 28)) (below_alloc _ (.cells #[.int .i64 rb, .slice y1 n1' r1, .slice y2 n2' r2, .slice y3 n3' r3] 28)))
  go_wp2_with fail
  go_at_call 38
  refine (HD.out _ HB.out).mono ?_
  rintro e w1 ⟨rfl, hb⟩
  replace o1 := (hb.block _ (lt_block o1)).trans o1
  replace o2 := (hb.block _ (lt_block o2)).trans o2
  have A2 : w1.cell? ⟨w.heap.size, 2, none⟩ = some (.slice x2 n2 q2) := cell_of o1 rfl
  have A3 : w1.cell? ⟨w.heap.size, 3, none⟩ = some (.slice x3 n3 q3) := cell_of o1 rfl
  have B2 : w1.cell? ⟨w.heap.size + 1, 2, none⟩ = some (.slice y2 n2' r2) := cell_of o2 rfl
  have B3 : w1.cell? ⟨w.heap.size + 1, 3, none⟩ = some (.slice y3 n3' r3) := cell_of o2 rfl
  have HB := Lib.hid (below_then HB.out hb)
  clear hb
  go_wp2
  go_ret
  exact ⟨rfl, HB.out⟩
theorem csame_2 (a b : Tre) (v u : Value) (w : World) (hv : RdT w v a) (hu : RdT w u b) (h0 : a.root = b.root) (h1 : a.dist = b.dist) (h2 : ¬ a.hops = b.hops) : Calls Try.prog 24 #[v, u] w fun e w' => e = .returned (.bool false) ∧ Below w.heap.size w w' := by
  obtain ⟨d, h, p, rfl, v1, v2, v3⟩ := hv
  obtain ⟨d', h', p', rfl, u1, u2, u3⟩ := hu
  have HD : Hid (∀ W, Below w.heap.size w W → Calls Try.prog 38 #[d, d'] W fun e w' => e = .returned (.bool true) ∧ Below W.heap.size W w') := fun W hW => by
    have := equal_ints a.dist b.dist d d' W (v1.below hW) (u1.below hW)
    rwa [decide_eq_true h1] at this
  have HH : Hid (∀ W, Below w.heap.size w W → Calls Try.prog 39 #[h, h', .func (.func 38) #[] #[]] W fun e w' => e = .returned (.bool false) ∧ Below W.heap.size W w') := fun W hW => by
    have := eqf_any a.hops b.hops h h' W (v2.below hW) (u2.below hW)
    rwa [decide_eq_false h2] at this
  obtain ⟨x1, q1, rfl⟩ := v1.form
  obtain ⟨x2, q2, rfl⟩ := v2.form
  obtain ⟨x3, q3, rfl⟩ := v3.form
  obtain ⟨y1, r1, rfl⟩ := u1.form
  obtain ⟨y2, r2, rfl⟩ := u2.form
  obtain ⟨y3, r3, rfl⟩ := u3.form
  have hb0 : (a.root == b.root) = true := by simpa using h0
  generalize a.root = ra at *
  generalize b.root = rb at *
  generalize a.dist.length = n1 at *
  generalize a.hops.length = n2 at *
  generalize a.pars.length = n3 at *
  generalize b.dist.length = n1' at *
  generalize b.hops.length = n2' at *
  generalize b.pars.length = n3' at *
  clear v1 v2 v3 u1 u2 u3 h0 h1 h2
  go_enter Try.func24, Try.ntmps24
  go_upto_region 1 with (fail)
  have o1 := heap_up (o := .cells #[.int .i64 rb, .slice y1 n1' r1, .slice y2 n2' r2, .slice y3 n3' r3] 28) (heap_new1 w (.cells #[.int .i64 ra, .slice x1 n1 q1, .slice x2 n2 q2, .slice x3 n3 q3] 28) (b := w.heap.size) rfl)
  have o2 := heap_new1 (w.alloc (.cells #[.int .i64 ra, .slice x1 n1 q1, .slice x2 n2 q2, .slice x3 n3 q3] 28)) (.cells #[.int .i64 rb, .slice y1 n1' r1, .slice y2 n2' r2, .slice y3 n3' r3] 28) (b := w.heap.size + 1) (by simp)
  have HB := Lib.hid (below_then (below_alloc w (.cells #[.int .i64 ra, .slice x1 n1 q1, .slice x2 n2 q2, .slice x3 n3 q3] 28)) (below_alloc _ (.cells #[.int .i64 rb, .slice y1 n1' r1, .slice y2 n2' r2, .slice y3 n3' r3] 28)))
  go_wp2_with fail
  go_at_call 38
  refine (HD.out _ HB.out).mono ?_
  rintro e w1 ⟨rfl, hb⟩
  replace o1 := (hb.block _ (lt_block o1)).trans o1
  replace o2 := (hb.block _ (lt_block o2)).trans o2
  have A2 : w1.cell? ⟨w.heap.size, 2, none⟩ = some (.slice x2 n2 q2) := cell_of o1 rfl
  have A3 : w1.cell? ⟨w.heap.size, 3, none⟩ = some (.slice x3 n3 q3) := cell_of o1 rfl
  have B2 : w1.cell? ⟨w.heap.size + 1, 2, none⟩ = some (.slice y2 n2' r2) := cell_of o2 rfl
  have B3 : w1.cell? ⟨w.heap.size + 1, 3, none⟩ = some (.slice y3 n3' r3) := cell_of o2 rfl
  have HB := Lib.hid (below_then HB.out hb)
  clear hb
  go_wp2_with fail
  go_at_call 39
  refine (HH.out _ HB.out).mono ?_
  rintro e w2 ⟨rfl, hb⟩
  replace o1 := (hb.block _ (lt_block o1)).trans o1
  replace o2 := (hb.block _ (lt_block o2)).trans o2
  have A2 : w2.cell? ⟨w.heap.size, 2, none⟩ = some (.slice x2 n2 q2) := cell_of o1 rfl
  have A3 : w2.cell? ⟨w.heap.size, 3, none⟩ = some (.slice x3 n3 q3) := cell_of o1 rfl
  have B2 : w2.cell? ⟨w.heap.size + 1, 2, none⟩ = some (.slice y2 n2' r2) := cell_of o2 rfl
  have B3 : w2.cell? ⟨w.heap.size + 1, 3, none⟩ = some (.slice y3 n3' r3) := cell_of o2 rfl
  have HB := Lib.hid (below_then HB.out hb)
  clear hb
  go_wp2
  go_ret
  exact ⟨rfl, HB.out⟩
theorem csame_3 (a b : Tre) (v u : Value) (w : World) (hv : RdT w v a) (hu : RdT w u b) (h0 : a.root = b.root) (h1 : a.dist = b.dist) (h2 : a.hops = b.hops) (h3 : ¬ a.pars = b.pars) : Calls Try.prog 24 #[v, u] w fun e w' => e = .returned (.bool false) ∧ Below w.heap.size w w' := by
  obtain ⟨d, h, p, rfl, v1, v2, v3⟩ := hv
  obtain ⟨d', h', p', rfl, u1, u2, u3⟩ := hu
  have HD : Hid (∀ W, Below w.heap.size w W → Calls Try.prog 38 #[d, d'] W fun e w' => e = .returned (.bool true) ∧ Below W.heap.size W w') := fun W hW => by
    have := equal_ints a.dist b.dist d d' W (v1.below hW) (u1.below hW)
    rwa [decide_eq_true h1] at this
  have HH : Hid (∀ W, Below w.heap.size w W → Calls Try.prog 39 #[h, h', .func (.func 38) #[] #[]] W fun e w' => e = .returned (.bool true) ∧ Below W.heap.size W w') := fun W hW => by
    have := eqf_any a.hops b.hops h h' W (v2.below hW) (u2.below hW)
    rwa [decide_eq_true h2] at this
  have HP : Hid (∀ W, Below w.heap.size w W → Calls Try.prog 39 #[p, p', .func (.func 38) #[] #[]] W fun e w' => e = .returned (.bool false) ∧ Below W.heap.size W w') := fun W hW => by
    have := eqf_any a.pars b.pars p p' W (v3.below hW) (u3.below hW)
    rwa [decide_eq_false h3] at this
  obtain ⟨x1, q1, rfl⟩ := v1.form
  obtain ⟨x2, q2, rfl⟩ := v2.form
  obtain ⟨x3, q3, rfl⟩ := v3.form
  obtain ⟨y1, r1, rfl⟩ := u1.form
  obtain ⟨y2, r2, rfl⟩ := u2.form
  obtain ⟨y3, r3, rfl⟩ := u3.form
  have hb0 : (a.root == b.root) = true := by simpa using h0
  generalize a.root = ra at *
  generalize b.root = rb at *
  generalize a.dist.length = n1 at *
  generalize a.hops.length = n2 at *
  generalize a.pars.length = n3 at *
  generalize b.dist.length = n1' at *
  generalize b.hops.length = n2' at *
  generalize b.pars.length = n3' at *
  clear v1 v2 v3 u1 u2 u3 h0 h1 h2 h3
  go_enter Try.func24, Try.ntmps24
  go_upto_region 1 with (fail)
  have o1 := heap_up (o := .cells #[.int .i64 rb, .slice y1 n1' r1, .slice y2 n2' r2, .slice y3 n3' r3] 28) (heap_new1 w (.cells #[.int .i64 ra, .slice x1 n1 q1, .slice x2 n2 q2, .slice x3 n3 q3] 28) (b := w.heap.size) rfl)
  have o2 := heap_new1 (w.alloc (.cells #[.int .i64 ra, .slice x1 n1 q1, .slice x2 n2 q2, .slice x3 n3 q3] 28)) (.cells #[.int .i64 rb, .slice y1 n1' r1, .slice y2 n2' r2, .slice y3 n3' r3] 28) (b := w.heap.size + 1) (by simp)
  have HB := Lib.hid (below_then (below_alloc w (.cells #[.int .i64 ra, .slice x1 n1 q1, .slice x2 n2 q2, .slice x3 n3 q3] 28)) (below_alloc _ (.cells #[.int .i64 rb, .slice y1 n1' r1, .slice y2 n2' r2, .slice y3 n3' r3] 28)))
  go_wp2_with fail
  go_at_call 38
  refine (HD.out _ HB.out).mono ?_
  rintro e w1 ⟨rfl, hb⟩
  replace o1 := (hb.block _ (lt_block o1)).trans o1
  replace o2 := (hb.block _ (lt_block o2)).trans o2
  have A2 : w1.cell? ⟨w.heap.size, 2, none⟩ = some (.slice x2 n2 q2) := cell_of o1 rfl
  have A3 : w1.cell? ⟨w.heap.size, 3, none⟩ = some (.slice x3 n3 q3) := cell_of o1 rfl
  have B2 : w1.cell? ⟨w.heap.size + 1, 2, none⟩ = some (.slice y2 n2' r2) := cell_of o2 rfl
  have B3 : w1.cell? ⟨w.heap.size + 1, 3, none⟩ = some (.slice y3 n3' r3) := cell_of o2 rfl
  have HB := Lib.hid (below_then HB.out hb)
  clear hb
  go_wp2_with fail
  go_at_call 39
  refine (HH.out _ HB.out).mono ?_
  rintro e w2 ⟨rfl, hb⟩
  replace o1 := (hb.block _ (lt_block o1)).trans o1
  replace o2 := (hb.block _ (lt_block o2)).trans o2
  have A2 : w2.cell? ⟨w.heap.size, 2, none⟩ = some (.slice x2 n2 q2) := cell_of o1 rfl
  have A3 : w2.cell? ⟨w.heap.size, 3, none⟩ = some (.slice x3 n3 q3) := cell_of o1 rfl
  have B2 : w2.cell? ⟨w.heap.size + 1, 2, none⟩ = some (.slice y2 n2' r2) := cell_of o2 rfl
  have B3 : w2.cell? ⟨w.heap.size + 1, 3, none⟩ = some (.slice y3 n3' r3) := cell_of o2 rfl
  have HB := Lib.hid (below_then HB.out hb)
  clear hb
  go_wp2_with fail
  go_at_call 39
  refine (HP.out _ HB.out).mono ?_
  rintro e w3 ⟨rfl, hb⟩
  replace o1 := (hb.block _ (lt_block o1)).trans o1
  replace o2 := (hb.block _ (lt_block o2)).trans o2
  have A2 : w3.cell? ⟨w.heap.size, 2, none⟩ = some (.slice x2 n2 q2) := cell_of o1 rfl
  have A3 : w3.cell? ⟨w.heap.size, 3, none⟩ = some (.slice x3 n3 q3) := cell_of o1 rfl
  have B2 : w3.cell? ⟨w.heap.size + 1, 2, none⟩ = some (.slice y2 n2' r2) := cell_of o2 rfl
  have B3 : w3.cell? ⟨w.heap.size + 1, 3, none⟩ = some (.slice y3 n3' r3) := cell_of o2 rfl
  have HB := Lib.hid (below_then HB.out hb)
  clear hb
  go_wp2
  go_ret
  exact ⟨rfl, HB.out⟩
theorem csame_4 (a b : Tre) (v u : Value) (w : World) (hv : RdT w v a) (hu : RdT w u b) (h0 : a.root = b.root) (h1 : a.dist = b.dist) (h2 : a.hops = b.hops) (h3 : a.pars = b.pars) : Calls Try.prog 24 #[v, u] w fun e w' => e = .returned (.bool true) ∧ Below w.heap.size w w' := by
  obtain ⟨d, h, p, rfl, v1, v2, v3⟩ := hv
  obtain ⟨d', h', p', rfl, u1, u2, u3⟩ := hu
  have HD : Hid (∀ W, Below w.heap.size w W → Calls Try.prog 38 #[d, d'] W fun e w' => e = .returned (.bool true) ∧ Below W.heap.size W w') := fun W hW => by
    have := equal_ints a.dist b.dist d d' W (v1.below hW) (u1.below hW)
    rwa [decide_eq_true h1] at this
  have HH : Hid (∀ W, Below w.heap.size w W → Calls Try.prog 39 #[h, h', .func (.func 38) #[] #[]] W fun e w' => e = .returned (.bool true) ∧ Below W.heap.size W w') := fun W hW => by
    have := eqf_any a.hops b.hops h h' W (v2.below hW) (u2.below hW)
    rwa [decide_eq_true h2] at this
  have HP : Hid (∀ W, Below w.heap.size w W → Calls Try.prog 39 #[p, p', .func (.func 38) #[] #[]] W fun e w' => e = .returned (.bool true) ∧ Below W.heap.size W w') := fun W hW => by
    have := eqf_any a.pars b.pars p p' W (v3.below hW) (u3.below hW)
    rwa [decide_eq_true h3] at this
  obtain ⟨x1, q1, rfl⟩ := v1.form
  obtain ⟨x2, q2, rfl⟩ := v2.form
  obtain ⟨x3, q3, rfl⟩ := v3.form
  obtain ⟨y1, r1, rfl⟩ := u1.form
  obtain ⟨y2, r2, rfl⟩ := u2.form
  obtain ⟨y3, r3, rfl⟩ := u3.form
  have hb0 : (a.root == b.root) = true := by simpa using h0
  generalize a.root = ra at *
  generalize b.root = rb at *
  generalize a.dist.length = n1 at *
  generalize a.hops.length = n2 at *
  generalize a.pars.length = n3 at *
  generalize b.dist.length = n1' at *
  generalize b.hops.length = n2' at *
  generalize b.pars.length = n3' at *
  clear v1 v2 v3 u1 u2 u3 h0 h1 h2 h3
  go_enter Try.func24, Try.ntmps24
  go_upto_region 1 with (fail)
  have o1 := heap_up (o := .cells #[.int .i64 rb, .slice y1 n1' r1, .slice y2 n2' r2, .slice y3 n3' r3] 28) (heap_new1 w (.cells #[.int .i64 ra, .slice x1 n1 q1, .slice x2 n2 q2, .slice x3 n3 q3] 28) (b := w.heap.size) rfl)
  have o2 := heap_new1 (w.alloc (.cells #[.int .i64 ra, .slice x1 n1 q1, .slice x2 n2 q2, .slice x3 n3 q3] 28)) (.cells #[.int .i64 rb, .slice y1 n1' r1, .slice y2 n2' r2, .slice y3 n3' r3] 28) (b := w.heap.size + 1) (by simp)
  have HB := Lib.hid (below_then (below_alloc w (.cells #[.int .i64 ra, .slice x1 n1 q1, .slice x2 n2 q2, .slice x3 n3 q3] 28)) (below_alloc _ (.cells #[.int .i64 rb, .slice y1 n1' r1, .slice y2 n2' r2, .slice y3 n3' r3] 28)))
  go_wp2_with fail
  go_at_call 38
  refine (HD.out _ HB.out).mono ?_
  rintro e w1 ⟨rfl, hb⟩
  replace o1 := (hb.block _ (lt_block o1)).trans o1
  replace o2 := (hb.block _ (lt_block o2)).trans o2
  have A2 : w1.cell? ⟨w.heap.size, 2, none⟩ = some (.slice x2 n2 q2) := cell_of o1 rfl
  have A3 : w1.cell? ⟨w.heap.size, 3, none⟩ = some (.slice x3 n3 q3) := cell_of o1 rfl
  have B2 : w1.cell? ⟨w.heap.size + 1, 2, none⟩ = some (.slice y2 n2' r2) := cell_of o2 rfl
  have B3 : w1.cell? ⟨w.heap.size + 1, 3, none⟩ = some (.slice y3 n3' r3) := cell_of o2 rfl
  have HB := Lib.hid (below_then HB.out hb)
  clear hb
  go_wp2_with fail
  go_at_call 39
  refine (HH.out _ HB.out).mono ?_
  rintro e w2 ⟨rfl, hb⟩
  replace o1 := (hb.block _ (lt_block o1)).trans o1
  replace o2 := (hb.block _ (lt_block o2)).trans o2
  have A2 : w2.cell? ⟨w.heap.size, 2, none⟩ = some (.slice x2 n2 q2) := cell_of o1 rfl
  have A3 : w2.cell? ⟨w.heap.size, 3, none⟩ = some (.slice x3 n3 q3) := cell_of o1 rfl
  have B2 : w2.cell? ⟨w.heap.size + 1, 2, none⟩ = some (.slice y2 n2' r2) := cell_of o2 rfl
  have B3 : w2.cell? ⟨w.heap.size + 1, 3, none⟩ = some (.slice y3 n3' r3) := cell_of o2 rfl
  have HB := Lib.hid (below_then HB.out hb)
  clear hb
  go_wp2_with fail
  go_at_call 39
  refine (HP.out _ HB.out).mono ?_
  rintro e w3 ⟨rfl, hb⟩
  replace o1 := (hb.block _ (lt_block o1)).trans o1
  replace o2 := (hb.block _ (lt_block o2)).trans o2
  have A2 : w3.cell? ⟨w.heap.size, 2, none⟩ = some (.slice x2 n2 q2) := cell_of o1 rfl
  have A3 : w3.cell? ⟨w.heap.size, 3, none⟩ = some (.slice x3 n3 q3) := cell_of o1 rfl
  have B2 : w3.cell? ⟨w.heap.size + 1, 2, none⟩ = some (.slice y2 n2' r2) := cell_of o2 rfl
  have B3 : w3.cell? ⟨w.heap.size + 1, 3, none⟩ = some (.slice y3 n3' r3) := cell_of o2 rfl
  have HB := Lib.hid (below_then HB.out hb)
  clear hb
  go_wp2
  go_ret
  exact ⟨rfl, HB.out⟩
theorem csame_any (a b : Tre) (v u : Value) (w : World) (hv : RdT w v a) (hu : RdT w u b) : Calls Try.prog 24 #[v, u] w fun e w' => e = .returned (.bool (decide (a = b))) ∧ Below w.heap.size w w' := by
  have key : ∀ x : Bool, (x = true ↔ (a.root = b.root ∧ a.dist = b.dist ∧ a.hops = b.hops ∧ a.pars = b.pars)) → decide (a = b) = x := fun x hx => by
    rw [Bool.eq_iff_iff, hx, decide_eq_true_eq]
    constructor
    · rintro rfl; exact ⟨rfl, rfl, rfl, rfl⟩
    · obtain ⟨a1, a2, a3, a4⟩ := a
      obtain ⟨b1, b2, b3, b4⟩ := b
      rintro ⟨e1, e2, e3, e4⟩
      dsimp only at e1 e2 e3 e4
      subst e1 e2 e3 e4; rfl
  by_cases h0 : a.root = b.root
  · by_cases h1 : a.dist = b.dist
    · by_cases h2 : a.hops = b.hops
      · by_cases h3 : a.pars = b.pars
        · rw [key true (by simp [h0, h1, h2, h3])]; exact csame_4 a b v u w hv hu h0 h1 h2 h3
        · rw [key false (by simp [h3])]; exact csame_3 a b v u w hv hu h0 h1 h2 h3
      · rw [key false (by simp [h2])]; exact csame_2 a b v u w hv hu h0 h1 h2
    · rw [key false (by simp [h1])]; exact csame_1 a b v u w hv hu h0 h1
  · rw [key false (by simp [h0])]; exact csame_0 a b v u w hv hu h0
end Go.Proofs.Ytmlpbhankgojpaa
