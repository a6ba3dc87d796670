/-
  A queue beside other blocks; the law on changed keys.
-/
import Derived.Test.YtiodpgannelgpaaHpH
namespace Go.Proofs.Ytiodpgannelgpaa
open Go.RowKit HM
set_option linter.unusedSimpArgs false
set_option linter.unusedVariables false
set_option maxHeartbeats 4000000
set_option maxRecDepth 100000

/-- a queue made since w0, beside the blocks of S -/
def Hz (w0 W : World) (hb n : Nat) (ins : List Bool) (keys : List Int) (S : List Nat) : Prop := ∃ gs, HeapR W hb n ins keys gs ∧ (∀ g ∈ gs, w0.heap.size ≤ g ∧ g ∉ S) ∧ Below w0.heap.size w0 W ∧ ∀ s ∈ S, s < W.heap.size
/-- the blocks of S are as they were -/
def Kq (S : List Nat) (W W' : World) : Prop := W.heap.size ≤ W'.heap.size ∧ ∀ s ∈ S, W'.heap[s]? = W.heap[s]?
theorem Kq.refl (S : List Nat) (W : World) : Kq S W W := ⟨Nat.le_refl _, fun _ _ => rfl⟩
theorem Hz.b {w0 W : World} {hb n : Nat} {ins : List Bool} {keys : List Int} {S : List Nat} (h : Hz w0 W hb n ins keys S) : Below w0.heap.size w0 W := h.elim fun gs h => h.2.2.1
theorem Hz.len {w0 W : World} {hb n : Nat} {ins : List Bool} {keys : List Int} {S : List Nat} (h : Hz w0 W hb n ins keys S) : ins.length = n ∧ keys.length = n ∧ n ≤ 65536 := h.elim fun gs h => h.1.len
theorem Hz.lt {w0 W : World} {hb n : Nat} {ins : List Bool} {keys : List Int} {S : List Nat} (h : Hz w0 W hb n ins keys S) : ∀ s ∈ S, s < W.heap.size := h.elim fun gs h => h.2.2.2
theorem Hz.of {w0 W : World} {hb n : Nat} {ins : List Bool} {keys : List Int} (h : Hw w0 W hb n ins keys) : Hz w0 W hb n ins keys [] := by
  obtain ⟨gs, a, b, c⟩ := h
  exact ⟨gs, a, fun g hg => ⟨b g hg, by simp⟩, c, fun s hs => by cases hs⟩
theorem Hz.below {w0 W W' : World} {hb n : Nat} {ins : List Bool} {keys : List Int} {S : List Nat} (h : Hz w0 W hb n ins keys S) (hb' : Below W.heap.size W W') : Hz w0 W' hb n ins keys S ∧ Kq S W W' := by
  obtain ⟨gs, a, b, c, d⟩ := h
  exact ⟨⟨gs, a.below hb', b, below_then c hb', fun s hs => Nat.lt_of_lt_of_le (d s hs) hb'.size⟩, hb'.size, fun s hs => hb'.block s (d s hs)⟩
/-- a block made now joins S -/
theorem Hz.more {w0 W : World} {hb n : Nat} {ins : List Bool} {keys : List Int} {S : List Nat} (h : Hz w0 W hb n ins keys S) (o : Obj) {b : Nat} (hb' : b = W.heap.size) : Hz w0 (W.alloc o) hb n ins keys (b :: S) := by
  subst hb'
  obtain ⟨gs, a, b, c, d⟩ := h
  refine ⟨gs, a.below (below_alloc _ _), fun g hg => ⟨(b g hg).1, fun hm => ?_⟩, below_then c (below_alloc _ _), fun s hs => ?_⟩
  · rcases List.mem_cons.1 hm with rfl | hm
    · have := a.lt _ hg; omega
    · exact (b g hg).2 hm
  · rcases List.mem_cons.1 hs with rfl | hs
    · simp
    · have := d s hs; simp; omega
/-- a cell of a block of S is written -/
theorem Hz.write {w0 W : World} {hb n : Nat} {ins : List Bool} {keys : List Int} {S : List Nat} (h : Hz w0 W hb n ins keys S) {s o : Nat} {u : Value} (hs : s ∈ S) (hw : w0.heap.size ≤ s) : Hz w0 (W.setCell ⟨s, o, none⟩ u) hb n ins keys S := by
  obtain ⟨gs, a, b, c, d⟩ := h
  exact ⟨gs, a.congr fun g hg => heap_set_ne (by rintro rfl; exact (b g hg).2 hs), b, c.setCell hw _, fun s hs => by simpa using d s hs⟩
theorem Hz.put {w0 W W' : World} {hb n : Nat} {ins' : List Bool} {keys' : List Int} {gs S : List Nat} (hg : ∀ g ∈ gs, w0.heap.size ≤ g ∧ g ∉ S) (hb' : Below w0.heap.size w0 W) (hS : ∀ s ∈ S, s < W.heap.size) (h : Put W hb n ins' keys' gs W') : Hz w0 W' hb n ins' keys' S ∧ Kq S W W' := by
  obtain ⟨gs', a, b, c⟩ := h
  refine ⟨⟨gs', a, fun g hg' => ?_, hb'.trans (c.below hb'.size (fun g hh => (hg g hh).1)), fun s hs => Nat.lt_of_lt_of_le (hS s hs) c.size⟩, c.size, fun s hs => c.block s (hS s hs) (fun hm => (hg s hm).2 hs)⟩
  rcases b g hg' with h1 | h1
  · exact hg g h1
  · exact ⟨by have := hb'.size; omega, fun hm => by have := hS g hm; omega⟩
theorem Hz.set {w0 W : World} {hb n : Nat} {ins : List Bool} {keys : List Int} {S : List Nat} (h : Hz w0 W hb n ins keys S) (x : Nat) (k : Int) (hx : x < n) :
    Calls Try.prog 45 #[.pointer (some ⟨hb, 0, none⟩), .int .i64 (x : Int), .int .i64 k] W fun e w' => e = .returned (.bool true) ∧ Hz w0 w' hb n (ins.set x true) (keys.set x k) S ∧ Kq S W w' := by
  obtain ⟨gs, a, b, c, d⟩ := h
  exact (set_in W hb n ins keys gs a x k hx).mono fun e w' ⟨h1, h2⟩ => ⟨h1, Hz.put b c d h2⟩
theorem Hz.setOut {w0 W : World} {hb n : Nat} {ins : List Bool} {keys : List Int} {S : List Nat} (h : Hz w0 W hb n ins keys S) (i : Int) (k : Int) (hx : ¬ (0 ≤ i ∧ i < n)) :
    Calls Try.prog 45 #[.pointer (some ⟨hb, 0, none⟩), .int .i64 i, .int .i64 k] W fun e w' => e = .returned (.bool false) ∧ W = w' := by
  obtain ⟨gs, a, _⟩ := h
  exact set_out W hb n ins keys gs a i k hx
theorem Hz.drop {w0 W : World} {hb n : Nat} {ins : List Bool} {keys : List Int} {S : List Nat} (h : Hz w0 W hb n ins keys S) (x : Nat) (hx : x < n) (hi : gB ins x = true) :
    Calls Try.prog 47 #[.pointer (some ⟨hb, 0, none⟩), .int .i64 (x : Int)] W fun e w' => e = .returned (.bool true) ∧ Hz w0 w' hb n (ins.set x false) keys S ∧ Kq S W w' := by
  obtain ⟨gs, a, b, c, d⟩ := h
  exact (drop_in W hb n ins keys gs a x hx hi).mono fun e w' ⟨h1, h2⟩ => ⟨h1, Hz.put b c d h2⟩
theorem Hz.dropOut {w0 W : World} {hb n : Nat} {ins : List Bool} {keys : List Int} {S : List Nat} (h : Hz w0 W hb n ins keys S) (i : Int) (hi : ¬ (0 ≤ i ∧ i < n ∧ gB ins i.toNat = true)) :
    Calls Try.prog 47 #[.pointer (some ⟨hb, 0, none⟩), .int .i64 i] W fun e w' => e = .returned (.bool false) ∧ W = w' := by
  obtain ⟨gs, a, _⟩ := h
  exact drop_out W hb n ins keys gs a i hi
theorem Hz.key {w0 W : World} {hb n : Nat} {ins : List Bool} {keys : List Int} {S : List Nat} (h : Hz w0 W hb n ins keys S) (i : Int) :
    Calls Try.prog 48 #[.pointer (some ⟨hb, 0, none⟩), .int .i64 i] W fun e w' => ∃ (k : Int) (b : Bool), e = .returned (.tuple #[.int .i64 k, .bool b]) ∧ KeyQ n ins keys i k b ∧ W = w' := by
  obtain ⟨gs, a, _⟩ := h
  exact key_any W hb n ins keys gs a i
theorem Hz.keyC {w0 W : World} {hb n : Nat} {ins : List Bool} {keys : List Int} {S : List Nat} (h : Hz w0 W hb n ins keys S) (i : Int) {k : Int} {b : Bool} (hq : KeyQ n ins keys i k b) :
    Calls Try.prog 48 #[.pointer (some ⟨hb, 0, none⟩), .int .i64 i] W fun e w' => e = .returned (.tuple #[.int .i64 k, .bool b]) ∧ W = w' := by
  refine (h.key i).mono ?_
  rintro e w' ⟨k', b', rfl, h1, h2⟩
  obtain ⟨rfl, rfl⟩ := keyQ_unique h1 hq
  exact ⟨rfl, h2⟩
theorem Hz.size {w0 W : World} {hb n : Nat} {ins : List Bool} {keys : List Int} {S : List Nat} (h : Hz w0 W hb n ins keys S) : Calls Try.prog 43 #[.pointer (some ⟨hb, 0, none⟩)] W fun e w' => e = .returned (.int .i64 (cntB ins : Int)) ∧ W = w' := by
  obtain ⟨gs, a, _⟩ := h
  exact len_any W hb n ins keys gs a
theorem Hz.popNone {w0 W : World} {hb n : Nat} {ins : List Bool} {keys : List Int} {S : List Nat} (h : Hz w0 W hb n ins keys S) (h0 : cntB ins = 0) :
    Calls Try.prog 46 #[.pointer (some ⟨hb, 0, none⟩)] W fun e w' => e = .returned (.tuple #[.int .i64 0, .int .i64 0, .bool false]) ∧ W = w' := by
  obtain ⟨gs, a, _⟩ := h
  exact pop_none W hb n ins keys gs a h0
theorem Hz.minNone {w0 W : World} {hb n : Nat} {ins : List Bool} {keys : List Int} {S : List Nat} (h : Hz w0 W hb n ins keys S) (h0 : cntB ins = 0) :
    Calls Try.prog 49 #[.pointer (some ⟨hb, 0, none⟩)] W fun e w' => e = .returned (.tuple #[.int .i64 0, .int .i64 0, .bool false]) ∧ W = w' := by
  obtain ⟨gs, a, _⟩ := h
  exact min_none W hb n ins keys gs a h0
theorem Hz.min {w0 W : World} {hb n : Nat} {ins : List Bool} {keys : List Int} {S : List Nat} (h : Hz w0 W hb n ins keys S) {x : Nat} (hm : IsMin n ins keys x) :
    Calls Try.prog 49 #[.pointer (some ⟨hb, 0, none⟩)] W fun e w' => e = .returned (.tuple #[.int .i64 (x : Int), .int .i64 (gI keys x), .bool true]) ∧ Hz w0 w' hb n ins keys S ∧ Kq S W w' := by
  have h' := h
  obtain ⟨gs, a, b, c, d⟩ := h'
  refine (min_some W hb n ins keys gs a (isMin_cnt hm)).mono ?_
  rintro e w' ⟨y, rfl, h1, q, rfl⟩
  obtain rfl := isMin_unique h1 hm
  exact ⟨rfl, h.below (below_drewN (Below.refl _ _) q)⟩
theorem Hz.pop {w0 W : World} {hb n : Nat} {ins : List Bool} {keys : List Int} {S : List Nat} (h : Hz w0 W hb n ins keys S) {x : Nat} (hm : IsMin n ins keys x) :
    Calls Try.prog 46 #[.pointer (some ⟨hb, 0, none⟩)] W fun e w' => e = .returned (.tuple #[.int .i64 (x : Int), .int .i64 (gI keys x), .bool true]) ∧ Hz w0 w' hb n (ins.set x false) keys S ∧ Kq S W w' := by
  obtain ⟨gs, a, b, c, d⟩ := h
  refine (pop_some W hb n ins keys gs a (isMin_cnt hm)).mono ?_
  rintro e w' ⟨y, rfl, h1, h2⟩
  obtain rfl := isMin_unique h1 hm
  exact ⟨rfl, Hz.put b c d h2⟩

theorem Hz.less {w0 W : World} {hb n : Nat} {ins : List Bool} {keys : List Int} {S S' : List Nat} (h : Hz w0 W hb n ins keys S) (hs : ∀ s ∈ S', s ∈ S) : Hz w0 W hb n ins keys S' := by
  obtain ⟨gs, a, b, c, d⟩ := h
  exact ⟨gs, a, fun g hg => ⟨(b g hg).1, fun hm => (b g hg).2 (hs g hm)⟩, c, fun s hm => d s (hs s hm)⟩
theorem Kq.drewN {S : List Nat} {W W' : World} {q : Nat} (h : Kq S (W.drewN q) W') : Kq S W W' := h
/-- truth values as values -/
def bools (l : List Bool) : List Value := l.map Value.bool
theorem bools_get {l : List Bool} {k : Nat} {x : Bool} (h : l[k]? = some x) : (bools l)[k]? = some (.bool x) := by simp [bools, h]
theorem bools_set (l : List Bool) (k : Nat) (x : Bool) : (bools l).set k (.bool x) = bools (l.set k x) := by simp [bools, List.map_set]
/-- the two arrays -/
structure Arr (W : World) (A B : Nat) (ins : List Bool) (keys : List Int) : Prop where
  a : W.heap[A]? = some (.cells (ints keys).toArray 68 (0, 0))
  b : W.heap[B]? = some (.cells (bools ins).toArray 69 (0, 0))
theorem Arr.kq {W W' : World} {A B : Nat} {ins : List Bool} {keys : List Int} {S : List Nat} (h : Arr W A B ins keys) (k : Kq S W W') (ha : A ∈ S) (hb : B ∈ S) : Arr W' A B ins keys := ⟨(k.2 A ha).trans h.a, (k.2 B hb).trans h.b⟩
theorem Arr.setA {W : World} {A B : Nat} {ins : List Bool} {keys : List Int} (h : Arr W A B ins keys) (hne : A ≠ B) (x : Nat) (k : Int) : Arr (W.setCell ⟨A, x, none⟩ (.int .i64 k)) A B ins (keys.set x k) := by
  refine ⟨?_, (heap_set_ne (Ne.symm hne)).trans h.b⟩
  have := heap_set_eq (o := x) (u := .int .i64 k) h.a
  rw [this]; simp [← ints_set]
theorem Arr.setB {W : World} {A B : Nat} {ins : List Bool} {keys : List Int} (h : Arr W A B ins keys) (hne : A ≠ B) (x : Nat) (k : Bool) : Arr (W.setCell ⟨B, x, none⟩ (.bool k)) A B (ins.set x k) keys := by
  refine ⟨(heap_set_ne hne).trans h.a, ?_⟩
  have := heap_set_eq (o := x) (u := .bool k) h.b
  rw [this]; simp [← bools_set]
theorem Arr.ca {W : World} {A B : Nat} {ins : List Bool} {keys : List Int} (h : Arr W A B ins keys) {x : Nat} (hx : x < keys.length) : W.cell? ⟨A, x, none⟩ = some (.int .i64 (gI keys x)) := cell_of h.a (by simpa using ints_get (gI_get hx))
theorem Arr.cb {W : World} {A B : Nat} {ins : List Bool} {keys : List Int} (h : Arr W A B ins keys) {x : Nat} (hx : x < ins.length) : W.cell? ⟨B, x, none⟩ = some (.bool (gB ins x)) := cell_of h.b (by simpa using bools_get (gB_get hx))

theorem rd3_cell {w W : World} {ad : Option Addr} {l : List Tri} (h : ∀ k x, l[k]? = some x → ∃ b off, ad = some ⟨b, off, none⟩ ∧ b < w.heap.size ∧
    w.cell? ⟨b, off + k * 3, none⟩ = some (.int .i64 x.1) ∧ w.cell? ⟨b, off + k * 3 + 1, none⟩ = some (.int .i64 x.2.1) ∧ w.cell? ⟨b, off + k * 3 + 2, none⟩ = some (.int .i64 x.2.2)) (hb : Below w.heap.size w W) {k : Nat} {x : Tri} (hk : l[k]? = some x) :
    ∃ b off, ad = some ⟨b, off, none⟩ ∧ b < w.heap.size ∧ W.cell? ⟨b, off + k * 3, none⟩ = some (.int .i64 x.1) ∧ W.cell? ⟨b, off + k * 3 + 1, none⟩ = some (.int .i64 x.2.1) ∧ W.cell? ⟨b, off + k * 3 + 2, none⟩ = some (.int .i64 x.2.2) := by
  obtain ⟨b, off, e, hlt, h0, h1, h2⟩ := h k _ hk
  exact ⟨b, off, e, hlt, (hb.cell (p := ⟨b, _, none⟩) hlt).trans h0, (hb.cell (p := ⟨b, _, none⟩) hlt).trans h1, (hb.cell (p := ⟨b, _, none⟩) hlt).trans h2⟩
end Go.Proofs.Ytiodpgannelgpaa
