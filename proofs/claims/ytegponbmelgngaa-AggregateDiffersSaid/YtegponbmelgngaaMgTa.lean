/-
  A trie's node in memory, a tree in memory, and what a world keeps when some blocks alone are written.
  The walks of the trie's small functions: covers, toward, needed.
  The walk of the trie's below: a fork over a node that does not cover a prefix.
-/
import Derived.Test.YtegponbmelgngaaMgWa
import Derived.Test.YtegponbmelgngaaMgP
import Derived.Laws.ResultCell
import Derived.OneCell
import Derived.ProofKit
import Derived.Test.YtegponbmelgngaaMgWb
import Derived.Deep.DeepCutAuto
section
namespace Go.Proofs.Ytegponbmelgngaa
open Go.RowKit
set_option linter.unusedSimpArgs false
set_option linter.unusedVariables false

theorem carry {W w1 : World} (hb : Below W.heap.size W w1) {p : Addr} {v : Value} (h : W.cell? p = some v) : w1.cell? p = some v := (hb.cell (World.block_lt_of_cell? _ _ h)).trans h
theorem boxed_then {w W w1 : World} (h : Boxed w W) (hb : Below W.heap.size W w1) : Boxed w w1 := ⟨h.1.trans (hb.mono (by have := h.2; omega)), Nat.lt_of_lt_of_le h.2 hb.size⟩
theorem keep4 {w W w1 : World} {p0 p1 p2 p3 : Addr} {c0 c1 c2 c3 : Value} (h : W.cell? p0 = some c0 ∧ W.cell? p1 = some c1 ∧ W.cell? p2 = some c2 ∧ W.cell? p3 = some c3 ∧ Boxed w W) (hb : Below W.heap.size W w1) :
    w1.cell? p0 = some c0 ∧ w1.cell? p1 = some c1 ∧ w1.cell? p2 = some c2 ∧ w1.cell? p3 = some c3 ∧ Boxed w w1 :=
  ⟨carry hb h.1, carry hb h.2.1, carry hb h.2.2.1, carry hb h.2.2.2.1, boxed_then h.2.2.2.2 hb⟩

/-- the world behind blocks of the call's own, k of them at least -/
def Own (w : World) (k : Nat) (W : World) : Prop := Below w.heap.size w W ∧ w.heap.size + k ≤ W.heap.size
theorem Own.start (w : World) : Own w 0 w := ⟨Below.refl _ _, Nat.le_refl _⟩
theorem Own.alloc {w W : World} {k : Nat} (h : Own w k W) (o : Obj) : Own w (k + 1) (W.alloc o) := ⟨h.1.alloc (by have := h.2; omega) o, by have := h.2; simp; omega⟩
theorem Own.drewN {w W : World} {k : Nat} (h : Own w k W) (n : Nat) : Own w k (W.drewN n) := ⟨below_drewN h.1 n, h.2⟩
theorem Own.then {w W w1 : World} {k : Nat} (h : Own w k W) (hb : Below W.heap.size W w1) : Own w k w1 := ⟨h.1.trans (hb.mono (by have := h.2; omega)), Nat.le_trans h.2 hb.size⟩
theorem Own.setCell {w W : World} {k : Nat} (h : Own w k W) {p : Addr} (hp : w.heap.size ≤ p.block) (u : Value) : Own w k (W.setCell p u) := ⟨h.1.setCell hp u, by simpa using h.2⟩
theorem Own.mono {w W : World} {k j : Nat} (h : Own w k W) (hj : j ≤ k) : Own w j W := ⟨h.1, by have := h.2; omega⟩
def K4 (w : World) (k : Nat) (p0 p1 p2 p3 : Addr) (c0 c1 c2 c3 : Value) (W : World) : Prop := W.cell? p0 = some c0 ∧ W.cell? p1 = some c1 ∧ W.cell? p2 = some c2 ∧ W.cell? p3 = some c3 ∧ Own w k W
theorem k4_below {w W w1 : World} {k : Nat} {p0 p1 p2 p3 : Addr} {c0 c1 c2 c3 : Value} (h : W.cell? p0 = some c0 ∧ W.cell? p1 = some c1 ∧ W.cell? p2 = some c2 ∧ W.cell? p3 = some c3 ∧ Own w k W) (hb : Below W.heap.size W w1) :
    w1.cell? p0 = some c0 ∧ w1.cell? p1 = some c1 ∧ w1.cell? p2 = some c2 ∧ w1.cell? p3 = some c3 ∧ Own w k w1 :=
  ⟨carry hb h.1, carry hb h.2.1, carry hb h.2.2.1, carry hb h.2.2.2.1, h.2.2.2.2.then hb⟩
theorem k4_start (w : World) (a b c d : Value) (t1 t2 : TypeId) : ((w.alloc (.cells #[a, b] t1)).alloc (.cells #[c, d] t2)).drew.cell? ⟨w.heap.size, 0, none⟩ = some a ∧ ((w.alloc (.cells #[a, b] t1)).alloc (.cells #[c, d] t2)).drew.cell? ⟨w.heap.size, 1, none⟩ = some b ∧
    ((w.alloc (.cells #[a, b] t1)).alloc (.cells #[c, d] t2)).drew.cell? ⟨w.heap.size + 1, 0, none⟩ = some c ∧ ((w.alloc (.cells #[a, b] t1)).alloc (.cells #[c, d] t2)).drew.cell? ⟨w.heap.size + 1, 1, none⟩ = some d ∧ Own w 2 ((w.alloc (.cells #[a, b] t1)).alloc (.cells #[c, d] t2)).drew :=
  ⟨by simp [World.cell?_alloc_some], by simp [World.cell?_alloc_some], by simp, by simp, (((Own.start w).alloc _).alloc _).drewN 1⟩
theorem cell_other {W : World} {p q : Addr} {c u : Value} (h : W.cell? p = some c) (hne : p.block ≠ q.block) : (W.setCell q u).cell? p = some c := by
  rw [← h]; exact World.cell?_of_block (Below.heap_setCell _ _ _ _ hne)
theorem k4_set {w W : World} {k : Nat} {p0 p1 p2 p3 q : Addr} {c0 c1 c2 c3 u : Value} (h : W.cell? p0 = some c0 ∧ W.cell? p1 = some c1 ∧ W.cell? p2 = some c2 ∧ W.cell? p3 = some c3 ∧ Own w k W)
    (h0 : p0.block < q.block) (h1 : p1.block < q.block) (h2 : p2.block < q.block) (h3 : p3.block < q.block) (hq : w.heap.size ≤ q.block) :
    (W.setCell q u).cell? p0 = some c0 ∧ (W.setCell q u).cell? p1 = some c1 ∧ (W.setCell q u).cell? p2 = some c2 ∧ (W.setCell q u).cell? p3 = some c3 ∧ Own w k (W.setCell q u) :=
  ⟨cell_other h.1 (by omega), cell_other h.2.1 (by omega), cell_other h.2.2.1 (by omega), cell_other h.2.2.2.1 (by omega), h.2.2.2.2.setCell hq u⟩

/-- a node's six cells -/
def nodeCells (p : PP) (x : Int) (s : Bool) (c d : Value) : Array Value := #[.int .u32 (p.1 : Int), .int .i64 p.2, .int .i64 x, .bool s, c, d]
def IsNode (w : World) (g : Nat) (p : PP) (x : Int) (s : Bool) (c d : Value) : Prop := w.heap[g]? = some (.cells (nodeCells p x s c d) 122 (0, 0))
theorem IsNode.lt {w : World} {g : Nat} {p : PP} {x : Int} {s : Bool} {c d : Value} (h : IsNode w g p x s c d) : g < w.heap.size := lt_of_block h
theorem IsNode.cells {w : World} {g : Nat} {p : PP} {x : Int} {s : Bool} {c d : Value} (h : IsNode w g p x s c d) :
    w.cell? ⟨g, 0, none⟩ = some (.int .u32 (p.1 : Int)) ∧ w.cell? ⟨g, 1, none⟩ = some (.int .i64 p.2) ∧ w.cell? ⟨g, 2, none⟩ = some (.int .i64 x)
      ∧ w.cell? ⟨g, 3, none⟩ = some (.bool s) ∧ w.cell? ⟨g, 4, none⟩ = some c ∧ w.cell? ⟨g, 5, none⟩ = some d := by
  unfold IsNode nodeCells at h
  refine ⟨?_, ?_, ?_, ?_, ?_, ?_⟩ <;> simp [World.cell?, h]
theorem IsNode.free {w : World} {g : Nat} {p : PP} {x : Int} {s : Bool} {c d : Value} (h : IsNode w g p x s c d) (o : Nat) : w.frozen? ⟨g, o, none⟩ = false := by
  unfold IsNode at h; simp [World.frozen?, h]
theorem IsNode.congr {w w' : World} {g : Nat} {p : PP} {x : Int} {s : Bool} {c d : Value} (h : IsNode w g p x s c d) (e : w'.heap[g]? = w.heap[g]?) : IsNode w' g p x s c d := by
  unfold IsNode at *; rw [e]; exact h
theorem heap_set_eq {w : World} {g o : Nat} {cs : Array Value} {t : TypeId} {u : Value} (h : w.heap[g]? = some (.cells cs t (0, 0))) :
    (w.setCell ⟨g, o, none⟩ u).heap[g]? = some (.cells (cs.setIfInBounds o u) t (0, 0)) := by
  have hlt := lt_of_block h
  have h' : w.heap[g] = .cells cs t (0, 0) := by simpa [Array.getElem?_eq_getElem hlt] using h
  show (w.heap.modify g _)[g]? = _
  rw [Array.getElem?_eq_getElem (by simpa using hlt), Array.getElem_modify_self, h']
  rfl
theorem heap_set_ne {w : World} {g k o : Nat} {u : Value} (h : k ≠ g) : (w.setCell ⟨g, o, none⟩ u).heap[k]? = w.heap[k]? := Below.heap_setCell _ _ _ _ (fun e => h e)
theorem IsNode.set4 {w : World} {g : Nat} {p : PP} {x : Int} {s : Bool} {c d u : Value} (h : IsNode w g p x s c d) : IsNode (w.setCell ⟨g, 4, none⟩ u) g p x s u d := by
  unfold IsNode; rw [heap_set_eq h]; rfl
theorem IsNode.set5 {w : World} {g : Nat} {p : PP} {x : Int} {s : Bool} {c d u : Value} (h : IsNode w g p x s c d) : IsNode (w.setCell ⟨g, 5, none⟩ u) g p x s c u := by
  unfold IsNode; rw [heap_set_eq h]; rfl
theorem IsNode.set3 {w : World} {g : Nat} {p : PP} {x : Int} {s s' : Bool} {c d : Value} (h : IsNode w g p x s c d) : IsNode (w.setCell ⟨g, 3, none⟩ (.bool s')) g p x s' c d := by
  unfold IsNode; rw [heap_set_eq h]; rfl
theorem IsNode.set2 {w : World} {g : Nat} {p : PP} {x x' : Int} {s : Bool} {c d : Value} (h : IsNode w g p x s c d) : IsNode (w.setCell ⟨g, 2, none⟩ (.int .i64 x')) g p x' s c d := by
  unfold IsNode; rw [heap_set_eq h]; rfl
theorem IsNode.set1 {w : World} {g : Nat} {p : PP} {x n' : Int} {s : Bool} {c d : Value} (h : IsNode w g p x s c d) : IsNode (w.setCell ⟨g, 1, none⟩ (.int .i64 n')) g (p.1, n') x s c d := by
  unfold IsNode; rw [heap_set_eq h]; rfl
theorem IsNode.set0 {w : World} {g a' : Nat} {p : PP} {x : Int} {s : Bool} {c d : Value} (h : IsNode w g p x s c d) : IsNode (w.setCell ⟨g, 0, none⟩ (.int .u32 (a' : Int))) g (a', p.2) x s c d := by
  unfold IsNode; rw [heap_set_eq h]; rfl

theorem isNode_new {w : World} {f : Nat} (p : PP) (x : Int) (s : Bool) (c d : Value) (hf : f = w.heap.size) : IsNode (w.alloc (.cells #[.int .u32 (p.1 : Int), .int .i64 p.2, .int .i64 x, .bool s, c, d] 122)) f p x s c d := by
  subst hf; exact heap_alloc_new _ _
theorem IsNode.kid {w : World} {g k : Nat} {p : PP} {x : Int} {s : Bool} {c d : Value} (h : IsNode w g p x s c d) (hk : k ≤ 1) : w.cell? ⟨g, 4 + k, none⟩ = some (if k = 0 then c else d) := by
  have hc := h.cells
  rcases (by omega : k = 0 ∨ k = 1) with rfl | rfl
  · exact hc.2.2.2.2.1
  · exact hc.2.2.2.2.2
theorem IsNode.kid2 {w : World} {g k : Nat} {p : PP} {x : Int} {s : Bool} {c : Value} (h : IsNode w g p x s c c) (hk : k ≤ 1) : w.cell? ⟨g, 4 + k, none⟩ = some c := by rw [h.kid hk, ite_self]
theorem IsNode.setK {w : World} {g k : Nat} {p : PP} {x : Int} {s : Bool} {c d u : Value} (h : IsNode w g p x s c d) (hk : k ≤ 1) : IsNode (w.setCell ⟨g, 4 + k, none⟩ u) g p x s (if k = 0 then u else c) (if k = 0 then d else u) := by
  rcases (by omega : k = 0 ∨ k = 1) with rfl | rfl
  · exact h.set4
  · exact h.set5

/-- a tree in memory: its pointer and its blocks -/
def Lies (w : World) : Sh → Value → List Nat → Prop
  | .nil, v, gs => v = .pointer none ∧ gs = []
  | .node p x s l r, v, gs => ∃ g c d gl gr, v = .pointer (some ⟨g, 0, none⟩) ∧ gs = g :: (gl ++ gr) ∧ IsNode w g p x s c d ∧ Lies w l c gl ∧ Lies w r d gr
theorem Lies.ptr {w : World} : ∀ {T : Sh} {v : Value} {gs : List Nat}, Lies w T v gs → ∃ u, v = .pointer u
  | .nil, v, gs, h => ⟨none, h.1⟩
  | .node p x s l r, v, gs, h => by obtain ⟨g, c, d, gl, gr, rfl, _⟩ := h; exact ⟨_, rfl⟩
theorem Lies.lt {w : World} : ∀ {T : Sh} {v : Value} {gs : List Nat}, Lies w T v gs → ∀ g ∈ gs, g < w.heap.size
  | .nil, v, gs, h, g, hg => by obtain ⟨_, rfl⟩ := h; cases hg
  | .node p x s l r, v, gs, h, k, hk => by
    obtain ⟨g, c, d, gl, gr, rfl, rfl, hn, hl, hr⟩ := h
    rcases List.mem_cons.1 hk with rfl | hk
    · exact hn.lt
    · rcases List.mem_append.1 hk with hk | hk
      · exact hl.lt k hk
      · exact hr.lt k hk
theorem Lies.congr {w w' : World} : ∀ {T : Sh} {v : Value} {gs : List Nat}, Lies w T v gs → (∀ g ∈ gs, w'.heap[g]? = w.heap[g]?) → Lies w' T v gs
  | .nil, v, gs, h, _ => h
  | .node p x s l r, v, gs, h, hk => by
    obtain ⟨g, c, d, gl, gr, rfl, rfl, hn, hl, hr⟩ := h
    exact ⟨g, c, d, gl, gr, rfl, rfl, hn.congr (hk g (by simp)), hl.congr fun k h => hk k (by simp [h]), hr.congr fun k h => hk k (by simp [h])⟩

/-- what existed and is no block of S reads as before -/
structure Kp (S : List Nat) (w w' : World) : Prop where
  os : w'.os = w.os
  tape : w'.tape = w.tape
  output : w'.output = w.output
  size : w.heap.size ≤ w'.heap.size
  block : ∀ k, k < w.heap.size → k ∉ S → w'.heap[k]? = w.heap[k]?
theorem Kp.refl (S : List Nat) (w : World) : Kp S w w := ⟨rfl, rfl, rfl, Nat.le_refl _, fun _ _ _ => rfl⟩
theorem Kp.of_below {S : List Nat} {w w' : World} (h : Below w.heap.size w w') : Kp S w w' := ⟨h.os, h.tape, h.output, h.size, fun k hk _ => h.block k hk⟩
theorem Kp.trans {S S' : List Nat} {a b c : World} (h : Kp S a b) (k : Kp S' b c) (hs : ∀ g ∈ S', g ∈ S ∨ a.heap.size ≤ g) : Kp S a c :=
  ⟨k.os.trans h.os, k.tape.trans h.tape, k.output.trans h.output, Nat.le_trans h.size k.size, fun i hi hn =>
    (k.block i (Nat.lt_of_lt_of_le hi h.size) (fun hm => by rcases hs i hm with h1 | h1; exact hn h1; omega)).trans (h.block i hi hn)⟩
theorem Kp.then {S : List Nat} {a b c : World} (h : Kp S a b) (k : Below b.heap.size b c) : Kp S a c := h.trans (Kp.of_below (S := []) k) (fun g hg => by cases hg)
theorem Kp.setCell {S : List Nat} {a b : World} (h : Kp S a b) {g o : Nat} {u : Value} (hg : g ∈ S ∨ a.heap.size ≤ g) : Kp S a (b.setCell ⟨g, o, none⟩ u) :=
  ⟨h.os, h.tape, h.output, by simpa using h.size, fun k hk hn => (heap_set_ne (by rintro rfl; rcases hg with h1 | h1; exact hn h1; omega)).trans (h.block k hk hn)⟩
theorem Kp.mono {S S' : List Nat} {a b : World} (h : Kp S a b) (hs : ∀ g ∈ S, g ∈ S') : Kp S' a b := ⟨h.os, h.tape, h.output, h.size, fun k hk hn => h.block k hk (fun hm => hn (hs k hm))⟩
theorem Kp.below {S : List Nat} {a b : World} (h : Kp S a b) {B : Nat} (hB : B ≤ a.heap.size) (hs : ∀ g ∈ S, B ≤ g) : Below B a b :=
  ⟨h.os, h.tape, h.output, h.size, fun k hk => h.block k (by omega) (fun hm => by have := hs k hm; omega)⟩
theorem Kp.drewN {S : List Nat} {a b : World} (h : Kp S a b) (n : Nat) : Kp S a (b.drewN n) := ⟨h.os, h.tape, h.output, h.size, h.block⟩
theorem Kp.cell {S : List Nat} {a b : World} (h : Kp S a b) {g o : Nat} (hg : g < a.heap.size) (hn : g ∉ S) : b.cell? ⟨g, o, none⟩ = a.cell? ⟨g, o, none⟩ := World.cell?_of_block (h.block g hg hn)
theorem IsNode.kp {S : List Nat} {w w' : World} {g : Nat} {p : PP} {x : Int} {s : Bool} {c d : Value} (h : IsNode w g p x s c d) (k : Kp S w w') (hn : g ∉ S) : IsNode w' g p x s c d := h.congr (k.block g h.lt hn)
theorem IsNode.below {w w' : World} {g : Nat} {p : PP} {x : Int} {s : Bool} {c d : Value} (h : IsNode w g p x s c d) (k : Below w.heap.size w w') : IsNode w' g p x s c d := h.congr (k.block g h.lt)
theorem Lies.kp {S : List Nat} {w w' : World} {T : Sh} {v : Value} {gs : List Nat} (h : Lies w T v gs) (k : Kp S w w') (hn : ∀ g ∈ gs, g ∉ S) : Lies w' T v gs := h.congr fun g hg => k.block g (h.lt g hg) (hn g hg)
theorem Lies.below {w w' : World} {T : Sh} {v : Value} {gs : List Nat} (h : Lies w T v gs) (k : Below w.heap.size w w') : Lies w' T v gs := h.congr fun g hg => k.block g (h.lt g hg)
theorem Lies.setCell {w : World} {T : Sh} {v : Value} {gs : List Nat} (h : Lies w T v gs) {g o : Nat} {u : Value} (hn : g ∉ gs) : Lies (w.setCell ⟨g, o, none⟩ u) T v gs :=
  h.congr fun k hk => heap_set_ne (by rintro rfl; exact hn hk)
theorem Lies.drewN {w : World} {T : Sh} {v : Value} {gs : List Nat} (h : Lies w T v gs) (n : Nat) : Lies (w.drewN n) T v gs := h.congr fun _ _ => rfl
theorem Lies.drew {w : World} {T : Sh} {v : Value} {gs : List Nat} (h : Lies w T v gs) : Lies w.drew T v gs := h.congr fun _ _ => rfl
theorem IsNode.drewN {w : World} {g : Nat} {p : PP} {x : Int} {s : Bool} {c d : Value} (h : IsNode w g p x s c d) (n : Nat) : IsNode (w.drewN n) g p x s c d := h
theorem IsNode.drew {w : World} {g : Nat} {p : PP} {x : Int} {s : Bool} {c d : Value} (h : IsNode w g p x s c d) : IsNode w.drew g p x s c d := h
theorem Kp.undrew {S : List Nat} {a b : World} (h : Kp S a.drew b) : Kp S a b := ⟨h.os, h.tape, h.output, h.size, h.block⟩
theorem Kp.carry {S : List Nat} {a b : World} (h : Kp S a b) {p : Addr} {v : Value} (hn : p.block ∉ S) (hc : a.cell? p = some v) : b.cell? p = some v := by
  rw [← hc]; exact World.cell?_of_block (h.block _ (World.block_lt_of_cell? _ _ hc) hn)
theorem nd_parts {g : Nat} {gl gr : List Nat} (nd : (g :: (gl ++ gr)).Nodup) : g ∉ gl ∧ g ∉ gr ∧ gl.Nodup ∧ gr.Nodup ∧ ∀ a ∈ gl, a ∉ gr := by
  obtain ⟨h1, h2⟩ := List.nodup_cons.1 nd
  obtain ⟨h3, h4, h5⟩ := List.nodup_append.1 h2
  exact ⟨fun h => h1 (List.mem_append_left _ h), fun h => h1 (List.mem_append_right _ h), h3, h4, fun a ha hb => h5 a ha a hb rfl⟩
theorem nd_mk {g : Nat} {gl gr : List Nat} (h1 : g ∉ gl) (h2 : g ∉ gr) (h3 : gl.Nodup) (h4 : gr.Nodup) (h5 : ∀ a ∈ gl, a ∉ gr) : (g :: (gl ++ gr)).Nodup :=
  List.nodup_cons.2 ⟨fun h => by rcases List.mem_append.1 h with h | h; exact h1 h; exact h2 h, List.nodup_append.2 ⟨h3, h4, fun a ha b hb e => h5 a ha (e ▸ hb)⟩⟩
theorem not_mem_fork {b f : Nat} {gs : List Nat} (h : b < f) (hlt : ∀ k ∈ gs, k < b) : b ∉ f :: gs := fun hm => by
  rcases List.mem_cons.1 hm with h1 | h1
  · omega
  · have := hlt _ h1; omega
def kid0 (k : Nat) (P : Value) : Value := if k = 0 then P else .pointer none
def kid1 (k : Nat) (P : Value) : Value := if k = 0 then .pointer none else P
theorem fork_lies {w : World} {f : Nat} {T : Sh} {p o : PP} {P : Value} {gs : List Nat} (hn : IsNode w f (shr p o) 0 false (kid0 (atZ o.1 (shr p o).2) P) (kid1 (atZ o.1 (shr p o).2) P)) (hl : Lies w T P gs) :
    Lies w (forkT T p o) (.pointer (some ⟨f, 0, none⟩)) (f :: gs) := by
  unfold kid0 kid1 at hn
  unfold forkT
  by_cases h : atZ o.1 (shr p o).2 = 0
  · rw [if_pos h, if_pos h] at hn ⊢
    exact ⟨f, _, _, gs, [], rfl, by simp, hn, hl, rfl, rfl⟩
  · rw [if_neg h, if_neg h] at hn ⊢
    exact ⟨f, _, _, [], gs, rfl, by simp, hn, ⟨rfl, rfl⟩, hl⟩
/-- behind a change of the left kid's tree and the store of its new root -/
theorem down0 {w w2 w3 : World} {g : Nat} {p : PP} {x : Int} {s : Bool} {c d v' : Value} {r l' : Sh} {gl gr gl' : List Nat} (hb : Below w.heap.size w w2) (hn : IsNode w2 g p x s c d) (hr : Lies w2 r d gr) (nd : (g :: (gl ++ gr)).Nodup)
    (hl' : Lies w3 l' v' gl') (nd' : gl'.Nodup) (sub : ∀ k ∈ gl', k ∈ gl ∨ w2.heap.size ≤ k) (kp : Kp gl w2 w3) :
    ∃ gs', Lies (w3.setCell ⟨g, 4, none⟩ v') (.node p x s l' r) (.pointer (some ⟨g, 0, none⟩)) gs' ∧ gs'.Nodup ∧ (∀ k ∈ gs', k ∈ g :: (gl ++ gr) ∨ w.heap.size ≤ k) ∧ Kp (g :: (gl ++ gr)) w (w3.setCell ⟨g, 4, none⟩ v') := by
  obtain ⟨n1, n2, n3, n4, n5⟩ := nd_parts nd
  have hs := hb.size
  have hg := hn.lt
  have hgl' : g ∉ gl' := fun h => by rcases sub g h with h1 | h1; exact n1 h1; omega
  have hgr := hr.lt
  have hn3 := hn.kp kp n1
  have hr3 := hr.kp kp (fun k h h' => n5 k h' h)
  refine ⟨g :: (gl' ++ gr), ⟨g, v', d, gl', gr, rfl, rfl, hn3.set4, hl'.setCell hgl', hr3.setCell n2⟩, nd_mk hgl' n2 nd' n4 (fun k h h' => ?_), ?_, ?_⟩
  · rcases sub k h with h1 | h1
    · exact n5 k h1 h'
    · have := hgr k h'; omega
  · intro k hk
    rcases List.mem_cons.1 hk with rfl | hk
    · exact .inl (by simp)
    · rcases List.mem_append.1 hk with hk | hk
      · rcases sub k hk with h1 | h1
        · exact .inl (by simp [h1])
        · exact .inr (by omega)
      · exact .inl (by simp [hk])
  · exact ((Kp.of_below hb).trans kp (fun k h => .inl (by simp [h]))).setCell (.inl (by simp))
theorem down1 {w w2 w3 : World} {g : Nat} {p : PP} {x : Int} {s : Bool} {c d v' : Value} {l r' : Sh} {gl gr gr' : List Nat} (hb : Below w.heap.size w w2) (hn : IsNode w2 g p x s c d) (hl : Lies w2 l c gl) (nd : (g :: (gl ++ gr)).Nodup)
    (hr' : Lies w3 r' v' gr') (nd' : gr'.Nodup) (sub : ∀ k ∈ gr', k ∈ gr ∨ w2.heap.size ≤ k) (kp : Kp gr w2 w3) :
    ∃ gs', Lies (w3.setCell ⟨g, 5, none⟩ v') (.node p x s l r') (.pointer (some ⟨g, 0, none⟩)) gs' ∧ gs'.Nodup ∧ (∀ k ∈ gs', k ∈ g :: (gl ++ gr) ∨ w.heap.size ≤ k) ∧ Kp (g :: (gl ++ gr)) w (w3.setCell ⟨g, 5, none⟩ v') := by
  obtain ⟨n1, n2, n3, n4, n5⟩ := nd_parts nd
  have hs := hb.size
  have hg := hn.lt
  have hgr' : g ∉ gr' := fun h => by rcases sub g h with h1 | h1; exact n2 h1; omega
  have hgl := hl.lt
  have hn3 := hn.kp kp n2
  have hl3 := hl.kp kp n5
  refine ⟨g :: (gl ++ gr'), ⟨g, c, v', gl, gr', rfl, rfl, hn3.set5, hl3.setCell n1, hr'.setCell hgr'⟩, nd_mk n1 hgr' n3 nd' (fun k h h' => ?_), ?_, ?_⟩
  · rcases sub k h' with h1 | h1
    · exact n5 k h h1
    · have := hgl k h; omega
  · intro k hk
    rcases List.mem_cons.1 hk with rfl | hk
    · exact .inl (by simp)
    · rcases List.mem_append.1 hk with hk | hk
      · exact .inl (by simp [hk])
      · rcases sub k hk with h1 | h1
        · exact .inl (by simp [h1])
        · exact .inr (by omega)
  · exact ((Kp.of_below hb).trans kp (fun k h => .inl (by simp [h]))).setCell (.inl (by simp))
end Go.Proofs.Ytegponbmelgngaa
end

section
namespace Go.Proofs.Ytegponbmelgngaa
open Go.RowKit
set_option linter.unusedSimpArgs false
set_option linter.unusedVariables false
set_option maxHeartbeats 1000000

theorem ret_p {a b : Value} (h : a = b) : Ending.returned a = .returned b := by rw [h]
theorem toward_any {g : Nat} {p : PP} {x : Int} {s : Bool} {c d : Value} (b : Nat) (hb : b < 4294967296) (m : Int) (w : World) (hI : I64 p.2) (h : IsNode w g p x s c d) :
    Calls Try.prog 114 #[.pointer (some ⟨g, 0, none⟩), .agg #[.int .u32 b, .int .i64 m]] w fun e w' => e = .returned (.pointer (some ⟨g, 4 + atZ b p.2, none⟩)) ∧ Below w.heap.size w w' := by
  obtain ⟨a, n⟩ := p
  have hc := h.cells
  have hlt := h.lt
  have H := Lib.hid h
  clear h
  obtain ⟨-, h1, -, -, -, -⟩ := hc
  have hz := atZ_le b n
  have f1 : (w.alloc (.cells #[.int .u32 (b : Int), .int .i64 m] 28)).cell? ⟨g, 1, none⟩ = some (.int .i64 n) := by rw [← h1]; exact World.cell?_of_block (Below.heap_alloc _ _ _ hlt)
  clear h1
  go_enter Try.func114, Try.ntmps114
  go_wp2
  go_quiet ((go_at_call 136; exact Calls.quiet_of_same ((at_any b hb n hI _).mono fun _ _ h => ⟨h.1, h.2.symm⟩)))
  go_wp2
  go_ret
  exact ⟨by simp, below_drewN (below_alloc _ _) _⟩

theorem toward_0 {g : Nat} {p : PP} {x : Int} {s : Bool} {c d : Value} (b : Nat) (hb : b < 4294967296) (m : Int) (w : World) (hI : I64 p.2) (h : IsNode w g p x s c d) (h0 : atZ b p.2 = 0) :
    Calls Try.prog 114 #[.pointer (some ⟨g, 0, none⟩), .agg #[.int .u32 b, .int .i64 m]] w fun e w' => e = .returned (.pointer (some ⟨g, 4, none⟩)) ∧ Below w.heap.size w w' :=
  (toward_any b hb m w hI h).mono fun _ _ k => ⟨by rw [k.1, h0], k.2⟩
theorem toward_1 {g : Nat} {p : PP} {x : Int} {s : Bool} {c d : Value} (b : Nat) (hb : b < 4294967296) (m : Int) (w : World) (hI : I64 p.2) (h : IsNode w g p x s c d) (h0 : atZ b p.2 = 1) :
    Calls Try.prog 114 #[.pointer (some ⟨g, 0, none⟩), .agg #[.int .u32 b, .int .i64 m]] w fun e w' => e = .returned (.pointer (some ⟨g, 5, none⟩)) ∧ Below w.heap.size w w' :=
  (toward_any b hb m w hI h).mono fun _ _ k => ⟨by rw [k.1, h0], k.2⟩

theorem covN_nil (b : Nat) (m : Int) (w : World) :
    Calls Try.prog 112 #[.pointer none, .agg #[.int .u32 b, .int .i64 m]] w fun e w' => e = .returned (.bool false) ∧ Below w.heap.size w w' := by
  go_enter Try.func112, Try.ntmps112
  go_wp2
  go_quiet (fail)
  go_wp2
  go_ret
  exact ⟨rfl, below_drewN (below_alloc _ _) _⟩
theorem covN_any {g : Nat} {p : PP} {x : Int} {s : Bool} {c d : Value} (hp : PV p) (b : Nat) (hb : b < 4294967296) (m : Int) (hm : I64 m) (w : World) (h : IsNode w g p x s c d) :
    Calls Try.prog 112 #[.pointer (some ⟨g, 0, none⟩), .agg #[.int .u32 b, .int .i64 m]] w fun e w' => e = .returned (.bool (C p (b, m))) ∧ Below w.heap.size w w' := by
  have hI := (V_iff p).1 hp.2
  obtain ⟨a, n⟩ := p
  have ha : a < 4294967296 := hp.1
  have hn : I64 n := by have h1 := hI.1; have h2 := hI.2.1; dsimp only at h1 h2; constructor <;> omega
  have hc := h.cells
  have hlt := h.lt
  have HX := Lib.hid (show C (a, n) (b, m) = cov a n b m from rfl)
  clear h hI hp
  obtain ⟨h0, h1, -, -, -, -⟩ := hc
  have f0 : (w.alloc (.cells #[.int .u32 (b : Int), .int .i64 m] 28)).cell? ⟨g, 0, none⟩ = some (.int .u32 (a : Int)) := by rw [← h0]; exact World.cell?_of_block (Below.heap_alloc _ _ _ hlt)
  have f1 : (w.alloc (.cells #[.int .u32 (b : Int), .int .i64 m] 28)).cell? ⟨g, 1, none⟩ = some (.int .i64 n) := by rw [← h1]; exact World.cell?_of_block (Below.heap_alloc _ _ _ hlt)
  clear h0 h1
  go_enter Try.func112, Try.ntmps112
  go_wp2
  go_region_held3 (fun w' => w'.cell? ⟨g, 0, none⟩ = some (.int .u32 a) ∧ w'.cell? ⟨g, 1, none⟩ = some (.int .i64 n) ∧ w'.cell? ⟨w.heap.size, 0, none⟩ = some (.int .u32 b) ∧ w'.cell? ⟨w.heap.size, 1, none⟩ = some (.int .i64 m) ∧ Boxed w w')
    (first | exact ⟨f0, f1, by simp [*], by simp [*], boxed_box _ _⟩ | go_keep)
    (first | (go_at_call 137; refine (covers_any _ (by omega) _ (by omega) _ (by omega) _ (by omega) _).mono ?_; rintro e w1 ⟨rfl, hb⟩; have hk := keep4 ‹_› hb; clear hb))
  all_goals go_wp2
  go_ret
  exact ⟨ret_b HX.out.symm, by obtain ⟨_, _, _, _, hB⟩ := hk; exact hB.1⟩

def needV (g : Nat) (s : Bool) (u1 u2 : Option Addr) : Option Addr := if s = true ∨ (u1 ≠ none ∧ u2 ≠ none) then some ⟨g, 0, none⟩ else if u1 ≠ none then u1 else u2
theorem sub_l {g : Nat} {gl gr : List Nat} : gl.Sublist (g :: (gl ++ gr)) := (List.sublist_append_left _ _).trans (List.sublist_cons_self _ _)
theorem sub_r {g : Nat} {gl gr : List Nat} : gr.Sublist (g :: (gl ++ gr)) := (List.sublist_append_right _ _).trans (List.sublist_cons_self _ _)
theorem isNil_ptr {w : World} {T : Sh} {u : Option Addr} {gs : List Nat} (h : Lies w T (.pointer u) gs) : T.isNil = decide (u = none) := by
  cases T
  · obtain ⟨h1, _⟩ := h; cases h1; rfl
  · obtain ⟨g, c, d, gl, gr, h1, _⟩ := h; cases h1; rfl
end Go.Proofs.Ytegponbmelgngaa
end

section
namespace Go.Proofs.Ytegponbmelgngaa
open Go.RowKit
set_option linter.unusedSimpArgs false
set_option linter.unusedVariables false
set_option maxHeartbeats 8000000
set_option maxRecDepth 100000

theorem below_any {g : Nat} {o : PP} {x : Int} {s : Bool} {c d : Value} (p : PP) (hp : PV p) (ho : PV o) (hc : C o p = false) (w : World) (h : IsNode w g o x s c d) :
    Calls Try.prog 113 #[.pointer (some ⟨g, 0, none⟩), .agg #[.int .u32 (p.1 : Nat), .int .i64 p.2]] w fun e w' => ∃ f, e = .returned (.pointer (some ⟨f, 0, none⟩)) ∧ w.heap.size ≤ f ∧
      IsNode w' f (shr p o) 0 false (kid0 (atZ o.1 (shr p o).2) (.pointer (some ⟨g, 0, none⟩))) (kid1 (atZ o.1 (shr p o).2) (.pointer (some ⟨g, 0, none⟩))) ∧ Below w.heap.size w w' := by
  have hcell := h.cells
  have hlt := h.lt
  obtain ⟨h0, h1, -, -, -, -⟩ := hcell
  have hI := (V_iff _).1 hp.2
  obtain ⟨b, m⟩ := p
  obtain ⟨a, n⟩ := o
  have hb : b < 4294967296 := hp.1
  have ha : a < 4294967296 := ho.1
  have hm0 : 0 ≤ m := hI.1
  have hm1 : m ≤ 32 := hI.2.1
  have hcl := M.comN_le b a
  have H := Lib.hid (And.intro h (And.intro hp (And.intro ho (And.intro hc hI))))
  clear h hp ho hc hI
  obtain ⟨⟨sa, sn⟩, hsh⟩ : ∃ q : PP, shr (b, m) (a, n) = q := ⟨_, rfl⟩
  have HS : Hid (sn = min m (M.comN b a : Nat)) := (congrArg Prod.snd hsh).symm
  have HM : Hid (∀ k, k = sn → ∀ W, Calls Try.prog 61 #[.int .u32 b, .int .i64 k] W fun e w' => e = .returned (.tuple #[.agg #[.int .u32 sa, .int .i64 sn], .int .i64 0]) ∧ Below W.heap.size W w') :=
    fun k hk W => by
      have h1 : sa = (shr (b, m) (a, n)).1 := (congrArg Prod.fst hsh).symm
      have h2 : sn = (shr (b, m) (a, n)).2 := (congrArg Prod.snd hsh).symm
      rw [hk, h1, h2]; exact make_yes b hb _ (by unfold shr; dsimp only; omega) (by unfold shr; dsimp only; omega) W
  have HSH := Lib.hid hsh
  clear hsh
  have hIs : I64 sn := by have := HS.out; constructor <;> omega
  have hz := atZ_le a sn
  go_enter Try.func113, Try.ntmps113
  go_upto_region 2 with fail
  go_cut [6, 7] (fun s6 s7 wx => ∃ f : Nat, s6 = .pointer (some ⟨f, 0, none⟩) ∧ s7 = .int .i64 0 ∧ wx.cell? ⟨f, 0, none⟩ = some (.int .u32 sa) ∧ wx.cell? ⟨f, 1, none⟩ = some (.int .i64 sn) ∧ wx.cell? ⟨w.heap.size, 0, none⟩ = some (.int .u32 b) ∧ wx.cell? ⟨w.heap.size, 1, none⟩ = some (.int .i64 m) ∧ wx.cell? ⟨w.heap.size + 1, 0, none⟩ = some (.int .u32 a) ∧ wx.cell? ⟨w.heap.size + 1, 1, none⟩ = some (.int .i64 n) ∧ Own w 2 wx)
  case first =>
    rcases (by omega : m ≤ (M.comN b a : Nat) ∨ (M.comN b a : Nat) < m) with hle | hle
    all_goals
      go_region_held3 (fun w' => w'.cell? ⟨w.heap.size, 0, none⟩ = some (.int .u32 b) ∧ w'.cell? ⟨w.heap.size, 1, none⟩ = some (.int .i64 m) ∧ w'.cell? ⟨w.heap.size + 1, 0, none⟩ = some (.int .u32 a) ∧ w'.cell? ⟨w.heap.size + 1, 1, none⟩ = some (.int .i64 n) ∧ Own w 2 w')
      (first | exact k4_start _ _ _ _ _ _ _ | exact k4_below ‹_› (below_alloc _ _) | (refine k4_set (k4_set ‹_› ?_ ?_ ?_ ?_ ?_) ?_ ?_ ?_ ?_ ?_ <;> (dsimp only; omega)) | go_keep)
      (first | (go_at_call 62; refine (com_any _ _ (by omega) (by omega) _).mono ?_; rintro e w1 ⟨rfl, rfl⟩) | (go_at_call 61; refine (HM.out _ (by have := HS.out; omega) _).mono ?_; rintro e w1 ⟨rfl, hb⟩; have hk := k4_below ‹_› hb; have hsz := hk.2.2.2.2.2; obtain ⟨hc1, hf1⟩ := bcell hb))
    all_goals (obtain ⟨k0, k1, k2, k3, k4⟩ := ‹_ ∧ _ ∧ _ ∧ _ ∧ Own _ _ _›)
    all_goals (go_wp2_with fail; go_meet; refine ⟨_, rfl, rfl, ?_, ?_, k0, k1, k2, k3, k4⟩)
    all_goals (first | (simp; done) | (simp [*]; done) | go_simp)
  case rest =>
    obtain ⟨f, rfl, rfl, j0, j1, k0, k1, k2, k3, k4⟩ := hcut
    have hsz := k4.2
    have KO := Lib.hid k4
    clear k4
    have al2 : ∀ o, (wc.alloc o).cell? ⟨w.heap.size + 1, 0, none⟩ = some (.int .u32 a) := fun o => carry (below_alloc _ _) k2
    have al3 : ∀ o, (wc.alloc o).cell? ⟨w.heap.size + 1, 1, none⟩ = some (.int .i64 n) := fun o => carry (below_alloc _ _) k3
    go_wp2_with (go_at_call 114; refine (toward_any (x := 0) (s := false) (c := .pointer none) (d := .pointer none) (p := (sa, sn)) a ha n _ hIs (isNode_new (sa, sn) 0 false _ _ (by simp))).mono ?_; rintro e w3 ⟨rfl, hb3⟩
                 have hN := (isNode_new (w := wc) (f := wc.heap.size) (sa, sn) 0 false (.pointer none) (.pointer none) rfl).below hb3
                 have hN3 := Lib.hid hN
                 have hkid := hN.kid2 hz
                 have hfree := hN.free (4 + atZ a sn)
                 have hO3 := Lib.hid ((KO.out.alloc _).then hb3)
                 clear hN hb3)
    go_ret
    refine ⟨_, rfl, by omega, ?_, hO3.out.1.setCell (by dsimp only; omega) _⟩
    rw [HSH.out]
    exact hN3.out.setK hz
end Go.Proofs.Ytegponbmelgngaa
end
