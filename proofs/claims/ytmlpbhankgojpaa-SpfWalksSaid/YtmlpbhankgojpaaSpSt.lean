/-
  The walk of start: a tree in which only the root is reached.
-/
import Derived.Test.YtmlpbhankgojpaaSpRep
import Derived.Test.YtmlpbhankgojpaaSpLea
import Derived.Test.YtmlpbhankgojpaaRegI
namespace Go.Proofs.Ytmlpbhankgojpaa
open Go.RowKit HM SP
set_option linter.unusedSimpArgs false
set_option linter.unusedVariables false
set_option maxHeartbeats 4000000
set_option maxRecDepth 100000

theorem info25 : (Try.prog.info? 25).map (fun i => (i.zero, i.size, i.bytes)) = some (some (.slice none 0 0), 1, 24) := by kernel_rfl
theorem make_rowsI (n : Nat) (hn : n ≤ 65536) (w : World) : (Instr.makeSlice 26 (.int .i64 (n : Int)) (.int .i64 (n : Int))).run Try.prog w = .ok (.slice (some ⟨w.heap.size, 0, none⟩) n n) (w.alloc (.cells (madeCells #[.slice none 0 0] n) 25)) :=
  run_make_row' 26 25 (.slice none 0 0) 24 Try.underlying26 info25 rfl .i64 .i64 n (by omega) (by omega) w
def zrow (n : Nat) : Obj := .cells (madeCells #[.slice none 0 0] n) 25
/-- the values of a tree -/
def treeV (root : Int) (D H P n : Nat) : Value := .agg #[.int .i64 root, .slice (some ⟨D, 0, none⟩) n n, .slice (some ⟨H, 0, none⟩) n n, .slice (some ⟨P, 0, none⟩) n n]
def StQ (w : World) (root : Int) (x n : Nat) (e : Ending) (w' : World) : Prop := ∃ D H P, e = .returned (treeV root D H P n) ∧ (w.heap.size ≤ D ∧ w.heap.size ≤ H ∧ w.heap.size ≤ P) ∧
  TR w' D H P n ((List.replicate n (-1)).set x 0) (List.replicate n (.slice none 0 0)) (List.replicate n (.slice none 0 0)) (List.replicate n []) (List.replicate n []) ∧ Below w.heap.size w w'
theorem belowA {w W : World} (h : Below w.heap.size w W) (o : Obj) : Below w.heap.size w (W.alloc o) := h.alloc h.size o
theorem belowS {w W : World} (h : Below w.heap.size w W) {p : Addr} (hp : w.heap.size ≤ p.block) (u : Value) : Below w.heap.size w (W.setCell p u) := h.setCell hp u
theorem cell_drew {W : World} {p : Addr} {v : Value} (h : W.cell? p = some v) : W.drew.cell? p = some v := h
theorem lt_block' {w : World} {g : Nat} {o : Obj} (h : w.heap[g]? = some o) : g < w.heap.size := lt_block h
theorem heap_up {W : World} {b : Nat} {x : Obj} {o : Obj} (h : W.heap[b]? = some x) : (W.alloc o).heap[b]? = some x := (Below.heap_alloc _ _ _ (lt_block h)).trans h
theorem heap_drew {W : World} {b : Nat} {x : Obj} (h : W.heap[b]? = some x) : W.drew.heap[b]? = some x := h
theorem heap_new1 (W : World) (o : Obj) {b : Nat} (hb : b = W.heap.size) : (W.alloc o).heap[b]? = some o := by subst hb; exact heap_alloc_new _ _
theorem box_kept {W w1 : World} {b : Nat} (hb : Below W.heap.size W w1) (h : W.heap[b]? = some (.cells #[.int .i64 0, .slice none 0 0, .slice none 0 0, .slice none 0 0] 28 (0, 0))) :
    w1.cell? ⟨b, 0, none⟩ = some (.int .i64 0) ∧ w1.cell? ⟨b, 1, none⟩ = some (.slice none 0 0) ∧ w1.cell? ⟨b, 2, none⟩ = some (.slice none 0 0) ∧ w1.cell? ⟨b, 3, none⟩ = some (.slice none 0 0) ∧ ∀ o, w1.frozen? ⟨b, o, none⟩ = false := by
  have h' := (hb.block b (lt_block h)).trans h
  exact ⟨cell_of h' rfl, cell_of h' rfl, cell_of h' rfl, cell_of h' rfl, free_of h'⟩
theorem cell_new1 (W : World) (v : Value) (t : TypeId) {b : Nat} (hb : b = W.heap.size) : (W.alloc (.cells #[v] t)).cell? ⟨b, 0, none⟩ = some v := by subst hb; simp
def box0 : Obj := .cells #[.int .i64 0, .slice none 0 0, .slice none 0 0, .slice none 0 0] 28
/-- what has been made so far -/
structure StI (w0 : World) (x n : Nat) (f : Nat → Bool) (w : World) (v6 v12 v13 v14 v15 v16 v17 v18 v19 v20 : Value) : Prop where
  b : Below w0.heap.size w0 w
  h0 : f 0 = true → v12 = .int .i64 (x : Int)
  h1 : f 1 = true → ∃ b, v13 = .slice (some ⟨b, 0, none⟩) 1 1 ∧ w.cell? ⟨b, 0, none⟩ = some (.int .i64 (-1))
  h2 : f 2 = true → v14 = .int .i64 (n : Int)
  h3 : f 3 = true → ∃ g, v15 = .slice (some ⟨g, 0, none⟩) n n ∧ w0.heap.size ≤ g ∧ w.ownsRow 0 3 1 (.slice (some ⟨g, 0, none⟩) n n) n (ints (List.replicate n (-1)))
  h4 : f 4 = true → v16 = .int .i64 (n : Int)
  h5 : f 5 = true → ∃ g, v17 = .slice (some ⟨g, 0, none⟩) n n ∧ w0.heap.size ≤ g ∧ w.heap[g]? = some (zrow n)
  h6 : f 6 = true → v18 = .int .i64 (n : Int)
  h7 : f 7 = true → ∃ g, v19 = .slice (some ⟨g, 0, none⟩) n n ∧ w0.heap.size ≤ g ∧ w.heap[g]? = some (zrow n)
  h57 : f 5 = true → f 7 = true → v17 ≠ v19
  h8 : f 8 = true → v20 = .agg #[v12, v15, v17, v19]
  h9 : f 9 = true → f 10 = false → ∃ T, v6 = .pointer (some ⟨T, 0, none⟩) ∧ w0.heap.size ≤ T ∧ w.heap[T]? = some box0
  h10 : f 10 = true → ∃ T D H P, v6 = .pointer (some ⟨T, 0, none⟩) ∧ v15 = .slice (some ⟨D, 0, none⟩) n n ∧ v17 = .slice (some ⟨H, 0, none⟩) n n ∧ v19 = .slice (some ⟨P, 0, none⟩) n n ∧ w.heap[T]? = some (.cells #[.int .i64 (x : Int), .slice (some ⟨D, 0, none⟩) n n, .slice (some ⟨H, 0, none⟩) n n, .slice (some ⟨P, 0, none⟩) n n] 28 (0, 0)) ∧ T ≠ D ∧ T ≠ H ∧ T ≠ P ∧ w0.heap.size ≤ T
theorem StI.grow {w0 w w' : World} {x n : Nat} {f : Nat → Bool} {v6 v12 v13 v14 v15 v16 v17 v18 v19 v20 : Value} (h : StI w0 x n f w v6 v12 v13 v14 v15 v16 v17 v18 v19 v20) (hb : Below w.heap.size w w') : StI w0 x n f w' v6 v12 v13 v14 v15 v16 v17 v18 v19 v20 := by
  refine ⟨below_then h.b hb, h.h0, fun e => ?_, h.h2, fun e => ?_, h.h4, fun e => ?_, h.h6, fun e => ?_, h.h57, h.h8, fun e e' => ?_, fun e => ?_⟩
  · obtain ⟨b, h1, h2⟩ := h.h1 e; exact ⟨b, h1, carry hb h2⟩
  · obtain ⟨g, h1, h2, h3⟩ := h.h3 e; exact ⟨g, h1, h2, row_below h3 hb⟩
  · obtain ⟨g, h1, h2, h3⟩ := h.h5 e; exact ⟨g, h1, h2, (hb.block g (lt_block h3)).trans h3⟩
  · obtain ⟨g, h1, h2, h3⟩ := h.h7 e; exact ⟨g, h1, h2, (hb.block g (lt_block h3)).trans h3⟩
  · obtain ⟨g, h1, h2, h3⟩ := h.h9 e e'; exact ⟨g, h1, h2, (hb.block g (lt_block h3)).trans h3⟩
  · obtain ⟨T, D, H, P, h1, h2, h3, h4, h5, h6⟩ := h.h10 e; exact ⟨T, D, H, P, h1, h2, h3, h4, (hb.block T (lt_block h5)).trans h5, h6⟩
section
variable {w0 w w' : World} {x n : Nat} {f : Nat → Bool} {v6 v12 v13 v14 v15 v16 v17 v18 v19 v20 : Value}
theorem StI.s0 (h : StI w0 x n f w v6 v12 v13 v14 v15 v16 v17 v18 v19 v20) (h8 : f 8 = false) (h10 : f 10 = false) : StI w0 x n (updB f 0) w v6 (.int .i64 (x : Int)) v13 v14 v15 v16 v17 v18 v19 v20 :=
  ⟨h.b, fun _ => rfl, h.h1, h.h2, h.h3, h.h4, h.h5, h.h6, h.h7, h.h57, fun e => (by rw [updB_ne f (by decide), h8] at e; cases e), h.h9, fun e => (by rw [updB_ne f (by decide), h10] at e; cases e)⟩
theorem StI.s1 (h : StI w0 x n f w v6 v12 v13 v14 v15 v16 v17 v18 v19 v20) : StI w0 x n (updB f 1) (w.alloc (.cells #[.int .i64 (-1)] 3)) v6 v12 (.slice (some ⟨w.heap.size, 0, none⟩) 1 1) v14 v15 v16 v17 v18 v19 v20 := by
  have g := h.grow (below_alloc w (.cells #[.int .i64 (-1)] 3))
  exact ⟨g.b, g.h0, fun _ => ⟨_, rfl, by simp⟩, g.h2, g.h3, g.h4, g.h5, g.h6, g.h7, g.h57, g.h8, g.h9, g.h10⟩
theorem StI.s2 (h : StI w0 x n f w v6 v12 v13 v14 v15 v16 v17 v18 v19 v20) : StI w0 x n (updB f 2) w v6 v12 v13 (.int .i64 (n : Int)) v15 v16 v17 v18 v19 v20 :=
  ⟨h.b, h.h0, h.h1, fun _ => rfl, h.h3, h.h4, h.h5, h.h6, h.h7, h.h57, h.h8, h.h9, h.h10⟩
theorem StI.s3 (h : StI w0 x n f w v6 v12 v13 v14 v15 v16 v17 v18 v19 v20) (h8 : f 8 = false) (h10 : f 10 = false) {g : Nat} (hg : w.heap.size ≤ g) (ho : w'.ownsRow 0 3 1 (.slice (some ⟨g, 0, none⟩) n n) n (ints (List.replicate n (-1)))) (hb : Below w.heap.size w w') :
    StI w0 x n (updB f 3) w' v6 v12 v13 v14 (.slice (some ⟨g, 0, none⟩) n n) v16 v17 v18 v19 v20 := by
  have k := h.grow hb
  exact ⟨k.b, k.h0, k.h1, k.h2, fun _ => ⟨g, rfl, Nat.le_trans h.b.size hg, ho⟩, k.h4, k.h5, k.h6, k.h7, k.h57, fun e => (by rw [updB_ne f (by decide), h8] at e; cases e), k.h9, fun e => (by rw [updB_ne f (by decide), h10] at e; cases e)⟩
theorem StI.s4 (h : StI w0 x n f w v6 v12 v13 v14 v15 v16 v17 v18 v19 v20) : StI w0 x n (updB f 4) w v6 v12 v13 v14 v15 (.int .i64 (n : Int)) v17 v18 v19 v20 :=
  ⟨h.b, h.h0, h.h1, h.h2, h.h3, fun _ => rfl, h.h5, h.h6, h.h7, h.h57, h.h8, h.h9, h.h10⟩
theorem StI.s5 (h : StI w0 x n f w v6 v12 v13 v14 v15 v16 v17 v18 v19 v20) (h8 : f 8 = false) (h10 : f 10 = false) : StI w0 x n (updB f 5) (w.alloc (.cells (madeCells #[.slice none 0 0] n) 25)) v6 v12 v13 v14 v15 v16 (.slice (some ⟨w.heap.size, 0, none⟩) n n) v18 v19 v20 := by
  have k := h.grow (below_alloc w (.cells (madeCells #[.slice none 0 0] n) 25))
  refine ⟨k.b, k.h0, k.h1, k.h2, k.h3, k.h4, fun _ => ⟨_, rfl, h.b.size, heap_alloc_new _ _⟩, k.h6, k.h7, fun _ e e' => ?_, fun e => (by rw [updB_ne f (by decide), h8] at e; cases e), k.h9, fun e => (by rw [updB_ne f (by decide), h10] at e; cases e)⟩
  obtain ⟨g, h1, _, h3⟩ := h.h7 e
  rw [h1] at e'; injection e' with e1; injection e1 with e1; injection e1 with e1; have := lt_block h3; omega
theorem StI.s6 (h : StI w0 x n f w v6 v12 v13 v14 v15 v16 v17 v18 v19 v20) : StI w0 x n (updB f 6) w v6 v12 v13 v14 v15 v16 v17 (.int .i64 (n : Int)) v19 v20 :=
  ⟨h.b, h.h0, h.h1, h.h2, h.h3, h.h4, h.h5, fun _ => rfl, h.h7, h.h57, h.h8, h.h9, h.h10⟩
theorem StI.s7 (h : StI w0 x n f w v6 v12 v13 v14 v15 v16 v17 v18 v19 v20) (h8 : f 8 = false) (h10 : f 10 = false) : StI w0 x n (updB f 7) (w.alloc (.cells (madeCells #[.slice none 0 0] n) 25)) v6 v12 v13 v14 v15 v16 v17 v18 (.slice (some ⟨w.heap.size, 0, none⟩) n n) v20 := by
  have k := h.grow (below_alloc w (.cells (madeCells #[.slice none 0 0] n) 25))
  refine ⟨k.b, k.h0, k.h1, k.h2, k.h3, k.h4, k.h5, k.h6, fun _ => ⟨_, rfl, h.b.size, heap_alloc_new _ _⟩, fun e _ e' => ?_, fun e => (by rw [updB_ne f (by decide), h8] at e; cases e), k.h9, fun e => (by rw [updB_ne f (by decide), h10] at e; cases e)⟩
  obtain ⟨g, h1, _, h3⟩ := h.h5 e
  rw [h1] at e'; injection e' with e1; injection e1 with e1; injection e1 with e1; have := lt_block h3; omega
theorem StI.s8 (h : StI w0 x n f w v6 v12 v13 v14 v15 v16 v17 v18 v19 v20) : StI w0 x n (updB f 8) w v6 v12 v13 v14 v15 v16 v17 v18 v19 (.agg #[v12, v15, v17, v19]) :=
  ⟨h.b, h.h0, h.h1, h.h2, h.h3, h.h4, h.h5, h.h6, h.h7, h.h57, fun _ => rfl, h.h9, h.h10⟩
theorem StI.s10 {g3 g5 g7 T : Nat} (h : StI w0 x n f w (.pointer (some ⟨T, 0, none⟩)) (.int .i64 (x : Int)) v13 v14 (.slice (some ⟨g3, 0, none⟩) n n) v16 (.slice (some ⟨g5, 0, none⟩) n n) v18 (.slice (some ⟨g7, 0, none⟩) n n) v20) (oT : w.heap[T]? = some box0) (lT : w0.heap.size ≤ T) (o3 : w.ownsRow 0 3 1 (.slice (some ⟨g3, 0, none⟩) n n) n (ints (List.replicate n (-1)))) (o5 : w.heap[g5]? = some (zrow n)) (o7 : w.heap[g7]? = some (zrow n)) (h1 : f 1 = true) (h3 : f 3 = true) (h5 : f 5 = true) (h7 : f 7 = true) :
    StI w0 x n (updB f 10) ((((w.setCell ⟨T, 0, none⟩ (.int .i64 (x : Int))).setCell ⟨T, 1, none⟩ (.slice (some ⟨g3, 0, none⟩) n n)).setCell ⟨T, 2, none⟩ (.slice (some ⟨g5, 0, none⟩) n n)).setCell ⟨T, 3, none⟩ (.slice (some ⟨g7, 0, none⟩) n n)) (.pointer (some ⟨T, 0, none⟩)) (.int .i64 (x : Int)) v13 v14 (.slice (some ⟨g3, 0, none⟩) n n) v16 (.slice (some ⟨g5, 0, none⟩) n n) v18 (.slice (some ⟨g7, 0, none⟩) n n) v20 := by
  have n3 : g3 ≠ T := fun e => by
    subst e
    rcases o3.2 with ⟨h', _⟩ | ⟨g', cap', cur, h', _, hg, _⟩
    · cases h'
    · injection h' with e1; injection e1 with e1; injection e1 with e1; subst e1
      rw [oT] at hg; simp [box0] at hg
  have n5 : g5 ≠ T := fun e => by subst e; rw [oT] at o5; simp [box0, zrow] at o5
  have n7 : g7 ≠ T := fun e => by subst e; rw [oT] at o7; simp [box0, zrow] at o7
  have hk : ∀ k, k ≠ T → ((((w.setCell ⟨T, 0, none⟩ (.int .i64 (x : Int))).setCell ⟨T, 1, none⟩ (.slice (some ⟨g3, 0, none⟩) n n)).setCell ⟨T, 2, none⟩ (.slice (some ⟨g5, 0, none⟩) n n)).setCell ⟨T, 3, none⟩ (.slice (some ⟨g7, 0, none⟩) n n)).heap[k]? = w.heap[k]? := fun k hk => by
    rw [heap_set_ne hk, heap_set_ne hk, heap_set_ne hk, heap_set_ne hk]
  refine ⟨(((h.b.setCell lT _).setCell lT _).setCell lT _).setCell lT _, h.h0, fun e => ?_, h.h2, fun e => ?_, h.h4, fun e => ?_, h.h6, fun e => ?_, h.h57, h.h8, fun _ e => (by rw [updB_same] at e; cases e), fun _ => ⟨T, g3, g5, g7, rfl, rfl, rfl, rfl, ?_, Ne.symm n3, Ne.symm n5, Ne.symm n7, lT⟩⟩
  · obtain ⟨b, e1, e2⟩ := h.h1 h1
    have nb : b ≠ T := fun e => by
      subst e
      have := cell_of oT (o := 0) rfl
      rw [e2] at this; cases this
    exact ⟨b, e1, (World.cell?_of_block (hk b nb)).trans e2⟩
  · obtain ⟨g, e1, e2, e3⟩ := h.h3 h3
    injection e1 with e1; injection e1 with e1; injection e1 with e1; subst e1
    exact ⟨g3, rfl, e2, row_congr e3 fun g hg => by simp [Value.ownBlock] at hg; subst hg; exact hk _ n3⟩
  · obtain ⟨g, e1, e2, e3⟩ := h.h5 h5
    injection e1 with e1; injection e1 with e1; injection e1 with e1; subst e1
    exact ⟨g5, rfl, e2, (hk _ n5).trans e3⟩
  · obtain ⟨g, e1, e2, e3⟩ := h.h7 h7
    injection e1 with e1; injection e1 with e1; injection e1 with e1; subst e1
    exact ⟨g7, rfl, e2, (hk _ n7).trans e3⟩
  · rw [heap_set_eq (heap_set_eq (heap_set_eq (heap_set_eq oT)))]
    rfl
theorem StI.s9 (h : StI w0 x n f w v6 v12 v13 v14 v15 v16 v17 v18 v19 v20) (h10 : f 10 = false) : StI w0 x n (updB f 9) (w.alloc box0) (.pointer (some ⟨w.heap.size, 0, none⟩)) v12 v13 v14 v15 v16 v17 v18 v19 v20 := by
  have k := h.grow (below_alloc w box0)
  exact ⟨k.b, k.h0, k.h1, k.h2, k.h3, k.h4, k.h5, k.h6, k.h7, k.h57, k.h8, fun _ _ => ⟨_, rfl, h.b.size, heap_alloc_new _ _⟩, fun e => (by rw [updB_ne f (by decide), h10] at e; cases e)⟩
end
def StK (f : Nat → Bool) : Prop := (f 8 = true → f 0 = true ∧ f 3 = true ∧ f 5 = true ∧ f 7 = true) ∧ (f 10 = true → f 8 = true ∧ f 9 = true)
theorem updB_up {f : Nat → Bool} {i j : Nat} (h : f j = true) : updB f i j = true := by unfold updB; split; rfl; exact h
theorem StK.up {f : Nat → Bool} (h : StK f) {i : Nat} (h8 : i ≠ 8) (h10 : i ≠ 10) : StK (updB f i) := by
  refine ⟨fun e => ?_, fun e => ?_⟩
  · rw [updB_ne f (Ne.symm h8)] at e; obtain ⟨a, b, c, d⟩ := h.1 e; exact ⟨updB_up a, updB_up b, updB_up c, updB_up d⟩
  · rw [updB_ne f (Ne.symm h10)] at e; obtain ⟨a, b⟩ := h.2 e; exact ⟨updB_up a, updB_up b⟩
theorem StK.n8 {f : Nat → Bool} (h : StK f) (hn : ¬ (f 0 = true ∧ f 3 = true ∧ f 5 = true ∧ f 7 = true)) : f 8 = false ∧ f 10 = false := by
  have h8 : f 8 = false := by
    cases e : f 8 with
    | false => rfl
    | true => exact absurd (h.1 e) hn
  refine ⟨h8, ?_⟩
  cases e : f 10 with
  | false => rfl
  | true => rw [(h.2 e).1] at h8; cases h8
theorem StK.n10 {f : Nat → Bool} (h : StK f) (hn : f 9 = false) : f 10 = false := by
  cases e : f 10 with
  | false => rfl
  | true => rw [(h.2 e).2] at hn; cases hn
theorem start_any (R N : Int) (s : Value) (x n : Nat) (w : World) (hR : 0 ≤ R) (hN : 0 ≤ N) (hs : R + N ≤ 128) (hn : (n : Int) = R + N) (hx : x < n) :
    Calls Try.prog 43 #[.agg #[.int .i64 R, .int .i64 N, s], .int .i64 (x : Int)] w (StQ w (x : Int) x n) := by
  have HP : Hid (∀ W b, W.cell? ⟨b, 0, none⟩ = some (.int .i64 (-1)) → b < W.heap.size → Calls Try.prog 55 #[.slice (some ⟨b, 0, none⟩) 1 1, .int .i64 (n : Int)] W fun e w' => ∃ g, e = .returned (.slice (some ⟨g, 0, none⟩) n n) ∧ W.heap.size ≤ g ∧ w'.ownsRow 0 3 1 (.slice (some ⟨g, 0, none⟩) n n) n (ints (List.replicate n (-1))) ∧ Below W.heap.size W w') := fun W b h1 h2 => repeat_any W b n (by omega) (by omega) h1 h2
  have hmk := make_rowsI n (by omega)
  have hn1 : R + N = (n : Int) := hn.symm
  have HN := Lib.hid hn
  clear hn
  go_enter Try.func43, Try.ntmps43
  go_wp2_with fail
  refine wp_region_inv (by kernel_rfl) (ord_of (by kernel_rfl)) (fun f a W => ∃ v6 v12 v13 v14 v15 v16 v17 v18 v19 v20, a = { tmps := #[.agg #[.int .i64 R, .int .i64 N, s], .int .i64 (x : Int), .pointer (some ⟨w.heap.size, 0, none⟩), undef, .pointer (some ⟨w.heap.size + 1, 0, none⟩), .int .i64 (n : Int), v6, .pointer (some ⟨w.heap.size, 0, none⟩), .int .i64 R, .pointer (some ⟨w.heap.size, 1, none⟩), .int .i64 N, .int .i64 (n : Int), v12, v13, v14, v15, v16, v17, v18, v19, v20, undef, undef, undef, undef, undef], defers := [] } ∧
      StI ((w.alloc (.cells #[.int .i64 R, .int .i64 N, s] 24)).alloc box0) x n f W v6 v12 v13 v14 v15 v16 v17 v18 v19 v20 ∧ StK f) ?_ ?_ ?_
  · intro f a W i o ho hI hfi hdep
    obtain ⟨v6, v12, v13, v14, v15, v16, v17, v18, v19, v20, rfl, hS, hKK⟩ := hI
    have HS := Lib.hid hS
    have HK := Lib.hid hKK
    clear hS hKK
    have hi : i < 11 := (Array.getElem?_eq_some_iff.1 ho).1
    rcases (by omega : i = 0 ∨ i = 1 ∨ i = 2 ∨ i = 3 ∨ i = 4 ∨ i = 5 ∨ i = 6 ∨ i = 7 ∨ i = 8 ∨ i = 9 ∨ i = 10) with rfl | rfl | rfl | rfl | rfl | rfl | rfl | rfl | rfl | rfl | rfl
    · have hn := HK.out.n8 (fun e => by rw [hfi] at e; cases e.1)
      refine wpOp_step rfl (fun K hK => ?_)
      go_simp
      exact hK _ _ ⟨_, _, _, _, _, _, _, _, _, _, rfl, HS.out.s0 hn.1 hn.2, HK.out.up (by decide) (by decide)⟩
    · skip
      refine wpOp_step rfl (fun K hK => ?_)
      go_simp
      exact hK _ _ ⟨_, _, _, _, _, _, _, _, _, _, rfl, HS.out.s1, HK.out.up (by decide) (by decide)⟩
    · skip
      refine wpOp_step rfl (fun K hK => ?_)
      go_simp
      exact hK _ _ ⟨_, _, _, _, _, _, _, _, _, _, rfl, HS.out.s2, HK.out.up (by decide) (by decide)⟩
    · have hn := HK.out.n8 (fun e => by rw [hfi] at e; cases e.2.1)
      obtain rfl := Option.some.inj ho
      have d1 : f 1 = true := hdep ⟨1, .data⟩ (by simp) rfl
      have d2 : f 2 = true := hdep ⟨2, .data⟩ (by simp) rfl
      obtain ⟨b, rfl, hb⟩ := HS.out.h1 d1
      obtain rfl := HS.out.h2 d2
      have HC := Lib.hid (HP.out W b hb (World.block_lt_of_cell? _ _ hb))
      clear hb hdep ho
      refine wpOp_step rfl (fun K hK => ?_)
      go_simp
      go_at_call 55
      refine HC.out.mono ?_
      rintro e w1 ⟨g, rfl, h1, h2, h3⟩
      exact hK _ _ ⟨_, _, _, _, _, _, _, _, _, _, rfl, HS.out.s3 hn.1 hn.2 h1 h2 h3, HK.out.up (by decide) (by decide)⟩
    · skip
      refine wpOp_step rfl (fun K hK => ?_)
      go_simp
      exact hK _ _ ⟨_, _, _, _, _, _, _, _, _, _, rfl, HS.out.s4, HK.out.up (by decide) (by decide)⟩
    · have hn := HK.out.n8 (fun e => by rw [hfi] at e; cases e.2.2.1)
      obtain rfl := Option.some.inj ho
      have d4 : f 4 = true := hdep ⟨4, .data⟩ (by simp) rfl
      obtain rfl := HS.out.h4 d4
      clear hdep ho
      refine wpOp_step rfl (fun K hK => ?_)
      go_simp
      exact hK _ _ ⟨_, _, _, _, _, _, _, _, _, _, rfl, HS.out.s5 hn.1 hn.2, HK.out.up (by decide) (by decide)⟩
    · skip
      refine wpOp_step rfl (fun K hK => ?_)
      go_simp
      exact hK _ _ ⟨_, _, _, _, _, _, _, _, _, _, rfl, HS.out.s6, HK.out.up (by decide) (by decide)⟩
    · have hn := HK.out.n8 (fun e => by rw [hfi] at e; cases e.2.2.2)
      obtain rfl := Option.some.inj ho
      have d6 : f 6 = true := hdep ⟨6, .data⟩ (by simp) rfl
      obtain rfl := HS.out.h6 d6
      clear hdep ho
      refine wpOp_step rfl (fun K hK => ?_)
      go_simp
      exact hK _ _ ⟨_, _, _, _, _, _, _, _, _, _, rfl, HS.out.s7 hn.1 hn.2, HK.out.up (by decide) (by decide)⟩
    · obtain rfl := Option.some.inj ho
      have d0 : f 0 = true := hdep ⟨0, .data⟩ (by simp) rfl
      have d3 : f 3 = true := hdep ⟨3, .data⟩ (by simp) rfl
      have d5 : f 5 = true := hdep ⟨5, .data⟩ (by simp) rfl
      have d7 : f 7 = true := hdep ⟨7, .data⟩ (by simp) rfl
      have HK8 : Hid (StK (updB f 8)) := ⟨fun _ => ⟨updB_up d0, updB_up d3, updB_up d5, updB_up d7⟩, fun e => (by rw [updB_ne f (by decide)] at e; have := (HK.out.2 e).1; rw [hfi] at this; cases this)⟩
      obtain rfl := HS.out.h0 d0
      obtain ⟨g3, rfl, _⟩ := HS.out.h3 d3
      obtain ⟨g5, rfl, _⟩ := HS.out.h5 d5
      obtain ⟨g7, rfl, _⟩ := HS.out.h7 d7
      clear hdep ho
      refine wpOp_step rfl (fun K hK => ?_)
      go_simp
      exact hK _ _ ⟨_, _, _, _, _, _, _, _, _, _, rfl, HS.out.s8, HK8.out⟩
    · have hn := HK.out.n10 hfi
      refine wpOp_step rfl (fun K hK => ?_)
      go_simp
      exact hK _ _ ⟨_, _, _, _, _, _, _, _, _, _, rfl, HS.out.s9 hn, HK.out.up (by decide) (by decide)⟩
    · obtain rfl := Option.some.inj ho
      have dd : ∀ j, j < 10 → f j = true := fun j hj => by
        rcases (by omega : j = 0 ∨ j = 1 ∨ j = 2 ∨ j = 3 ∨ j = 4 ∨ j = 5 ∨ j = 6 ∨ j = 7 ∨ j = 8 ∨ j = 9) with rfl | rfl | rfl | rfl | rfl | rfl | rfl | rfl | rfl | rfl
        · exact hdep ⟨0, .phase⟩ (by simp) rfl
        · exact hdep ⟨1, .phase⟩ (by simp) rfl
        · exact hdep ⟨2, .phase⟩ (by simp) rfl
        · exact hdep ⟨3, .phase⟩ (by simp) rfl
        · exact hdep ⟨4, .phase⟩ (by simp) rfl
        · exact hdep ⟨5, .phase⟩ (by simp) rfl
        · exact hdep ⟨6, .phase⟩ (by simp) rfl
        · exact hdep ⟨7, .phase⟩ (by simp) rfl
        · exact hdep ⟨8, .phase⟩ (by simp) rfl
        · exact hdep ⟨9, .phase⟩ (by simp) rfl
      have HK10 : Hid (StK (updB f 10)) := ⟨fun _ => ⟨updB_up (dd 0 (by decide)), updB_up (dd 3 (by decide)), updB_up (dd 5 (by decide)), updB_up (dd 7 (by decide))⟩, fun _ => ⟨updB_up (dd 8 (by decide)), updB_up (dd 9 (by decide))⟩⟩
      have e8 := HS.out.h8 (dd 8 (by decide))
      subst e8
      obtain rfl := HS.out.h0 (dd 0 (by decide))
      obtain ⟨g3, rfl, l3, o3⟩ := HS.out.h3 (dd 3 (by decide))
      obtain ⟨g5, rfl, l5, o5⟩ := HS.out.h5 (dd 5 (by decide))
      obtain ⟨g7, rfl, l7, o7⟩ := HS.out.h7 (dd 7 (by decide))
      obtain ⟨T, rfl, lT, oT⟩ := HS.out.h9 (dd 9 (by decide)) hfi
      have HS10 := Lib.hid (HS.out.s10 oT lT o3 o5 o7 (dd 1 (by decide)) (dd 3 (by decide)) (dd 5 (by decide)) (dd 7 (by decide)))
      have c0 : W.cell? ⟨T, 0, none⟩ = some (.int .i64 0) := cell_of oT rfl
      have c1 : W.cell? ⟨T, 1, none⟩ = some (.slice none 0 0) := cell_of oT rfl
      have c2 : W.cell? ⟨T, 2, none⟩ = some (.slice none 0 0) := cell_of oT rfl
      have c3 : W.cell? ⟨T, 3, none⟩ = some (.slice none 0 0) := cell_of oT rfl
      have z := free_of oT
      clear hdep ho o3 o5 o7 oT l3 l5 l7 lT
      refine wpOp_step rfl (fun K hK => ?_)
      go_simp
      exact hK _ _ ⟨_, _, _, _, _, _, _, _, _, _, rfl, HS10.out, HK10.out⟩
  · intro f a W hI hall
    obtain ⟨v6, v12, v13, v14, v15, v16, v17, v18, v19, v20, rfl, hS, hKK⟩ := hI
    have hall' : ∀ i, i < 11 → f i = true := hall
    obtain ⟨T, D, H, P, rfl, rfl, rfl, rfl, oT, tD, tH, tP, lT⟩ := hS.h10 (hall' 10 (by decide))
    obtain ⟨D', eD, lD, oD⟩ := hS.h3 (hall' 3 (by decide))
    injection eD with eD; injection eD with eD; injection eD with eD; subst eD
    obtain ⟨H', eH, lH, oH⟩ := hS.h5 (hall' 5 (by decide))
    injection eH with eH; injection eH with eH; injection eH with eH; subst eH
    obtain ⟨P', eP, lP, oP⟩ := hS.h7 (hall' 7 (by decide))
    injection eP with eP; injection eP with eP; injection eP with eP; subst eP
    have hHP : H ≠ P := fun e => hS.h57 (hall' 5 (by decide)) (hall' 7 (by decide)) (by rw [e])
    have hDne : ∀ g, W.heap[g]? = some (zrow n) → D ≠ g := fun g hg e => by
      subst e
      rcases oD.2 with ⟨h', _⟩ | ⟨g', cap', cur, h', _, hg', _⟩
      · cases h'
      · injection h' with e1; injection e1 with e1; injection e1 with e1; subst e1
        rw [hg] at hg'; simp [zrow] at hg'
    have dH := hDne H oH
    have dP := hDne P oP
    have rH : W.ownsRow 0 25 1 (.slice (some ⟨H, 0, none⟩) n n) n (List.replicate n (.slice none 0 0)) := ⟨by simp, .inr ⟨H, n, _, rfl, Nat.zero_le _, oH, Nat.le_refl _, by unfold maxLen; omega, by rw [size_madeCells]; simp, by rw [toList_madeCells_one, List.take_of_length_le (by simp)]⟩⟩
    have rP : W.ownsRow 0 25 1 (.slice (some ⟨P, 0, none⟩) n n) n (List.replicate n (.slice none 0 0)) := ⟨by simp, .inr ⟨P, n, _, rfl, Nat.zero_le _, oP, Nat.le_refl _, by unfold maxLen; omega, by rw [size_madeCells]; simp, by rw [toList_madeCells_one, List.take_of_length_le (by simp)]⟩⟩
    have eN : ∀ v, gVl (List.replicate n (.slice none 0 0)) v = .slice none 0 0 := fun v => by
      unfold gVl; rw [List.getElem?_replicate]; split <;> rfl
    have bN : ∀ g, g ∉ rblk (List.replicate n (Value.slice none 0 0)) := fun g hg => by
      obtain ⟨v, _, h2⟩ := mem_rblk.1 hg
      rw [eN] at h2; cases h2
    have hTR : TR W D H P n (List.replicate n (-1)) (List.replicate n (.slice none 0 0)) (List.replicate n (.slice none 0 0)) (List.replicate n []) (List.replicate n []) :=
      ⟨oD, rH, rP, RS.nils _ _, RS.nils _ _, dH, dP, hHP, fun g hg => absurd hg (bN g), fun g hg => absurd hg (bN g), fun g hg => absurd hg (bN g)⟩
    have hsz0 : ((w.alloc (.cells #[.int .i64 R, .int .i64 N, s] 24)).alloc box0).heap.size = w.heap.size + 2 := by simp
    rw [hsz0] at lT lD lH lP
    have c0 : W.cell? ⟨T, 0, none⟩ = some (.int .i64 (x : Int)) := cell_of oT rfl
    have c1 : W.cell? ⟨T, 1, none⟩ = some (.slice (some ⟨D, 0, none⟩) n n) := cell_of oT rfl
    have c2 : W.cell? ⟨T, 2, none⟩ = some (.slice (some ⟨H, 0, none⟩) n n) := cell_of oT rfl
    have c3 : W.cell? ⟨T, 3, none⟩ = some (.slice (some ⟨P, 0, none⟩) n n) := cell_of oT rfl
    have cD := hTR.cd hx
    have zD := hTR.fd x
    have oR : W.heap[w.heap.size + 1]? = some box0 := (hS.b.block _ (by simp)).trans (by
      rw [show w.heap.size + 1 = (w.alloc (.cells #[.int .i64 R, .int .i64 N, s] 24)).heap.size by simp]; exact heap_alloc_new _ _)
    have r0 : W.cell? ⟨w.heap.size + 1, 0, none⟩ = some (.int .i64 0) := cell_of oR rfl
    have r1 : W.cell? ⟨w.heap.size + 1, 1, none⟩ = some (.slice none 0 0) := cell_of oR rfl
    have r2 : W.cell? ⟨w.heap.size + 1, 2, none⟩ = some (.slice none 0 0) := cell_of oR rfl
    have r3 : W.cell? ⟨w.heap.size + 1, 3, none⟩ = some (.slice none 0 0) := cell_of oR rfl
    have rz := free_of oR
    have nDT : D ≠ T := Ne.symm tD
    have nDR : D ≠ w.heap.size + 1 := by omega
    have x0 : (0 : Int) ≤ (x : Int) := by omega
    have x1 : (x : Int) < (n : Int) := by omega
    have HTR := Lib.hid hTR
    have HB := Lib.hid (below_then (below_then (below_alloc w (.cells #[.int .i64 R, .int .i64 N, s] 24)) (below_alloc _ box0)) hS.b)
    have HL := Lib.hid (And.intro lD (And.intro lH lP))
    have HOR := Lib.hid oR
    clear hS hKK hall hall' oT oD oH oP rH rP bN hTR eN hDne oR hsz0 tD tH tP
    generalize gI (List.replicate n (-1)) x = d0 at cD
    go_wp2_with fail
    have HF : Hid (TR (((((W.setCell ⟨D, x, none⟩ (.int .i64 0)).setCell ⟨w.heap.size + 1, 0, none⟩ (.int .i64 (x : Int))).setCell ⟨w.heap.size + 1, 1, none⟩ (.slice (some ⟨D, 0, none⟩) n n)).setCell ⟨w.heap.size + 1, 2, none⟩ (.slice (some ⟨H, 0, none⟩) n n)).setCell ⟨w.heap.size + 1, 3, none⟩ (.slice (some ⟨P, 0, none⟩) n n)) D H P n ((List.replicate n (-1)).set x 0) (List.replicate n (.slice none 0 0)) (List.replicate n (.slice none 0 0)) (List.replicate n []) (List.replicate n []) ∧ Below w.heap.size w (((((W.setCell ⟨D, x, none⟩ (.int .i64 0)).setCell ⟨w.heap.size + 1, 0, none⟩ (.int .i64 (x : Int))).setCell ⟨w.heap.size + 1, 1, none⟩ (.slice (some ⟨D, 0, none⟩) n n)).setCell ⟨w.heap.size + 1, 2, none⟩ (.slice (some ⟨H, 0, none⟩) n n)).setCell ⟨w.heap.size + 1, 3, none⟩ (.slice (some ⟨P, 0, none⟩) n n)) ∧ (((((W.setCell ⟨D, x, none⟩ (.int .i64 0)).setCell ⟨w.heap.size + 1, 0, none⟩ (.int .i64 (x : Int))).setCell ⟨w.heap.size + 1, 1, none⟩ (.slice (some ⟨D, 0, none⟩) n n)).setCell ⟨w.heap.size + 1, 2, none⟩ (.slice (some ⟨H, 0, none⟩) n n)).setCell ⟨w.heap.size + 1, 3, none⟩ (.slice (some ⟨P, 0, none⟩) n n)).heap[w.heap.size + 1]? = some (.cells #[.int .i64 (x : Int), .slice (some ⟨D, 0, none⟩) n n, .slice (some ⟨H, 0, none⟩) n n, .slice (some ⟨P, 0, none⟩) n n] 28 (0, 0))) := by
      obtain ⟨lD, lH, lP⟩ := HL.out
      have nl : w.heap.size ≤ w.heap.size + 1 := by omega
      refine ⟨(HTR.out.setD x 0).congr fun g hg => ?_, ((((HB.out.setCell (by dsimp only; omega) _).setCell nl _).setCell nl _).setCell nl _).setCell nl _, ?_⟩
      · have hg1 : g ≠ w.heap.size + 1 := by
          have eN : ∀ v, gVl (List.replicate n (.slice none 0 0)) v = .slice none 0 0 := fun v => by
            unfold gVl; rw [List.getElem?_replicate]; split <;> rfl
          have bN : ∀ g, g ∉ rblk (List.replicate n (Value.slice none 0 0)) := fun g hg => by
            obtain ⟨v, _, h2⟩ := mem_rblk.1 hg
            rw [eN] at h2; cases h2
          simp only [trB, List.mem_cons, List.mem_append] at hg
          rcases hg with rfl | rfl | rfl | hg | hg
          · omega
          · omega
          · omega
          · exact absurd hg (bN g)
          · exact absurd hg (bN g)
        rw [heap_set_ne hg1, heap_set_ne hg1, heap_set_ne hg1, heap_set_ne hg1]
      · rw [heap_set_eq (heap_set_eq (heap_set_eq (heap_set_eq ((heap_set_ne (Ne.symm nDR)).trans HOR.out))))]
        rfl
    clear c0 c1 c2 c3 cD zD r0 r1 r2 r3 rz HTR HB HOR
    generalize ((((W.setCell ⟨D, x, none⟩ (.int .i64 0)).setCell ⟨w.heap.size + 1, 0, none⟩ (.int .i64 (x : Int))).setCell ⟨w.heap.size + 1, 1, none⟩ (.slice (some ⟨D, 0, none⟩) n n)).setCell ⟨w.heap.size + 1, 2, none⟩ (.slice (some ⟨H, 0, none⟩) n n)).setCell ⟨w.heap.size + 1, 3, none⟩ (.slice (some ⟨P, 0, none⟩) n n) = Wf at *
    have q0 := cell_of HF.out.2.2 (o := 0) rfl
    have q1 := cell_of HF.out.2.2 (o := 1) rfl
    have q2 := cell_of HF.out.2.2 (o := 2) rfl
    have q3 := cell_of HF.out.2.2 (o := 3) rfl
    refine bodyPost_ret (v := treeV (x : Int) D H P n) (by simp [treeV, results, Try.results43, go_sem, q0, q1, q2, q3]) rfl ⟨D, H, P, rfl, ?_, HF.out.1, HF.out.2.1⟩
    obtain ⟨lD, lH, lP⟩ := HL.out
    exact ⟨by omega, by omega, by omega⟩
  · refine ⟨undef, undef, undef, undef, undef, undef, undef, undef, undef, undef, rfl, ⟨(Below.refl _ _).drew, fun e => (by cases e), fun e => (by cases e), fun e => (by cases e), fun e => (by cases e), fun e => (by cases e), fun e => (by cases e), fun e => (by cases e), fun e => (by cases e), fun e => (by cases e), fun e => (by cases e), fun e => (by cases e), fun e => (by cases e)⟩, fun e => (by cases e), fun e => (by cases e)⟩
end Go.Proofs.Ytmlpbhankgojpaa
