/-
  A result that a closure appends to: its box, its row, and what stays as it was.
-/
import Derived.Test.YtegponbmelgngaaCvBase
import Derived.Test.YtegponbmelgngaaSpA
import Derived.Test.YtegponbmelgngaaTrieMem
import Derived.Deep.AppendLies
namespace Go.Proofs.Ytegponbmelgngaa
open Go.RowKit
set_option linter.unusedSimpArgs false
set_option linter.unusedVariables false

/-- the blocks of K read as before -/
structure KC (K : Nat → Prop) (w w' : World) : Prop where
  os : w'.os = w.os
  tape : w'.tape = w.tape
  output : w'.output = w.output
  size : w.heap.size ≤ w'.heap.size
  block : ∀ k, K k → w'.heap[k]? = w.heap[k]?
theorem KC.refl (K : Nat → Prop) (w : World) : KC K w w := ⟨rfl, rfl, rfl, Nat.le_refl _, fun _ _ => rfl⟩
theorem KC.of_below {K : Nat → Prop} {w w' : World} (h : Below w.heap.size w w') (hK : ∀ k, K k → k < w.heap.size) : KC K w w' := ⟨h.os, h.tape, h.output, h.size, fun k hk => h.block k (hK k hk)⟩
theorem KC.trans {K : Nat → Prop} {a b c : World} (h : KC K a b) (k : KC K b c) : KC K a c :=
  ⟨k.os.trans h.os, k.tape.trans h.tape, k.output.trans h.output, Nat.le_trans h.size k.size, fun i hi => (k.block i hi).trans (h.block i hi)⟩
theorem KC.mono {K K' : Nat → Prop} {a b : World} (h : KC K' a b) (hs : ∀ k, K k → K' k) : KC K a b := ⟨h.os, h.tape, h.output, h.size, fun i hi => h.block i (hs i hi)⟩
theorem KC.carry {K : Nat → Prop} {a b : World} (h : KC K a b) {p : Addr} {v : Value} (hp : K p.block) (hc : a.cell? p = some v) : b.cell? p = some v := by
  rw [← hc]; exact World.cell?_of_block (h.block _ hp)
theorem KC.below {K : Nat → Prop} {a b : World} (h : KC K a b) {B : Nat} (hB : ∀ k, k < B → K k) : Below B a b := ⟨h.os, h.tape, h.output, h.size, fun k hk => h.block k (hB k hk)⟩

/-- the result's box at r holds a slice over a row of the call's own that reads as L; K's blocks are others -/
structure ResV (r : Nat) (K : Nat → Prop) (L : List PP) (v : Value) (W : World) : Prop where
  box : W.heap[r]? = some (.cells #[v] 22 (0, 0))
  row : W.ownsRow 0 28 2 v L.length (flat L)
  ne : v.ownBlock ≠ some r
  kr : ¬ K r
  kg : ∀ g, v.ownBlock = some g → ¬ K g
  klt : ∀ k, K k → k < W.heap.size
def ResI (r : Nat) (K : Nat → Prop) (L : List PP) (W : World) : Prop := ∃ v, ResV r K L v W
theorem ResV.below {r : Nat} {K : Nat → Prop} {L : List PP} {v : Value} {W W1 : World} (h : ResV r K L v W) (hb : Below W.heap.size W W1) : ResV r K L v W1 :=
  ⟨(hb.block r (lt_of_block h.box)).trans h.box, ownP_below h.row hb, h.ne, h.kr, h.kg, fun k hk => Nat.lt_of_lt_of_le (h.klt k hk) hb.size⟩
theorem ResI.below {r : Nat} {K : Nat → Prop} {L : List PP} {W W1 : World} (h : ResI r K L W) (hb : Below W.heap.size W W1) : ResI r K L W1 := h.imp fun v h => h.below hb
/-- K and the blocks that were made since -/
def More (K : Nat → Prop) (N M : Nat) (k : Nat) : Prop := K k ∨ (N ≤ k ∧ k < M)
theorem ResV.more {r : Nat} {K : Nat → Prop} {L : List PP} {v : Value} {W W1 : World} (h : ResV r K L v W) (hb : Below W.heap.size W W1) : ResV r (More K W.heap.size W1.heap.size) L v W1 := by
  have h' := h.below hb
  refine ⟨h'.box, h'.row, h'.ne, ?_, ?_, ?_⟩
  · rintro (hk | hk)
    · exact h.kr hk
    · have := lt_of_block h.box; omega
  · intro g hg
    rintro (hk | hk)
    · exact h.kg g hg hk
    · have := (ownP_lt h.row hg).2; omega
  · rintro k (hk | hk)
    · exact h'.klt k hk
    · exact hk.2
theorem ResI.more {r : Nat} {K : Nat → Prop} {L : List PP} {W W1 : World} (h : ResI r K L W) (hb : Below W.heap.size W W1) : ResI r (More K W.heap.size W1.heap.size) L W1 := h.imp fun v h => h.more hb
theorem ResV.less {r : Nat} {K K' : Nat → Prop} {L : List PP} {v : Value} {W : World} (h : ResV r K' L v W) (hs : ∀ k, K k → K' k) : ResV r K L v W :=
  ⟨h.box, h.row, h.ne, fun hk => h.kr (hs _ hk), fun g hg hk => h.kg g hg (hs _ hk), fun k hk => h.klt k (hs k hk)⟩
theorem ResI.less {r : Nat} {K K' : Nat → Prop} {L : List PP} {W : World} (h : ResI r K' L W) (hs : ∀ k, K k → K' k) : ResI r K L W := h.imp fun v h => h.less hs
theorem ResI.klt {r : Nat} {K : Nat → Prop} {L : List PP} {W : World} (h : ResI r K L W) : ∀ k, K k → k < W.heap.size := h.elim fun v h => h.klt
theorem ResV.cell {r : Nat} {K : Nat → Prop} {L : List PP} {v : Value} {W : World} (h : ResV r K L v W) : W.cell? ⟨r, 0, none⟩ = some v ∧ W.frozen? ⟨r, 0, none⟩ = false := ⟨cell_of_one h.box, free_of_one h.box⟩
theorem ResV.form {r : Nat} {K : Nat → Prop} {L : List PP} {v : Value} {W : World} (h : ResV r K L v W) : (v = .slice none 0 0 ∧ L = []) ∨ ∃ g cap, v = .slice (some ⟨g, 0, none⟩) L.length cap ∧ L.length ≤ cap ∧ g < W.heap.size := by
  rcases h.row.2 with ⟨rfl, hn⟩ | ⟨g, cap, cur, rfl, _, hg, hnc, _⟩
  · exact .inl ⟨rfl, List.length_eq_zero_iff.1 hn⟩
  · exact .inr ⟨g, cap, rfl, hnc, (Array.getElem?_eq_some_iff.1 hg).1⟩
/-- behind append and the store into the box -/
theorem ResV.push {r : Nat} {K : Nat → Prop} {L L' : List PP} {v : Value} {w w2 : World} {g cap : Nat} (h : ResV r K L v w)
    (h1 : w2.ownsRow 0 28 2 (.slice (some ⟨g, 0, none⟩) L'.length cap) L'.length (flat L')) (h2 : w.grownBy w2 v.ownBlock) (h3 : v.ownBlock = some g ∨ w.heap.size ≤ g) :
    ResI r K L' (w2.setCell ⟨r, 0, none⟩ (.slice (some ⟨g, 0, none⟩) L'.length cap)) ∧ KC K w (w2.setCell ⟨r, 0, none⟩ (.slice (some ⟨g, 0, none⟩) L'.length cap)) := by
  have hr := lt_of_block h.box
  have hgr : g ≠ r := by
    rintro rfl
    rcases h3 with h3 | h3
    · exact h.ne h3
    · omega
  have b0 : Below 0 w w2 := Below.grown (Below.refl 0 w) h2 (Nat.zero_le _) (fun _ _ => Nat.zero_le _)
  have hbr : w2.heap[r]? = some (.cells #[v] 22 (0, 0)) := (h2.block r hr (fun e => h.ne e.symm)).trans h.box
  refine ⟨⟨_, one_setCell hbr, ownsRow_setCell_other h1 (by simp [Value.ownBlock]; exact fun e => hgr e) _, by simp [Value.ownBlock]; exact hgr, h.kr, ?_, fun k hk => ?_⟩, b0.os, b0.tape, b0.output, by simpa using h2.size, fun k hk => ?_⟩
  · intro g' hg'
    simp [Value.ownBlock] at hg'
    subst hg'
    rcases h3 with h3 | h3
    · exact h.kg _ h3
    · intro hk; have := h.klt _ hk; omega
  · have := h.klt k hk; have := h2.size; simp; omega
  · have hkr : k ≠ r := fun e => h.kr (e ▸ hk)
    rw [heap_set_ne hkr, h2.block k (h.klt k hk) (fun e => h.kg k e.symm hk)]
/-- a slice whose cells lie in blocks of K -/
def RdK (K : Nat → Prop) (w : World) (v : Value) (l : List PP) : Prop :=
  ∃ ad cap, v = .slice ad l.length cap ∧ l.length ≤ cap ∧ ∀ k x, l[k]? = some x → ∃ b off, ad = some ⟨b, off, none⟩ ∧ K b ∧ w.cell? ⟨b, off + k * 2, none⟩ = some (.int .u32 (x.1 : Int)) ∧ w.cell? ⟨b, off + k * 2 + 1, none⟩ = some (.int .i64 x.2)
theorem RdK.kc {K : Nat → Prop} {w w' : World} {v : Value} {l : List PP} (h : RdK K w v l) (k : KC K w w') : RdK K w' v l := by
  obtain ⟨ad, cap, rfl, hcap, hc⟩ := h
  refine ⟨ad, cap, rfl, hcap, fun i x hi => ?_⟩
  obtain ⟨b, off, e, hK, h0, h1⟩ := hc i x hi
  exact ⟨b, off, e, hK, k.carry hK h0, k.carry hK h1⟩
theorem RdK.mono {K K' : Nat → Prop} {w : World} {v : Value} {l : List PP} (h : RdK K w v l) (hs : ∀ k, K k → K' k) : RdK K' w v l := by
  obtain ⟨ad, cap, rfl, hcap, hc⟩ := h
  refine ⟨ad, cap, rfl, hcap, fun i x hi => ?_⟩
  obtain ⟨b, off, e, hK, h0⟩ := hc i x hi
  exact ⟨b, off, e, hs b hK, h0⟩
theorem RdK.rd {K : Nat → Prop} {w : World} {v : Value} {l : List PP} (h : RdK K w v l) : Rd w v l := by
  obtain ⟨ad, cap, rfl, hcap, hc⟩ := h
  refine ⟨ad, cap, rfl, fun i x hi => ?_⟩
  obtain ⟨b, off, e, hK, h0, h1⟩ := hc i x hi
  exact ⟨b, off, e, World.block_lt_of_cell? _ _ h0, h0, h1⟩
theorem ResI.rd {r : Nat} {K : Nat → Prop} {L : List PP} {W : World} (h : ResI r K L W) : ∃ v, W.cell? ⟨r, 0, none⟩ = some v ∧ Rd W v L := h.elim fun v h => ⟨v, h.cell.1, rd_own h.row⟩
/-- an empty result -/
theorem resI_start {w : World} {r : Nat} {K : Nat → Prop} (hb : w.heap[r]? = some (.cells #[.slice none 0 0] 22 (0, 0))) (hr : ¬ K r) (hlt : ∀ k, K k → k < w.heap.size) : ResI r K [] w :=
  ⟨_, hb, World.ownsRow_nil _ _ _ _, by simp [Value.ownBlock], hr, fun g hg => by simp [Value.ownBlock] at hg, hlt⟩
/-- the addresses between two -/
def rngS (f l y : Nat) : Bool := decide (f ≤ y) && decide (y ≤ l)
theorem rngS_iff (f l y : Nat) : rngS f l y = true ↔ f ≤ y ∧ y ≤ l := by unfold rngS; simp
theorem nrmB_len {S : Nat → Bool} {k A : Nat} {B : List (Nat × Nat)} (h : CM.NrmB S k A B) : B.length + A ≤ A + 2 ^ k :=
  asc_len h.asc (fun x hx => (h.wi x hx).2) A (fun x hx => (h.wi x hx).1) (Nat.le_add_right _ _)
theorem one_twoP (a : Nat) (n : Int) : ∀ u ∈ [Value.int .u32 (a : Int), .int .i64 n], u.oneCell' = true := one_two a n
end Go.Proofs.Ytegponbmelgngaa
