/-
  How slices of entries are opened.
  How slices of entries are opened, with what is known of their values and capacity.
-/
import Derived.Test.YtegponbmelgngaaMgCe
import Derived.Test.YtegponbmelgngaaMgTd
import Derived.Test.YtegponbmelgngaaMgAk
section
namespace Go.Proofs.Ytegponbmelgngaa
set_option maxRecDepth 100000
set_option linter.unusedSimpArgs false
set_option linter.unusedVariables false
open Go.ChangeShapes Go.WideShapes Go.ChangeAt Go.RowKit Go.Joins
theorem cells51 : Try.prog.cellsOf 51 = 3 := by kernel_rfl
section
variable {H : Type} {enc : TypeId × Value → H} {w : World}
theorem trod_entry {base : Nat} {spare : Nat → Bool} {held : Bool} {n : Nat} {cs : List Value} {x : DataW H × List MemPlace} (h : DataW.trod enc Try.prog w base spare held n 51 cs = some x) :
    ∃ e : En, cs = [.int .u32 (e.1.1 : Int), .int .i64 e.1.2, .int .i64 e.2] ∧ e.1.1 < 4294967296 ∧ I64 e.1.2 := by
  obtain ⟨y0, y1, n', _, hlen, h0, h1⟩ := trod_struct2 Try.underlying51 h
  rw [cells51] at hlen
  match cs, hlen with
  | [c0, c1, c2], _ =>
    have h0' : DataW.trod enc Try.prog w base spare held n' 28 [c0, c1] = some y0 := by have := h0; dsimp only at this; rw [cells28] at this; exact this
    have h1' : DataW.trod enc Try.prog w base spare held n' 3 [c2] = some y1 := by have := h1; dsimp only at this; rw [cells3] at this; exact this
    obtain ⟨a, m, e0, ha, hm⟩ := trod_prefix h0'
    obtain ⟨y, e1, _, wy⟩ := DataW.trod_int Try.underlying3 h1'
    simp at e0 e1
    obtain ⟨rfl, rfl⟩ := e0
    subst e1
    exact ⟨((a, m), y), rfl, ha, hm⟩
theorem open_rdE {r : Reach} {b0 base : Nat} {spare : Nat → Bool} {held : Bool} {v : Value} {d : DataW H} {p : List MemPlace}
    (hv : Value.okWide Try.prog w r b0 56 v) (h : DataW.Trod enc Try.prog w base spare held 56 v d p) : ∃ l, RdE w v l ∧ Fit l := by
  obtain ⟨a0, len, cap, rfl⟩ := okWide_slice Try.underlying56 hv
  obtain ⟨fuel, hf⟩ := h
  rcases Deep.open_slice Try.underlying56 hf with ⟨hcs, _⟩ | ⟨a, len', cap', m, n, D, Pl, hcs, _, hl, hm, hmm, _, hi⟩
  · simp [Value.cells] at hcs
    obtain ⟨rfl, rfl, rfl⟩ := hcs
    exact ⟨[], rdE_nil w, fun x hx => (by cases hx)⟩
  · simp [Value.cells] at hcs
    obtain ⟨rfl, rfl, rfl⟩ := hcs
    have hle : len ≤ m := by rw [hmm]; split <;> omega
    have hx : ∀ i, i < len → ∃ x : En, (w.cell? (a.add (i * 3)) = some (.int .u32 (x.1.1 : Int)) ∧ w.cell? (a.add (i * 3 + 1)) = some (.int .i64 x.1.2) ∧ w.cell? (a.add (i * 3 + 2)) = some (.int .i64 x.2)) ∧ x.1.1 < 4294967296 ∧ I64 x.1.2 := by
      intro i him
      obtain ⟨cs', hc, ht⟩ := hi i (by omega)
      rw [cells51] at hc
      obtain ⟨_, hlen, hat⟩ := World.cells?_some hc
      obtain ⟨e, rfl, h1, h2⟩ := trod_entry ht
      have k0 := hat 0 (by omega)
      have k1 := hat 1 (by omega)
      have k2 := hat 2 (by omega)
      refine ⟨e, ⟨?_, ?_, ?_⟩, h1, h2⟩
      · rw [Deep.add_add] at k0; exact k0
      · rw [Deep.add_add] at k1; exact k1
      · rw [Deep.add_add] at k2; exact k2
    obtain ⟨Vf, hV⟩ := Deep.choose_lt hx
    refine ⟨(List.range len).map Vf, ⟨some a, cap, by simp, fun k x hk => ?_⟩, fun x hx' => ?_⟩
    · have hkl : k < len := by have := (List.getElem?_eq_some_iff.1 hk).1; simpa using this
      have e : x = Vf k := by simpa [hkl] using hk.symm
      subst e
      obtain ⟨⟨c0, c1, c2⟩, _⟩ := hV k hkl
      have hsp : a.spot = none := by simpa [Addr.add] using World.cell?_spot (hV 0 (by omega)).1.1
      obtain ⟨b, off, spot⟩ := a
      obtain rfl : spot = none := hsp
      rw [Addr.add_lit] at c0 c1 c2
      exact ⟨b, off, rfl, World.block_lt_of_cell? _ _ c0, c0, by rw [Nat.add_assoc]; exact c1, by rw [Nat.add_assoc]; exact c2⟩
    · obtain ⟨i, hi', rfl⟩ := List.mem_map.1 hx'
      exact (hV i (by simpa using hi')).2
end
end Go.Proofs.Ytegponbmelgngaa
end

section
namespace Go.Proofs.Ytegponbmelgngaa
set_option maxRecDepth 100000
set_option linter.unusedSimpArgs false
set_option linter.unusedVariables false
open Go.ChangeShapes Go.WideShapes Go.ChangeAt Go.RowKit Go.Joins
section
variable {H : Type} {enc : TypeId × Value → H} {w : World}
theorem trod_entryX {base : Nat} {spare : Nat → Bool} {held : Bool} {n : Nat} {cs : List Value} {x : DataW H × List MemPlace} (h : DataW.trod enc Try.prog w base spare held n 51 cs = some x) :
    ∃ e : En, cs = [.int .u32 (e.1.1 : Int), .int .i64 e.1.2, .int .i64 e.2] ∧ e.1.1 < 4294967296 ∧ I64 e.1.2 ∧ I64 e.2 := by
  obtain ⟨y0, y1, n', _, hlen, h0, h1⟩ := trod_struct2 Try.underlying51 h
  rw [cells51] at hlen
  match cs, hlen with
  | [c0, c1, c2], _ =>
    have h0' : DataW.trod enc Try.prog w base spare held n' 28 [c0, c1] = some y0 := by have := h0; dsimp only at this; rw [cells28] at this; exact this
    have h1' : DataW.trod enc Try.prog w base spare held n' 3 [c2] = some y1 := by have := h1; dsimp only at this; rw [cells3] at this; exact this
    obtain ⟨a, m, e0, ha, hm⟩ := trod_prefix h0'
    obtain ⟨y, e1, _, wy⟩ := DataW.trod_int Try.underlying3 h1'
    simp at e0 e1
    obtain ⟨rfl, rfl⟩ := e0
    subst e1
    exact ⟨((a, m), y), rfl, ha, hm, bounds_i64 wy⟩
theorem open_rdX {r : Reach} {b0 base : Nat} {spare : Nat → Bool} {held : Bool} {v : Value} {d : DataW H} {p : List MemPlace}
    (hv : Value.okWide Try.prog w r b0 56 v) (h : DataW.Trod enc Try.prog w base spare held 56 v d p) : ∃ l, RdE w v l ∧ FitE l ∧ NilE v ∧ CapE v := by
  obtain ⟨a0, len, cap, rfl⟩ := okWide_slice Try.underlying56 hv
  obtain ⟨fuel, hf⟩ := h
  rcases Deep.open_slice Try.underlying56 hf with ⟨hcs, _⟩ | ⟨a, len', cap', m, n, D, Pl, hcs, _, hl, hm, hmm, _, hi⟩
  · simp [Value.cells] at hcs
    obtain ⟨rfl, rfl, rfl⟩ := hcs
    exact ⟨[], rdE_nil w, (fun x hx => by cases hx), (fun n c e => by cases e; rfl), (fun ad n c e => by cases e; exact Nat.le_refl _)⟩
  · simp [Value.cells] at hcs
    obtain ⟨rfl, rfl, rfl⟩ := hcs
    have hle : len ≤ m := by rw [hmm]; split <;> omega
    have hx : ∀ i, i < len → ∃ x : En, (w.cell? (a.add (i * 3)) = some (.int .u32 (x.1.1 : Int)) ∧ w.cell? (a.add (i * 3 + 1)) = some (.int .i64 x.1.2) ∧ w.cell? (a.add (i * 3 + 2)) = some (.int .i64 x.2)) ∧ x.1.1 < 4294967296 ∧ I64 x.1.2 ∧ I64 x.2 := by
      intro i him
      obtain ⟨cs', hc, ht⟩ := hi i (by omega)
      rw [cells51] at hc
      obtain ⟨_, hlen, hat⟩ := World.cells?_some hc
      obtain ⟨e, rfl, h1, h2⟩ := trod_entryX ht
      have k0 := hat 0 (by omega)
      have k1 := hat 1 (by omega)
      have k2 := hat 2 (by omega)
      refine ⟨e, ⟨?_, ?_, ?_⟩, h1, h2⟩
      · rw [Deep.add_add] at k0; exact k0
      · rw [Deep.add_add] at k1; exact k1
      · rw [Deep.add_add] at k2; exact k2
    obtain ⟨Vf, hV⟩ := Deep.choose_lt hx
    refine ⟨(List.range len).map Vf, ⟨some a, cap, by simp, fun k x hk => ?_⟩, fun x hx' => ?_, (fun n c e => by cases e), (fun ad n c e => by cases e; exact hl)⟩
    · have hkl : k < len := by have := (List.getElem?_eq_some_iff.1 hk).1; simpa using this
      have e : x = Vf k := by simpa [hkl] using hk.symm
      subst e
      obtain ⟨⟨c0, c1, c2⟩, _⟩ := hV k hkl
      have hsp : a.spot = none := by simpa [Addr.add] using World.cell?_spot (hV 0 (by omega)).1.1
      obtain ⟨b, off, spot⟩ := a
      obtain rfl : spot = none := hsp
      rw [Addr.add_lit] at c0 c1 c2
      exact ⟨b, off, rfl, World.block_lt_of_cell? _ _ c0, c0, by rw [Nat.add_assoc]; exact c1, by rw [Nat.add_assoc]; exact c2⟩
    · obtain ⟨i, hi', rfl⟩ := List.mem_map.1 hx'
      exact (hV i (by simpa using hi')).2
end
end Go.Proofs.Ytegponbmelgngaa
end
