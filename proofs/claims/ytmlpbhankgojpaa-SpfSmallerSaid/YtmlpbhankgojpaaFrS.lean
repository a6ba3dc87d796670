/-
  How a tree is opened as an argument.
-/
import Derived.Test.YtmlpbhankgojpaaFrame
import Derived.Test.YtmlpbhankgojpaaSpSa
namespace Go.Proofs.Ytmlpbhankgojpaa
set_option maxRecDepth 100000
set_option linter.unusedSimpArgs false
set_option linter.unusedVariables false
open Go.ChangeShapes Go.WideShapes Go.ChangeAt Go.RowKit Go.Joins

section
variable {H : Type} {enc : TypeId × Value → H} {w : World}
def FitI (l : List Int) : Prop := ∀ x ∈ l, I64 x
theorem trod_rdi {base fuel : Nat} {spare : Nat → Bool} {held : Bool} {v : Value} {x : DataW H × List MemPlace}
    (hf : DataW.trod enc Try.prog w base spare held fuel 25 [v] = some x) : ∃ l, RdI w v l ∧ FitI l := by
  rcases Deep.open_slice1 Try.underlying25 cells3 hf with ⟨hcs, _⟩ | ⟨a, len, cap, m, n, V, D, Pl, hcs, _, hl, hm, hmm, _, hi⟩
  · simp at hcs
    subst hcs
    exact ⟨[], rdI_nil w, fun x hx => (by cases hx)⟩
  · simp at hcs
    subst hcs
    have hle : len ≤ m := by rw [hmm]; split <;> omega
    have hx : ∀ i, i < len → ∃ x : Int, w.cell? (a.add i) = some (.int .i64 x) ∧ I64 x := by
      intro i him
      obtain ⟨hc, ht⟩ := hi i (by omega)
      obtain ⟨x, e0, _, wx⟩ := DataW.trod_int Try.underlying3 ht
      simp at e0
      exact ⟨x, by rw [hc, e0], bounds_i64 wx⟩
    obtain ⟨Vf, hV⟩ := Deep.choose_lt hx
    refine ⟨(List.range len).map Vf, ⟨some a, cap, by simp, by simpa using hl, by unfold maxLen at hm; omega, fun k x hk => ?_⟩, fun x hx' => ?_⟩
    · have hkl : k < len := by have := (List.getElem?_eq_some_iff.1 hk).1; simpa using this
      have e : x = Vf k := by simpa [hkl] using hk.symm
      subst e
      obtain ⟨c0, _⟩ := hV k hkl
      have hsp : a.spot = none := by simpa [Addr.add] using World.cell?_spot (hV 0 (by omega)).1
      obtain ⟨b, off, spot⟩ := a
      obtain rfl : spot = none := hsp
      rw [Addr.add_lit] at c0
      exact ⟨b, off, rfl, World.block_lt_of_cell? _ _ c0, c0⟩
    · obtain ⟨i, hi', rfl⟩ := List.mem_map.1 hx'
      exact (hV i (by simpa using hi')).2
theorem cells25 : Try.prog.cellsOf 25 = 1 := by kernel_rfl
theorem trod_rdr {base fuel : Nat} {spare : Nat → Bool} {held : Bool} {v : Value} {x : DataW H × List MemPlace}
    (hf : DataW.trod enc Try.prog w base spare held fuel 26 [v] = some x) : ∃ l, RdR w v l := by
  rcases Deep.open_slice1 Try.underlying26 cells25 hf with ⟨hcs, _⟩ | ⟨a, len, cap, m, n, V, D, Pl, hcs, _, hl, hm, hmm, _, hi⟩
  · simp at hcs
    subst hcs
    exact ⟨[], none, 0, rfl, Nat.le_refl _, by omega, fun k x h => by simp at h⟩
  · simp at hcs
    subst hcs
    have hle : len ≤ m := by rw [hmm]; split <;> omega
    have hx : ∀ i, i < len → ∃ x : List Int, w.cell? (a.add i) = some (V i) ∧ RdI w (V i) x := by
      intro i him
      obtain ⟨hc, ht⟩ := hi i (by omega)
      obtain ⟨x, hr, _⟩ := trod_rdi ht
      exact ⟨x, hc, hr⟩
    obtain ⟨Vf, hV⟩ := Deep.choose_lt hx
    refine ⟨(List.range len).map Vf, some a, cap, by simp, by simpa using hl, by unfold maxLen at hm; omega, fun k x hk => ?_⟩
    have hkl : k < len := by have := (List.getElem?_eq_some_iff.1 hk).1; simpa using this
    have e : x = Vf k := by simpa [hkl] using hk.symm
    subst e
    obtain ⟨c0, hr⟩ := hV k hkl
    have hsp : a.spot = none := by simpa [Addr.add] using World.cell?_spot (hV 0 (by omega)).1
    obtain ⟨b, off, spot⟩ := a
    obtain rfl : spot = none := hsp
    rw [Addr.add_lit] at c0
    exact ⟨b, off, V k, rfl, World.block_lt_of_cell? _ _ c0, c0, hr⟩
theorem cells28 : Try.prog.cellsOf 28 = 4 := by kernel_rfl
theorem open_tree {r : Reach} {b0 base : Nat} {spare : Nat → Bool} {held : Bool} {v : Value} {d : DataW H} {p : List MemPlace}
    (hv : Value.okWide Try.prog w r b0 28 v) (h : DataW.Trod enc Try.prog w base spare held 28 v d p) : ∃ t : Tre, RdT w v t ∧ I64 t.root := by
  obtain ⟨v0, v1, v2, v3, y0, y1, y2, y3, n, rfl, rfl, rfl, h0, h1, h2, h3⟩ := open_agg4 Try.underlying28 (by kernel_rfl) cells28 hv h
  obtain ⟨a, e0, _, wa⟩ := DataW.trod_int Try.underlying3 h0
  simp at e0
  subst e0
  obtain ⟨l1, r1, _⟩ := trod_rdi h1
  obtain ⟨l2, r2⟩ := trod_rdr h2
  obtain ⟨l3, r3⟩ := trod_rdr h3
  exact ⟨⟨a, l1, l2, l3⟩, ⟨_, _, _, rfl, r1, r2, r3⟩, bounds_i64 wa⟩
end
end Go.Proofs.Ytmlpbhankgojpaa
