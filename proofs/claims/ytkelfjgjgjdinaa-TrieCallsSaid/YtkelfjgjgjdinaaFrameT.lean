/-
  How an argument of acts is opened.
-/
import Derived.Test.YtkelfjgjgjdinaaTxJ
import Derived.Test.YtkelfjgjgjdinaaFrame
import Derived.Deep.Strs
namespace Go.Proofs.Ytkelfjgjgjdinaa
set_option maxRecDepth 100000
set_option linter.unusedSimpArgs false
set_option linter.unusedVariables false
open Go.ChangeShapes Go.WideShapes Go.ChangeAt Go.RowKit Go.Joins
section
variable {H : Type} {enc : TypeId × Value → H} {w : World}
theorem trod_act {base : Nat} {spare : Nat → Bool} {held : Bool} {n : Nat} {cs : List Value} {x : DataW H × List MemPlace} (h : DataW.trod enc Try.prog w base spare held n 52 cs = some x) :
    ∃ e : Int × PP × Int, cs = [.int .i64 e.1, .int .u32 (e.2.1.1 : Int), .int .i64 e.2.1.2, .int .i64 e.2.2] ∧ I64 e.1 ∧ e.2.1.1 < 4294967296 ∧ I64 e.2.1.2 := by
  obtain ⟨y0, y1, y2, n', _, hlen, h0, h1, h2⟩ := Deep.trod_struct3 Try.underlying52 h
  rw [cells52] at hlen
  match cs, hlen with
  | [c0, c1, c2, c3], _ =>
    have h0' : DataW.trod enc Try.prog w base spare held n' 3 [c0] = some y0 := by have := h0; dsimp only at this; rw [cells3] at this; exact this
    have h1' : DataW.trod enc Try.prog w base spare held n' 28 [c1, c2] = some y1 := by have := h1; dsimp only at this; rw [cells28] at this; exact this
    have h2' : DataW.trod enc Try.prog w base spare held n' 3 [c3] = some y2 := by have := h2; dsimp only at this; rw [cells3] at this; exact this
    obtain ⟨k, e0, _, wk⟩ := DataW.trod_int Try.underlying3 h0'
    obtain ⟨a, m, e1, ha, hm⟩ := trod_prefix h1'
    obtain ⟨y, e2, _, wy⟩ := DataW.trod_int Try.underlying3 h2'
    simp at e0 e1 e2
    obtain ⟨rfl, rfl⟩ := e1
    subst e0 e2
    exact ⟨(k, (a, m), y), rfl, bounds_i64 wk, ha, hm⟩
theorem open_rdT {r : Reach} {b0 base : Nat} {spare : Nat → Bool} {held : Bool} {v : Value} {d : DataW H} {p : List MemPlace}
    (hv : Value.okWide Try.prog w r b0 46 v) (h : DataW.Trod enc Try.prog w base spare held 46 v d p) : ∃ l, RdT w v l ∧ FitT l := by
  obtain ⟨a0, len, cap, rfl⟩ := okWide_slice Try.underlying46 hv
  obtain ⟨fuel, hf⟩ := h
  rcases Deep.open_slice Try.underlying46 hf with ⟨hcs, _⟩ | ⟨a, len', cap', m, n, D, Pl, hcs, _, hl, hm, hmm, _, hi⟩
  · simp [Value.cells] at hcs
    obtain ⟨rfl, rfl, rfl⟩ := hcs
    exact ⟨[], ⟨none, 0, rfl, fun k x h => by simp at h⟩, fun x hx => (by cases hx)⟩
  · simp [Value.cells] at hcs
    obtain ⟨rfl, rfl, rfl⟩ := hcs
    have hle : len ≤ m := by rw [hmm]; split <;> omega
    have hx : ∀ i, i < len → ∃ x : Int × PP × Int, (w.cell? (a.add (i * 4)) = some (.int .i64 x.1) ∧ w.cell? (a.add (i * 4 + 1)) = some (.int .u32 (x.2.1.1 : Int)) ∧ w.cell? (a.add (i * 4 + 2)) = some (.int .i64 x.2.1.2) ∧ w.cell? (a.add (i * 4 + 3)) = some (.int .i64 x.2.2)) ∧ I64 x.1 ∧ x.2.1.1 < 4294967296 ∧ I64 x.2.1.2 := by
      intro i him
      obtain ⟨cs', hc, ht⟩ := hi i (by omega)
      rw [cells52] at hc
      obtain ⟨_, hlen, hat⟩ := World.cells?_some hc
      obtain ⟨e, rfl, h1, h2, h3⟩ := trod_act ht
      have k0 := hat 0 (by omega)
      have k1 := hat 1 (by omega)
      have k2 := hat 2 (by omega)
      have k3 := hat 3 (by omega)
      refine ⟨e, ⟨?_, ?_, ?_, ?_⟩, h1, h2, h3⟩
      · rw [Deep.add_add] at k0; exact k0
      · rw [Deep.add_add] at k1; exact k1
      · rw [Deep.add_add] at k2; exact k2
      · rw [Deep.add_add] at k3; exact k3
    obtain ⟨Vf, hV⟩ := Deep.choose_lt hx
    refine ⟨(List.range len).map Vf, ⟨some a, cap, by simp, fun k x hk => ?_⟩, fun x hx' => ?_⟩
    · have hkl : k < len := by have := (List.getElem?_eq_some_iff.1 hk).1; simpa using this
      have e : x = Vf k := by simpa [hkl] using hk.symm
      subst e
      obtain ⟨⟨c0, c1, c2, c3⟩, _⟩ := hV k hkl
      have hsp : a.spot = none := by simpa [Addr.add] using World.cell?_spot (hV 0 (by omega)).1.1
      obtain ⟨b, off, spot⟩ := a
      obtain rfl : spot = none := hsp
      rw [Addr.add_lit] at c0 c1 c2 c3
      exact ⟨b, off, rfl, World.block_lt_of_cell? _ _ c0, c0, by rw [Nat.add_assoc]; exact c1, by rw [Nat.add_assoc]; exact c2, by rw [Nat.add_assoc]; exact c3⟩
    · obtain ⟨i, hi', rfl⟩ := List.mem_map.1 hx'
      exact (hV i (by simpa using hi')).2
end
end Go.Proofs.Ytkelfjgjgjdinaa
