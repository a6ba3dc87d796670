/-
  How arguments are opened, what slices read as, how arguments read behind a call that only makes memory.
-/
import Derived.Test.YtmlpbhankgojpaaMemB
import Derived.Test.YtmlpbhankgojpaaRows
import Derived.ProofKit
import Derived.OpenShut
import Derived.SizedLaws
import Derived.Carry
import Derived.Lib.SmallJoins
import Derived.Deep.Slices
import Derived.Deep.Strs
namespace Go.Proofs.Ytmlpbhankgojpaa
set_option maxRecDepth 100000
set_option linter.unusedSimpArgs false
set_option linter.unusedVariables false
open Go.ChangeShapes Go.WideShapes Go.ChangeAt Go.RowKit Go.Joins

theorem own : ownKnob Try.prog.godebug = none := by kernel_rfl
theorem laidOut : laidOutB Try.prog = true := by kernel_rfl
theorem cells3 : Try.prog.cellsOf 3 = 1 := by kernel_rfl
theorem cells46 : Try.prog.cellsOf 46 = 3 := by kernel_rfl
theorem cells24 : Try.prog.cellsOf 24 = 3 := by kernel_rfl
def I64 (n : Int) : Prop := -9223372036854775808 ≤ n ∧ n ≤ 9223372036854775807

/-- three integers of one place -/
abbrev Tri := Int × Int × Int
def FitT (l : List Tri) : Prop := ∀ x ∈ l, I64 x.1 ∧ I64 x.2.1 ∧ I64 x.2.2
/-- a slice of structs of three integers as memory reads -/
def Rd3 (w : World) (v : Value) (l : List Tri) : Prop :=
  ∃ ad cap, v = .slice ad l.length cap ∧ l.length ≤ cap ∧ cap ≤ 9223372036854775807 ∧ ∀ k x, l[k]? = some x → ∃ b off, ad = some ⟨b, off, none⟩ ∧ b < w.heap.size ∧
    w.cell? ⟨b, off + k * 3, none⟩ = some (.int .i64 x.1) ∧ w.cell? ⟨b, off + k * 3 + 1, none⟩ = some (.int .i64 x.2.1) ∧ w.cell? ⟨b, off + k * 3 + 2, none⟩ = some (.int .i64 x.2.2)
/-- a slice of integers as memory reads -/
def RdI (w : World) (v : Value) (l : List Int) : Prop :=
  ∃ ad cap, v = .slice ad l.length cap ∧ l.length ≤ cap ∧ cap ≤ 9223372036854775807 ∧ ∀ k x, l[k]? = some x → ∃ b off, ad = some ⟨b, off, none⟩ ∧ b < w.heap.size ∧ w.cell? ⟨b, off + k, none⟩ = some (.int .i64 x)
theorem Rd3.below {w w' : World} {v : Value} {l : List Tri} (h : Rd3 w v l) (hb : Below w.heap.size w w') : Rd3 w' v l := by
  obtain ⟨ad, cap, rfl, h1, h2, hc⟩ := h
  refine ⟨ad, cap, rfl, h1, h2, fun k x hk => ?_⟩
  obtain ⟨b, off, e, hlt, c0, c1, c2⟩ := hc k x hk
  exact ⟨b, off, e, Nat.lt_of_lt_of_le hlt hb.size, by rw [hb.cell hlt]; exact c0, by rw [hb.cell hlt]; exact c1, by rw [hb.cell hlt]; exact c2⟩
theorem RdI.below {w w' : World} {v : Value} {l : List Int} (h : RdI w v l) (hb : Below w.heap.size w w') : RdI w' v l := by
  obtain ⟨ad, cap, rfl, h1, h2, hc⟩ := h
  refine ⟨ad, cap, rfl, h1, h2, fun k x hk => ?_⟩
  obtain ⟨b, off, e, hlt, c0⟩ := hc k x hk
  exact ⟨b, off, e, Nat.lt_of_lt_of_le hlt hb.size, by rw [hb.cell hlt]; exact c0⟩
theorem rd3_nil (w : World) : Rd3 w (.slice none 0 0) [] := ⟨none, 0, rfl, Nat.le_refl _, by omega, fun k x h => by simp at h⟩
theorem rdI_nil (w : World) : RdI w (.slice none 0 0) [] := ⟨none, 0, rfl, Nat.le_refl _, by omega, fun k x h => by simp at h⟩

section
variable {H : Type} {enc : TypeId × Value → H} {w : World}
theorem open_i64 {r : Reach} {b0 base : Nat} {spare : Nat → Bool} {held : Bool} {v : Value} {d : DataW H} {p : List MemPlace} (hv : Value.okWide Try.prog w r b0 3 v) (h : DataW.Trod enc Try.prog w base spare held 3 v d p) :
    ∃ x : Int, v = .int .i64 x ∧ I64 x := by
  obtain ⟨a, rfl, rfl, rfl, wa⟩ := open_int Try.underlying3 hv h
  exact ⟨a, rfl, bounds_i64 wa⟩
theorem open_u8 {r : Reach} {b0 base : Nat} {spare : Nat → Bool} {held : Bool} {v : Value} {d : DataW H} {p : List MemPlace} (hv : Value.okWide Try.prog w r b0 5 v) (h : DataW.Trod enc Try.prog w base spare held 5 v d p) :
    ∃ x : Nat, v = .int .u8 (x : Int) ∧ x < 256 := by
  obtain ⟨a, rfl, rfl, rfl, wa⟩ := open_int Try.underlying5 hv h
  have b0 := bounds_u8 wa
  obtain ⟨x, rfl⟩ := Int.eq_ofNat_of_zero_le b0.1
  exact ⟨x, rfl, by omega⟩
theorem trod_tri {base : Nat} {spare : Nat → Bool} {held : Bool} {n : Nat} {cs : List Value} {x : DataW H × List MemPlace} {t : TypeId} {f0 f1 f2 : Field} (ht : Try.prog.underlying t = some (.struct #[f0, f1, f2])) (hc : Try.prog.cellsOf t = 3)
    (g : f0.type = 3 ∧ f1.type = 3 ∧ f2.type = 3 ∧ f0.offset = 0 ∧ f1.offset = 1 ∧ f2.offset = 2) (h : DataW.trod enc Try.prog w base spare held n t cs = some x) :
    ∃ e : Tri, cs = [.int .i64 e.1, .int .i64 e.2.1, .int .i64 e.2.2] ∧ I64 e.1 ∧ I64 e.2.1 ∧ I64 e.2.2 := by
  obtain ⟨y0, y1, y2, n', _, hlen, h0, h1, h2⟩ := Deep.trod_struct3 ht h
  obtain ⟨g0, g1, g2, o0, o1, o2⟩ := g
  rw [hc] at hlen
  rw [g0, o0, cells3] at h0
  rw [g1, o1, cells3] at h1
  rw [g2, o2, cells3] at h2
  match cs, hlen with
  | [c0, c1, c2], _ =>
    have h0' : DataW.trod enc Try.prog w base spare held n' 3 [c0] = some y0 := h0
    have h1' : DataW.trod enc Try.prog w base spare held n' 3 [c1] = some y1 := h1
    have h2' : DataW.trod enc Try.prog w base spare held n' 3 [c2] = some y2 := h2
    obtain ⟨a, e0, _, wa⟩ := DataW.trod_int Try.underlying3 h0'
    obtain ⟨b, e1, _, wb⟩ := DataW.trod_int Try.underlying3 h1'
    obtain ⟨c, e2, _, wc⟩ := DataW.trod_int Try.underlying3 h2'
    simp at e0 e1 e2
    subst e0 e1 e2
    exact ⟨(a, b, c), rfl, bounds_i64 wa, bounds_i64 wb, bounds_i64 wc⟩
theorem trod_rd3 {t e : TypeId} {f0 f1 f2 : Field} {base fuel : Nat} {spare : Nat → Bool} {held : Bool} {v : Value} {x : DataW H × List MemPlace} (hu : Try.prog.underlying t = some (.slice e)) (he : Try.prog.underlying e = some (.struct #[f0, f1, f2])) (hc : Try.prog.cellsOf e = 3)
    (g : f0.type = 3 ∧ f1.type = 3 ∧ f2.type = 3 ∧ f0.offset = 0 ∧ f1.offset = 1 ∧ f2.offset = 2)
    (hf : DataW.trod enc Try.prog w base spare held fuel t [v] = some x) : ∃ l, Rd3 w v l ∧ FitT l := by
  rcases Deep.open_slice hu hf with ⟨hcs, _⟩ | ⟨a, len, cap, m, n, D, Pl, hcs, _, hl, hm, hmm, _, hi⟩
  · simp at hcs
    subst hcs
    exact ⟨[], rd3_nil w, fun x hx => (by cases hx)⟩
  · simp at hcs
    subst hcs
    have hle : len ≤ m := by rw [hmm]; split <;> omega
    have hx : ∀ i, i < len → ∃ x : Tri, (w.cell? (a.add (i * 3)) = some (.int .i64 x.1) ∧ w.cell? (a.add (i * 3 + 1)) = some (.int .i64 x.2.1) ∧ w.cell? (a.add (i * 3 + 2)) = some (.int .i64 x.2.2)) ∧ I64 x.1 ∧ I64 x.2.1 ∧ I64 x.2.2 := by
      intro i him
      obtain ⟨cs', hcc, ht⟩ := hi i (by omega)
      rw [hc] at hcc
      obtain ⟨_, hlen, hat⟩ := World.cells?_some hcc
      obtain ⟨e, rfl, h1, h2, h3⟩ := trod_tri he hc g ht
      have k0 := hat 0 (by omega)
      have k1 := hat 1 (by omega)
      have k2 := hat 2 (by omega)
      refine ⟨e, ⟨?_, ?_, ?_⟩, h1, h2, h3⟩
      · rw [Deep.add_add] at k0; exact k0
      · rw [Deep.add_add] at k1; exact k1
      · rw [Deep.add_add] at k2; exact k2
    obtain ⟨Vf, hV⟩ := Deep.choose_lt hx
    refine ⟨(List.range len).map Vf, ⟨some a, cap, by simp, by simpa using hl, by unfold maxLen at hm; omega, fun k x hk => ?_⟩, fun x hx' => ?_⟩
    · have hkl : k < len := by have := (List.getElem?_eq_some_iff.1 hk).1; simpa using this
      have e : x = Vf k := by simpa [hkl] using hk.symm
      subst e
      obtain ⟨⟨c0, c1, c2⟩, _⟩ := hV k hkl
      have hsp : a.spot = none := by simpa [Addr.add] using World.cell?_spot (hV 0 (by omega)).1.1
      obtain ⟨b, off, spot⟩ := a
      obtain rfl : spot = none := hsp
      rw [Addr.add_lit] at c0 c1 c2
      exact ⟨b, off, rfl, World.block_lt_of_cell? _ _ c0, c0, by rw [Nat.add_assoc]; exact c1, by rw [Nat.add_assoc]; exact c2⟩
    · obtain ⟨i, hi', rfl⟩ := List.mem_map.1 hx'
      exact (hV i (by simpa using hi')).2
theorem okWide_cells {r : Reach} {b0 : Nat} {t e : TypeId} {v : Value} (hu : Try.prog.underlying t = some (.slice e)) (hv : Value.okWide Try.prog w r b0 t v) : v.cells.toList = [v] := by
  obtain ⟨a0, len, cap, rfl⟩ := okWide_slice hu hv
  rfl
theorem open_edges {r : Reach} {b0 base : Nat} {spare : Nat → Bool} {held : Bool} {v : Value} {d : DataW H} {p : List MemPlace}
    (hv : Value.okWide Try.prog w r b0 22 v) (h : DataW.Trod enc Try.prog w base spare held 22 v d p) : ∃ l, Rd3 w v l ∧ FitT l := by
  obtain ⟨fuel, hf⟩ := h
  rw [okWide_cells Try.underlying22 hv] at hf
  exact trod_rd3 Try.underlying22 Try.underlying46 cells46 ⟨rfl, rfl, rfl, rfl, rfl, rfl⟩ hf
theorem open_graph {r : Reach} {b0 base : Nat} {spare : Nat → Bool} {held : Bool} {v : Value} {d : DataW H} {p : List MemPlace}
    (hv : Value.okWide Try.prog w r b0 24 v) (h : DataW.Trod enc Try.prog w base spare held 24 v d p) : ∃ (R N : Int) (l : List Tri) (s : Value), v = .agg #[.int .i64 R, .int .i64 N, s] ∧ I64 R ∧ I64 N ∧ Rd3 w s l ∧ FitT l := by
  obtain ⟨v0, v1, v2, y0, y1, y2, n, rfl, rfl, rfl, h0, h1, h2⟩ := open_agg3 Try.underlying24 (by kernel_rfl) cells24 hv h
  obtain ⟨a, e0, _, wa⟩ := DataW.trod_int Try.underlying3 h0
  obtain ⟨b, e1, _, wb⟩ := DataW.trod_int Try.underlying3 h1
  simp at e0 e1
  subst e0 e1
  obtain ⟨l, hr, hf⟩ := trod_rd3 Try.underlying22 Try.underlying46 cells46 ⟨rfl, rfl, rfl, rfl, rfl, rfl⟩ h2
  exact ⟨a, b, l, v2, rfl, bounds_i64 wa, bounds_i64 wb, hr, hf⟩
theorem open_ints {r : Reach} {b0 base : Nat} {spare : Nat → Bool} {held : Bool} {v : Value} {d : DataW H} {p : List MemPlace}
    (hv : Value.okWide Try.prog w r b0 25 v) (h : DataW.Trod enc Try.prog w base spare held 25 v d p) : ∃ l, RdI w v l ∧ ∀ x ∈ l, I64 x := by
  obtain ⟨fuel, hf⟩ := h
  rw [okWide_cells Try.underlying25 hv] at hf
  rcases Deep.open_slice1 Try.underlying25 cells3 hf with ⟨hcs, _⟩ | ⟨a, len, cap, m, n, V, D, Pl, hcs, _, hl, hm, hmm, _, hi⟩
  · simp at hcs
    subst hcs
    exact ⟨[], rdI_nil w, fun x hx => (by cases hx)⟩
  · simp at hcs
    subst hcs
    have hle : len ≤ m := by rw [hmm]; split <;> omega
    have hx : ∀ i, i < len → ∃ x : Int, w.cell? (a.add i) = some (.int .i64 x) ∧ I64 x := by
      intro i him
      obtain ⟨hc, ht⟩ := hi i (by omega)
      obtain ⟨x, e0, _, wx⟩ := DataW.trod_int Try.underlying3 ht
      simp at e0
      exact ⟨x, by rw [hc, e0], bounds_i64 wx⟩
    obtain ⟨Vf, hV⟩ := Deep.choose_lt hx
    refine ⟨(List.range len).map Vf, ⟨some a, cap, by simp, by simpa using hl, by unfold maxLen at hm; omega, fun k x hk => ?_⟩, fun x hx' => ?_⟩
    · have hkl : k < len := by have := (List.getElem?_eq_some_iff.1 hk).1; simpa using this
      have e : x = Vf k := by simpa [hkl] using hk.symm
      subst e
      obtain ⟨c0, _⟩ := hV k hkl
      have hsp : a.spot = none := by simpa [Addr.add] using World.cell?_spot (hV 0 (by omega)).1
      obtain ⟨b, off, spot⟩ := a
      obtain rfl : spot = none := hsp
      rw [Addr.add_lit] at c0
      exact ⟨b, off, rfl, World.block_lt_of_cell? _ _ c0, c0⟩
    · obtain ⟨i, hi', rfl⟩ := List.mem_map.1 hx'
      exact (hV i (by simpa using hi')).2
theorem trodAll_below {W W' : World} (hb : Below W.heap.size W W') : ∀ {ts : List TypeId} {vs : List Value} {ds : List (DataW H)} {ps : List MemPlace},
    (∀ t ∈ ts, Try.prog.readableRec t = true ∧ t < Try.prog.types.size) → DataW.TrodAll enc Try.prog W 0 (fun _ => true) true ts vs ds ps → (∀ x ∈ ps, x.block < W.heap.size) →
    DataW.TrodAll enc Try.prog W' 0 (fun b => decide (b < W.heap.size)) true ts vs ds ps
  | [], vs, ds, ps, _, h, _ => by
    obtain ⟨rfl, rfl, rfl⟩ := trodAll_nil h
    exact trodAll_mk0
  | t :: ts, vs, ds, ps, hr, h, hlt => by
    obtain ⟨v0, vs0, d0, ds0, p0, q0, rfl, rfl, rfl, h0, r0⟩ := trodAll_cons h
    exact trodAll_cons_mk (Below.trod laidOut (hr t (by simp)).1 (hr t (by simp)).2 h0 hb (fun x hx => hlt x (by simp [hx])))
      (trodAll_below hb (fun t ht => hr t (by simp [ht])) r0 (fun x hx => hlt x (by simp [hx])))
end
end Go.Proofs.Ytmlpbhankgojpaa
