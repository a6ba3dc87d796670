/-
  How a typed field, a slice of them and a slice of strings are opened, and how long their encodings are.
-/
import Derived.Test.YthoonegckifiaaaDoorFrame
import Derived.SliceStrings
import Derived.Deep.Slices
namespace Go.Proofs.YthoonegckifiaaaDoor
set_option maxRecDepth 100000
set_option linter.unusedVariables false
open Go.ChangeShapes Go.WideShapes Go.ChangeAt Go.RowKit

theorem cells36 : Tryd.prog.cellsOf 36 = 2 := by kernel_rfl
theorem cells9 : Tryd.prog.cellsOf 9 = 1 := by kernel_rfl
def encLen (ts : List TV) : Nat := (ts.map fun t => t.2.length + 3).sum
def lineLen (ps : List (List UInt8)) : Nat := (ps.map fun p => p.length + 1).sum
section
variable {H : Type} {enc : TypeId × Value → H} {w : World}
theorem row_bulk {d : DataW H} {l : List Nat} (h : l = [] ∨ ∃ es sp, d = .slice es sp ∧ es.length = l.length) : l.length + 1 ≤ Rows.uptoBulk d := by
  rcases h with rfl | ⟨es, sp, rfl, he⟩
  · have := bulks.one_le d; simpa using this
  · have := bulks.slice_le es sp; omega
theorem open_tlv {r : Reach} {b0 : Nat} {spare : Nat → Bool} {v : Value} {d : DataW H} {p : List MemPlace}
    (hv : Value.okWide Tryd.prog w r b0 36 v) (h : DataW.Trod enc Tryd.prog w 0 spare true 36 v d p) : ∃ (k : Int) (u : Value) (l : List Nat), v = .agg #[.int .i64 k, u] ∧ I64 k ∧ Rd w u l ∧ l.length ≤ Rows.uptoBulk d := by
  obtain ⟨c0, c1, y0, y1, m, rfl, rfl, rfl, hy0, hy1⟩ := Go.Joins.open_agg2 Tryd.underlying36 (by kernel_rfl) cells36 hv h
  obtain ⟨a, e0, rfl, wa⟩ := DataW.trod_int Tryd.underlying3 hy0
  simp at e0
  subst e0
  obtain ⟨u, l, e, hr, hd⟩ := open_row hy1
  simp at e
  subst e
  refine ⟨a, _, l, rfl, bounds_i64 wa, hr, ?_⟩
  have := row_bulk hd
  simp only [Rows.uptoBulk, Rows.uptoBulkAll]; omega
theorem sum_bulk {α : Type} (f : α → Nat) (V : Nat → α) (D : Nat → DataW H) : ∀ (is : List Nat), (∀ i ∈ is, f (V i) ≤ Rows.uptoBulk (D i)) → ((is.map V).map f).sum ≤ Rows.uptoBulkAll (is.map D)
  | [], _ => Nat.zero_le _
  | i :: is, h => by
    have h1 := h i (by simp)
    have h2 := sum_bulk f V D is (fun j hj => h j (by simp [hj]))
    simp only [List.map_cons, List.sum_cons, Rows.uptoBulkAll]; omega
theorem open_list {r : Reach} {b0 : Nat} {spare : Nat → Bool} {v : Value} {d : DataW H} {p : List MemPlace}
    (hv : Value.okWide Tryd.prog w r b0 39 v) (h : DataW.Trod enc Tryd.prog w 0 spare true 39 v d p) : ∃ ts : List TV, RdT w v ts ∧ encLen ts ≤ Rows.uptoBulk d := by
  obtain ⟨a0, len, cap, rfl⟩ := okWide_slice Tryd.underlying39 hv
  obtain ⟨fuel, hf⟩ := h
  rcases Deep.open_slice Tryd.underlying39 hf with ⟨hcs, _⟩ | ⟨a, len', cap', m, n, D, Pl, hcs, _, hl, hm, hmm, hx, hi⟩
  · simp [Value.cells] at hcs
    obtain ⟨rfl, rfl, rfl⟩ := hcs
    exact ⟨[], rdt_nil w, Nat.zero_le _⟩
  · simp [Value.cells] at hcs
    obtain ⟨rfl, rfl, rfl⟩ := hcs
    have hle : len ≤ m := by rw [hmm]; split <;> omega
    have hd : d = .slice ((List.range len).map D) ((List.range (m - len)).map fun j => D (len + j)) := (Prod.mk.inj hx).1
    have hxx : ∀ i, i < len → ∃ x : TV, x.2.length + 3 ≤ Rows.uptoBulk (D i) ∧ ∃ u, w.cell? (a.add (i * 2)) = some (.int .i64 x.1) ∧ w.cell? (a.add (i * 2 + 1)) = some u ∧ Rd w u x.2 := by
      intro i him
      obtain ⟨cs', hc, ht⟩ := hi i (by omega)
      rw [cells36] at hc
      obtain ⟨_, hlen, hat⟩ := World.cells?_some hc
      match cs', hlen with
      | [c0, c1], _ =>
        obtain ⟨y0, y1, n', hD, _, h0, h1⟩ := trod_struct2 Tryd.underlying36 ht
        have h0' : DataW.trod enc Tryd.prog w 0 spare true n' 3 [c0] = some y0 := h0
        have h1' : DataW.trod enc Tryd.prog w 0 spare true n' 22 [c1] = some y1 := h1
        obtain ⟨x, e0, ey0, wx⟩ := DataW.trod_int Tryd.underlying3 h0'
        obtain ⟨u, l, e1, hr, hdl⟩ := open_row h1'
        simp at e0 e1
        subst e0 e1
        have k0 := hat 0 (by omega)
        have k1 := hat 1 (by omega)
        have hDi : D i = .agg [y0.1, y1.1] := (Prod.mk.inj hD).1
        refine ⟨(x, l), ?_, c1, ?_, ?_, hr⟩
        · have := row_bulk hdl
          have h01 := bulks.one_le y0.1
          rw [hDi]; simp only [Rows.uptoBulk, Rows.uptoBulkAll]; omega
        · rw [Deep.add_add] at k0; exact k0
        · rw [Deep.add_add] at k1; exact k1
    obtain ⟨V, hV⟩ := Deep.choose_lt hxx
    refine ⟨(List.range len).map V, ⟨some a, cap, by simp, fun k x hk => ?_⟩, ?_⟩
    · have hkl : k < len := by have := (List.getElem?_eq_some_iff.1 hk).1; simpa using this
      have e : x = V k := by simpa [hkl] using hk.symm
      subst e
      obtain ⟨_, u, c0, c1, hr⟩ := hV k hkl
      obtain ⟨_, u0, c00, _, _⟩ := hV 0 (by omega)
      have hsp : a.spot = none := by simpa [Addr.add] using World.cell?_spot c00
      obtain ⟨b, off, spot⟩ := a
      obtain rfl : spot = none := hsp
      rw [Addr.add_lit] at c0 c1
      exact ⟨b, off, u, rfl, World.block_lt_of_cell? _ _ c0, c0, by rw [Nat.add_assoc]; exact c1, hr⟩
    · rw [hd]
      have h1 := sum_bulk (fun t : TV => t.2.length + 3) V D (List.range len) (fun i hi => (hV i (List.mem_range.1 hi)).1)
      have h2 := bulks.slice_elems ((List.range len).map D) ((List.range (m - len)).map fun j => D (len + j))
      unfold encLen; omega
theorem open_words {r : Reach} {b0 : Nat} {spare : Nat → Bool} {v : Value} {d : DataW H} {p : List MemPlace}
    (hv : Value.okWide Tryd.prog w r b0 44 v) (h : DataW.Trod enc Tryd.prog w 0 spare true 44 v d p) : ∃ ps : List (List UInt8), RdW w v ps ∧ lineLen ps ≤ Rows.uptoBulk d := by
  obtain ⟨a0, len, cap, rfl⟩ := okWide_slice Tryd.underlying44 hv
  obtain ⟨fuel, hf⟩ := h
  rcases open_strings Tryd.underlying44 Tryd.underlying9 cells9 hf with ⟨hcs, _⟩ | ⟨a, len', cap', ss, hcs, hb, hl, hm, hlen, hx, hc, hw⟩
  · simp [Value.cells] at hcs
    obtain ⟨rfl, rfl, rfl⟩ := hcs
    exact ⟨[], rdw_nil w, Nat.zero_le _⟩
  · simp [Value.cells] at hcs
    obtain ⟨rfl, rfl, rfl⟩ := hcs
    have hle : len ≤ ss.length := by rw [hlen]; split <;> omega
    refine ⟨(ss.take len).map (·.data.toList), ⟨some a, cap, by simp; omega, fun k x hk => ?_⟩, ?_⟩
    · have hkl : k < len := by have := (List.getElem?_eq_some_iff.1 hk).1; simp at this; omega
      have hcell := hc k (by omega)
      have hsp : a.spot = none := by have := World.cell?_spot (hc 0 (by omega)); simpa [Addr.add] using this
      obtain ⟨b, off, spot⟩ := a
      obtain rfl : spot = none := hsp
      rw [Addr.add_lit] at hcell
      refine ⟨b, off, rfl, World.block_lt_of_cell? _ _ hcell, ?_⟩
      rw [hcell]
      rw [List.getElem?_map, List.getElem?_take, if_pos hkl, List.getElem?_eq_getElem (show k < ss.length by omega)] at hk
      obtain rfl := Option.some.inj hk
      rw [← bs_of]
      simp [List.getD]
      rw [List.getElem?_eq_getElem (show k < ss.length by omega)]; rfl
    · have hd : d = .slice (Go.ChangeShapes.strs (ss.take len)) (Go.ChangeShapes.strs (ss.drop len)) := (Prod.mk.inj hx).1
      rw [hd]
      have h2 := bulks.slice_elems (H := H) (Go.ChangeShapes.strs (ss.take len)) (Go.ChangeShapes.strs (ss.drop len))
      have h1 : ∀ qs : List ByteArray, lineLen (qs.map (·.data.toList)) ≤ Rows.uptoBulkAll (H := H) (Go.ChangeShapes.strs qs) := by
        intro qs
        induction qs with
        | nil => exact Nat.zero_le _
        | cons q r ih =>
          have e : Go.ChangeShapes.strs (H := H) (q :: r) = .lit (.string q.data.toList) :: Go.ChangeShapes.strs r := rfl
          rw [e]
          simp only [Rows.uptoBulkAll, bulks.string_eq]
          unfold lineLen at *
          simp only [List.map_cons, List.sum_cons]
          omega
      have := h1 (ss.take len)
      omega
end
end Go.Proofs.YthoonegckifiaaaDoor
