/-
  What all proofs over this seat's rows share: how arguments are opened, how they read behind a call that only makes memory.
  How slices of entries are opened.
  How slices of entries are opened, with what is known of their values and capacity.
-/
import Derived.Test.YtegponbmelgngaaGreatMgSc
import Derived.Test.YtegponbmelgngaaGreatRows
import Derived.ProofKit
import Derived.OpenShut
import Derived.SizedLaws
import Derived.Carry
import Derived.Lib.SmallJoins
import Derived.Deep.Slices
import Derived.Test.YtegponbmelgngaaGreatMgTd
import Derived.Test.YtegponbmelgngaaGreatMgAk
section
namespace Go.Proofs.YtegponbmelgngaaGreat
set_option maxRecDepth 100000
set_option linter.unusedSimpArgs false
set_option linter.unusedVariables false
open Go.ChangeShapes Go.WideShapes Go.ChangeAt Go.RowKit Go.Joins

theorem own : ownKnob Tryz.prog.godebug = none := by kernel_rfl
theorem laidOut : laidOutB Tryz.prog = true := by kernel_rfl
theorem cells33 : Tryz.prog.cellsOf 33 = 1 := by kernel_rfl
theorem cells3 : Tryz.prog.cellsOf 3 = 1 := by kernel_rfl
theorem cells35 : Tryz.prog.cellsOf 35 = 2 := by kernel_rfl

/-- prefixes whose numbers fit -/
def FitL (l : List PP) : Prop := ∀ x ∈ l, x.1 < 4294967296 ∧ I64 x.2
section
variable {H : Type} {enc : TypeId × Value → H} {w : World}
theorem open_prefix {r : Reach} {b0 base : Nat} {spare : Nat → Bool} {held : Bool} {v : Value} {d : DataW H} {p : List MemPlace}
    (hv : Value.okWide Tryz.prog w r b0 35 v) (h : DataW.Trod enc Tryz.prog w base spare held 35 v d p) :
    ∃ (a : Nat) (n : Int), v = .agg #[.int .u32 a, .int .i64 n] ∧ a < 4294967296 ∧ I64 n := by
  obtain ⟨c0, c1, y0, y1, m, rfl, rfl, rfl, hy0, hy1⟩ := open_agg2 Tryz.underlying35 (by kernel_rfl) cells35 hv h
  obtain ⟨a, e0, rfl, wa⟩ := DataW.trod_int Tryz.underlying33 hy0
  obtain ⟨n, e1, rfl, wn⟩ := DataW.trod_int Tryz.underlying3 hy1
  simp at e0 e1
  subst e0 e1
  have b0 := bounds_u32 wa
  have b1 := bounds_i64 wn
  obtain ⟨x, rfl⟩ := Int.eq_ofNat_of_zero_le b0.1
  exact ⟨x, n, rfl, by omega, b1⟩
theorem open_addr {r : Reach} {b0 base : Nat} {spare : Nat → Bool} {held : Bool} {v : Value} {d : DataW H} {p : List MemPlace}
    (hv : Value.okWide Tryz.prog w r b0 33 v) (h : DataW.Trod enc Tryz.prog w base spare held 33 v d p) : ∃ a : Nat, v = .int .u32 a ∧ a < 4294967296 := by
  obtain ⟨a, rfl, rfl, rfl, wa⟩ := open_int Tryz.underlying33 hv h
  have b0 := bounds_u32 wa
  obtain ⟨x, rfl⟩ := Int.eq_ofNat_of_zero_le b0.1
  exact ⟨x, rfl, by omega⟩
theorem open_i64 {r : Reach} {b0 base : Nat} {spare : Nat → Bool} {held : Bool} {v : Value} {d : DataW H} {p : List MemPlace} (hv : Value.okWide Tryz.prog w r b0 3 v) (h : DataW.Trod enc Tryz.prog w base spare held 3 v d p) :
    ∃ x : Int, v = .int .i64 x ∧ I64 x := by
  obtain ⟨a, rfl, rfl, rfl, wa⟩ := open_int Tryz.underlying3 hv h
  exact ⟨a, rfl, bounds_i64 wa⟩
theorem trod_prefix {base : Nat} {spare : Nat → Bool} {held : Bool} {n : Nat} {cs : List Value} {x : DataW H × List MemPlace} (h : DataW.trod enc Tryz.prog w base spare held n 35 cs = some x) :
    ∃ (a : Nat) (m : Int), cs = [.int .u32 (a : Int), .int .i64 m] ∧ a < 4294967296 ∧ I64 m := by
  obtain ⟨y0, y1, n', _, hlen, h0, h1⟩ := trod_struct2 Tryz.underlying35 h
  rw [cells35] at hlen
  match cs, hlen with
  | [c0, c1], _ =>
    have h0' : DataW.trod enc Tryz.prog w base spare held n' 33 [c0] = some y0 := h0
    have h1' : DataW.trod enc Tryz.prog w base spare held n' 3 [c1] = some y1 := h1
    obtain ⟨x, e0, _, wx⟩ := DataW.trod_int Tryz.underlying33 h0'
    obtain ⟨y, e1, _, wy⟩ := DataW.trod_int Tryz.underlying3 h1'
    simp at e0 e1
    subst e0 e1
    have b0 := bounds_u32 wx
    obtain ⟨x', rfl⟩ := Int.eq_ofNat_of_zero_le b0.1
    exact ⟨x', y, rfl, by omega, bounds_i64 wy⟩
theorem trodAll_below {W W' : World} (hb : Below W.heap.size W W') : ∀ {ts : List TypeId} {vs : List Value} {ds : List (DataW H)} {ps : List MemPlace},
    (∀ t ∈ ts, Tryz.prog.readableRec t = true ∧ t < Tryz.prog.types.size) → DataW.TrodAll enc Tryz.prog W 0 (fun _ => true) true ts vs ds ps → (∀ x ∈ ps, x.block < W.heap.size) →
    DataW.TrodAll enc Tryz.prog W' 0 (fun b => decide (b < W.heap.size)) true ts vs ds ps
  | [], vs, ds, ps, _, h, _ => by
    obtain ⟨rfl, rfl, rfl⟩ := trodAll_nil h
    exact trodAll_mk0
  | t :: ts, vs, ds, ps, hr, h, hlt => by
    obtain ⟨v0, vs0, d0, ds0, p0, q0, rfl, rfl, rfl, h0, r0⟩ := trodAll_cons h
    exact trodAll_cons_mk (Below.trod laidOut (hr t (by simp)).1 (hr t (by simp)).2 h0 hb (fun x hx => hlt x (by simp [hx])))
      (trodAll_below hb (fun t ht => hr t (by simp [ht])) r0 (fun x hx => hlt x (by simp [hx])))
end
end Go.Proofs.YtegponbmelgngaaGreat
end

section
namespace Go.Proofs.YtegponbmelgngaaGreat
set_option maxRecDepth 100000
set_option linter.unusedSimpArgs false
set_option linter.unusedVariables false
open Go.ChangeShapes Go.WideShapes Go.ChangeAt Go.RowKit Go.Joins
theorem cells37 : Tryz.prog.cellsOf 37 = 3 := by kernel_rfl
section
variable {H : Type} {enc : TypeId × Value → H} {w : World}
theorem trod_entry {base : Nat} {spare : Nat → Bool} {held : Bool} {n : Nat} {cs : List Value} {x : DataW H × List MemPlace} (h : DataW.trod enc Tryz.prog w base spare held n 37 cs = some x) :
    ∃ e : En, cs = [.int .u32 (e.1.1 : Int), .int .i64 e.1.2, .int .i64 e.2] ∧ e.1.1 < 4294967296 ∧ I64 e.1.2 := by
  obtain ⟨y0, y1, n', _, hlen, h0, h1⟩ := trod_struct2 Tryz.underlying37 h
  rw [cells37] at hlen
  match cs, hlen with
  | [c0, c1, c2], _ =>
    have h0' : DataW.trod enc Tryz.prog w base spare held n' 35 [c0, c1] = some y0 := by have := h0; dsimp only at this; rw [cells35] at this; exact this
    have h1' : DataW.trod enc Tryz.prog w base spare held n' 3 [c2] = some y1 := by have := h1; dsimp only at this; rw [cells3] at this; exact this
    obtain ⟨a, m, e0, ha, hm⟩ := trod_prefix h0'
    obtain ⟨y, e1, _, wy⟩ := DataW.trod_int Tryz.underlying3 h1'
    simp at e0 e1
    obtain ⟨rfl, rfl⟩ := e0
    subst e1
    exact ⟨((a, m), y), rfl, ha, hm⟩
theorem open_rdE {r : Reach} {b0 base : Nat} {spare : Nat → Bool} {held : Bool} {v : Value} {d : DataW H} {p : List MemPlace}
    (hv : Value.okWide Tryz.prog w r b0 22 v) (h : DataW.Trod enc Tryz.prog w base spare held 22 v d p) : ∃ l, RdE w v l ∧ Fit l := by
  obtain ⟨a0, len, cap, rfl⟩ := okWide_slice Tryz.underlying22 hv
  obtain ⟨fuel, hf⟩ := h
  rcases Deep.open_slice Tryz.underlying22 hf with ⟨hcs, _⟩ | ⟨a, len', cap', m, n, D, Pl, hcs, _, hl, hm, hmm, _, hi⟩
  · simp [Value.cells] at hcs
    obtain ⟨rfl, rfl, rfl⟩ := hcs
    exact ⟨[], rdE_nil w, fun x hx => (by cases hx)⟩
  · simp [Value.cells] at hcs
    obtain ⟨rfl, rfl, rfl⟩ := hcs
    have hle : len ≤ m := by rw [hmm]; split <;> omega
    have hx : ∀ i, i < len → ∃ x : En, (w.cell? (a.add (i * 3)) = some (.int .u32 (x.1.1 : Int)) ∧ w.cell? (a.add (i * 3 + 1)) = some (.int .i64 x.1.2) ∧ w.cell? (a.add (i * 3 + 2)) = some (.int .i64 x.2)) ∧ x.1.1 < 4294967296 ∧ I64 x.1.2 := by
      intro i him
      obtain ⟨cs', hc, ht⟩ := hi i (by omega)
      rw [cells37] at hc
      obtain ⟨_, hlen, hat⟩ := World.cells?_some hc
      obtain ⟨e, rfl, h1, h2⟩ := trod_entry ht
      have k0 := hat 0 (by omega)
      have k1 := hat 1 (by omega)
      have k2 := hat 2 (by omega)
      refine ⟨e, ⟨?_, ?_, ?_⟩, h1, h2⟩
      · rw [Deep.add_add] at k0; exact k0
      · rw [Deep.add_add] at k1; exact k1
      · rw [Deep.add_add] at k2; exact k2
    obtain ⟨Vf, hV⟩ := Deep.choose_lt hx
    refine ⟨(List.range len).map Vf, ⟨some a, cap, by simp, fun k x hk => ?_⟩, fun x hx' => ?_⟩
    · have hkl : k < len := by have := (List.getElem?_eq_some_iff.1 hk).1; simpa using this
      have e : x = Vf k := by simpa [hkl] using hk.symm
      subst e
      obtain ⟨⟨c0, c1, c2⟩, _⟩ := hV k hkl
      have hsp : a.spot = none := by simpa [Addr.add] using World.cell?_spot (hV 0 (by omega)).1.1
      obtain ⟨b, off, spot⟩ := a
      obtain rfl : spot = none := hsp
      rw [Addr.add_lit] at c0 c1 c2
      exact ⟨b, off, rfl, World.block_lt_of_cell? _ _ c0, c0, by rw [Nat.add_assoc]; exact c1, by rw [Nat.add_assoc]; exact c2⟩
    · obtain ⟨i, hi', rfl⟩ := List.mem_map.1 hx'
      exact (hV i (by simpa using hi')).2
end
end Go.Proofs.YtegponbmelgngaaGreat
end

section
namespace Go.Proofs.YtegponbmelgngaaGreat
set_option maxRecDepth 100000
set_option linter.unusedSimpArgs false
set_option linter.unusedVariables false
open Go.ChangeShapes Go.WideShapes Go.ChangeAt Go.RowKit Go.Joins
section
variable {H : Type} {enc : TypeId × Value → H} {w : World}
theorem trod_entryX {base : Nat} {spare : Nat → Bool} {held : Bool} {n : Nat} {cs : List Value} {x : DataW H × List MemPlace} (h : DataW.trod enc Tryz.prog w base spare held n 37 cs = some x) :
    ∃ e : En, cs = [.int .u32 (e.1.1 : Int), .int .i64 e.1.2, .int .i64 e.2] ∧ e.1.1 < 4294967296 ∧ I64 e.1.2 ∧ I64 e.2 := by
  obtain ⟨y0, y1, n', _, hlen, h0, h1⟩ := trod_struct2 Tryz.underlying37 h
  rw [cells37] at hlen
  match cs, hlen with
  | [c0, c1, c2], _ =>
    have h0' : DataW.trod enc Tryz.prog w base spare held n' 35 [c0, c1] = some y0 := by have := h0; dsimp only at this; rw [cells35] at this; exact this
    have h1' : DataW.trod enc Tryz.prog w base spare held n' 3 [c2] = some y1 := by have := h1; dsimp only at this; rw [cells3] at this; exact this
    obtain ⟨a, m, e0, ha, hm⟩ := trod_prefix h0'
    obtain ⟨y, e1, _, wy⟩ := DataW.trod_int Tryz.underlying3 h1'
    simp at e0 e1
    obtain ⟨rfl, rfl⟩ := e0
    subst e1
    exact ⟨((a, m), y), rfl, ha, hm, bounds_i64 wy⟩
theorem open_rdX {r : Reach} {b0 base : Nat} {spare : Nat → Bool} {held : Bool} {v : Value} {d : DataW H} {p : List MemPlace}
    (hv : Value.okWide Tryz.prog w r b0 22 v) (h : DataW.Trod enc Tryz.prog w base spare held 22 v d p) : ∃ l, RdE w v l ∧ FitE l ∧ NilE v ∧ CapE v := by
  obtain ⟨a0, len, cap, rfl⟩ := okWide_slice Tryz.underlying22 hv
  obtain ⟨fuel, hf⟩ := h
  rcases Deep.open_slice Tryz.underlying22 hf with ⟨hcs, _⟩ | ⟨a, len', cap', m, n, D, Pl, hcs, _, hl, hm, hmm, _, hi⟩
  · simp [Value.cells] at hcs
    obtain ⟨rfl, rfl, rfl⟩ := hcs
    exact ⟨[], rdE_nil w, (fun x hx => by cases hx), (fun n c e => by cases e; rfl), (fun ad n c e => by cases e; exact Nat.le_refl _)⟩
  · simp [Value.cells] at hcs
    obtain ⟨rfl, rfl, rfl⟩ := hcs
    have hle : len ≤ m := by rw [hmm]; split <;> omega
    have hx : ∀ i, i < len → ∃ x : En, (w.cell? (a.add (i * 3)) = some (.int .u32 (x.1.1 : Int)) ∧ w.cell? (a.add (i * 3 + 1)) = some (.int .i64 x.1.2) ∧ w.cell? (a.add (i * 3 + 2)) = some (.int .i64 x.2)) ∧ x.1.1 < 4294967296 ∧ I64 x.1.2 ∧ I64 x.2 := by
      intro i him
      obtain ⟨cs', hc, ht⟩ := hi i (by omega)
      rw [cells37] at hc
      obtain ⟨_, hlen, hat⟩ := World.cells?_some hc
      obtain ⟨e, rfl, h1, h2⟩ := trod_entryX ht
      have k0 := hat 0 (by omega)
      have k1 := hat 1 (by omega)
      have k2 := hat 2 (by omega)
      refine ⟨e, ⟨?_, ?_, ?_⟩, h1, h2⟩
      · rw [Deep.add_add] at k0; exact k0
      · rw [Deep.add_add] at k1; exact k1
      · rw [Deep.add_add] at k2; exact k2
    obtain ⟨Vf, hV⟩ := Deep.choose_lt hx
    refine ⟨(List.range len).map Vf, ⟨some a, cap, by simp, fun k x hk => ?_⟩, fun x hx' => ?_, (fun n c e => by cases e), (fun ad n c e => by cases e; exact hl)⟩
    · have hkl : k < len := by have := (List.getElem?_eq_some_iff.1 hk).1; simpa using this
      have e : x = Vf k := by simpa [hkl] using hk.symm
      subst e
      obtain ⟨⟨c0, c1, c2⟩, _⟩ := hV k hkl
      have hsp : a.spot = none := by simpa [Addr.add] using World.cell?_spot (hV 0 (by omega)).1.1
      obtain ⟨b, off, spot⟩ := a
      obtain rfl : spot = none := hsp
      rw [Addr.add_lit] at c0 c1 c2
      exact ⟨b, off, rfl, World.block_lt_of_cell? _ _ c0, c0, by rw [Nat.add_assoc]; exact c1, by rw [Nat.add_assoc]; exact c2⟩
    · obtain ⟨i, hi', rfl⟩ := List.mem_map.1 hx'
      exact (hV i (by simpa using hi')).2
end
end Go.Proofs.YtegponbmelgngaaGreat
end
