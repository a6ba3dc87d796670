/-
  What all proofs over this seat's rows share: how arguments are opened, how they read behind a call that only makes memory.
-/
import Derived.Test.YtenfcnappjekgaaLaW
import Derived.Test.YtenfcnappjekgaaLyA
import Derived.ProofKit
import Derived.OpenShut
import Derived.SizedLaws
import Derived.Carry
import Derived.Deep.Slices
namespace Go.Proofs.Ytenfcnappjekgaa
set_option maxRecDepth 100000
set_option linter.unusedSimpArgs false
set_option linter.unusedVariables false
open Go.ChangeShapes Go.WideShapes Go.ChangeAt Go.RowKit

theorem own : ownKnob Try.prog.godebug = none := by kernel_rfl
theorem cells3 : Try.prog.cellsOf 3 = 1 := by kernel_rfl
theorem cells4 : Try.prog.cellsOf 4 = 1 := by kernel_rfl
theorem cells5 : Try.prog.cellsOf 5 = 1 := by kernel_rfl
theorem cells22 : Try.prog.cellsOf 22 = 1 := by kernel_rfl
theorem cells24 : Try.prog.cellsOf 24 = 7 := by kernel_rfl
theorem cells35 : Try.prog.cellsOf 35 = 4 := by kernel_rfl
theorem cells25 : Try.prog.cellsOf 25 = 1 := by kernel_rfl
theorem cells26 : Try.prog.cellsOf 26 = 1 := by kernel_rfl
theorem cells27 : Try.prog.cellsOf 27 = 1 := by kernel_rfl
theorem cells29 : Try.prog.cellsOf 29 = 15 := by kernel_rfl
theorem cells73 : Try.prog.cellsOf 73 = 4 := by kernel_rfl
theorem bytes5 : Try.prog.bytesOf 5 = 1 := by kernel_rfl
theorem laidOut : laidOutB Try.prog = true := by kernel_rfl
section
variable {H : Type} {enc : TypeId × Value → H} {w : World}
theorem trod_hd {base : Nat} {spare : Nat → Bool} {held : Bool} {n : Nat} {cs : List Value} {x : DataW H × List MemPlace} (h : DataW.trod enc Try.prog w base spare held n 24 cs = some x) :
    ∃ h : Hd, HdOk h ∧ cs = [.int .i64 h.ty, .int .u32 (h.id : Int), .int .i64 h.len, .int .u32 (h.rt : Int), .int .i64 h.seq, .int .i64 h.age, .int .i64 h.sum] := by
  obtain ⟨xs, n', _, _, hlen, hxs, hf⟩ := DataW.trod_struct Try.underlying24 h
  rw [cells24] at hlen
  match xs, hxs with
  | [y0, y1, y2, y3, y4, y5, y6], _ =>
    match cs, hlen with
    | [c0, c1, c2, c3, c4, c5, c6], _ =>
      have h0 : DataW.trod enc Try.prog w base spare held n' 3 (([c0, c1, c2, c3, c4, c5, c6].drop 0).take (Try.prog.cellsOf 3)) = some y0 := hf 0 _ rfl
      rw [cells3] at h0
      have h0' : DataW.trod enc Try.prog w base spare held n' 3 [c0] = some y0 := h0
      obtain ⟨z0, e0, _, w0⟩ := DataW.trod_int Try.underlying3 h0'
      have h1 : DataW.trod enc Try.prog w base spare held n' 22 (([c0, c1, c2, c3, c4, c5, c6].drop 1).take (Try.prog.cellsOf 22)) = some y1 := hf 1 _ rfl
      rw [cells22] at h1
      have h1' : DataW.trod enc Try.prog w base spare held n' 22 [c1] = some y1 := h1
      obtain ⟨z1, e1, _, w1⟩ := DataW.trod_int Try.underlying22 h1'
      have b1 := bounds_u32 w1
      have h2 : DataW.trod enc Try.prog w base spare held n' 3 (([c0, c1, c2, c3, c4, c5, c6].drop 2).take (Try.prog.cellsOf 3)) = some y2 := hf 2 _ rfl
      rw [cells3] at h2
      have h2' : DataW.trod enc Try.prog w base spare held n' 3 [c2] = some y2 := h2
      obtain ⟨z2, e2, _, w2⟩ := DataW.trod_int Try.underlying3 h2'
      have h3 : DataW.trod enc Try.prog w base spare held n' 22 (([c0, c1, c2, c3, c4, c5, c6].drop 3).take (Try.prog.cellsOf 22)) = some y3 := hf 3 _ rfl
      rw [cells22] at h3
      have h3' : DataW.trod enc Try.prog w base spare held n' 22 [c3] = some y3 := h3
      obtain ⟨z3, e3, _, w3⟩ := DataW.trod_int Try.underlying22 h3'
      have b3 := bounds_u32 w3
      have h4 : DataW.trod enc Try.prog w base spare held n' 3 (([c0, c1, c2, c3, c4, c5, c6].drop 4).take (Try.prog.cellsOf 3)) = some y4 := hf 4 _ rfl
      rw [cells3] at h4
      have h4' : DataW.trod enc Try.prog w base spare held n' 3 [c4] = some y4 := h4
      obtain ⟨z4, e4, _, w4⟩ := DataW.trod_int Try.underlying3 h4'
      have h5 : DataW.trod enc Try.prog w base spare held n' 3 (([c0, c1, c2, c3, c4, c5, c6].drop 5).take (Try.prog.cellsOf 3)) = some y5 := hf 5 _ rfl
      rw [cells3] at h5
      have h5' : DataW.trod enc Try.prog w base spare held n' 3 [c5] = some y5 := h5
      obtain ⟨z5, e5, _, w5⟩ := DataW.trod_int Try.underlying3 h5'
      have h6 : DataW.trod enc Try.prog w base spare held n' 3 (([c0, c1, c2, c3, c4, c5, c6].drop 6).take (Try.prog.cellsOf 3)) = some y6 := hf 6 _ rfl
      rw [cells3] at h6
      have h6' : DataW.trod enc Try.prog w base spare held n' 3 [c6] = some y6 := h6
      obtain ⟨z6, e6, _, w6⟩ := DataW.trod_int Try.underlying3 h6'
      simp at e0 e1 e2 e3 e4 e5 e6
      subst e0 e1 e2 e3 e4 e5 e6
      obtain ⟨q1, rfl⟩ := Int.eq_ofNat_of_zero_le b1.1
      obtain ⟨q3, rfl⟩ := Int.eq_ofNat_of_zero_le b3.1
      exact ⟨⟨z0, q1, z2, q3, z4, z5, z6⟩, ⟨bounds_i64 w0, by show q1 < _; omega, bounds_i64 w2, by show q3 < _; omega, bounds_i64 w4, bounds_i64 w5, bounds_i64 w6⟩, rfl⟩
theorem trod_ke {base : Nat} {spare : Nat → Bool} {held : Bool} {n : Nat} {cs : List Value} {x : DataW H × List MemPlace} (h : DataW.trod enc Try.prog w base spare held n 35 cs = some x) :
    ∃ (a : Int) (b : Nat) (c : Int) (d : Nat), cs = [.int .i64 a, .int .u32 (b : Int), .int .i64 c, .int .u32 (d : Int)] ∧ I64 a ∧ b < 4294967296 ∧ I64 c ∧ d < 4294967296 := by
  obtain ⟨xs, n', _, _, hlen, hxs, hf⟩ := DataW.trod_struct Try.underlying35 h
  rw [cells35] at hlen
  match xs, hxs with
  | [y0, y1, y2, y3], _ =>
    match cs, hlen with
    | [c0, c1, c2, c3], _ =>
      have h0 : DataW.trod enc Try.prog w base spare held n' 3 (([c0, c1, c2, c3].drop 0).take (Try.prog.cellsOf 3)) = some y0 := hf 0 _ rfl
      rw [cells3] at h0
      have h0' : DataW.trod enc Try.prog w base spare held n' 3 [c0] = some y0 := h0
      obtain ⟨z0, e0, _, w0⟩ := DataW.trod_int Try.underlying3 h0'
      have h1 : DataW.trod enc Try.prog w base spare held n' 22 (([c0, c1, c2, c3].drop 1).take (Try.prog.cellsOf 22)) = some y1 := hf 1 _ rfl
      rw [cells22] at h1
      have h1' : DataW.trod enc Try.prog w base spare held n' 22 [c1] = some y1 := h1
      obtain ⟨z1, e1, _, w1⟩ := DataW.trod_int Try.underlying22 h1'
      have b1 := bounds_u32 w1
      have h2 : DataW.trod enc Try.prog w base spare held n' 3 (([c0, c1, c2, c3].drop 2).take (Try.prog.cellsOf 3)) = some y2 := hf 2 _ rfl
      rw [cells3] at h2
      have h2' : DataW.trod enc Try.prog w base spare held n' 3 [c2] = some y2 := h2
      obtain ⟨z2, e2, _, w2⟩ := DataW.trod_int Try.underlying3 h2'
      have h3 : DataW.trod enc Try.prog w base spare held n' 22 (([c0, c1, c2, c3].drop 3).take (Try.prog.cellsOf 22)) = some y3 := hf 3 _ rfl
      rw [cells22] at h3
      have h3' : DataW.trod enc Try.prog w base spare held n' 22 [c3] = some y3 := h3
      obtain ⟨z3, e3, _, w3⟩ := DataW.trod_int Try.underlying22 h3'
      have b3 := bounds_u32 w3
      simp at e0 e1 e2 e3
      subst e0 e1 e2 e3
      obtain ⟨q1, rfl⟩ := Int.eq_ofNat_of_zero_le b1.1
      obtain ⟨q3, rfl⟩ := Int.eq_ofNat_of_zero_le b3.1
      exact ⟨z0, q1, z2, q3, rfl, bounds_i64 w0, by omega, bounds_i64 w2, by omega⟩
theorem open_hd {r : Reach} {b0 : Nat} {spare : Nat → Bool} {v : Value} {d : DataW H} {p : List MemPlace} (hv : Value.okWide Try.prog w r b0 24 v) (h : DataW.Trod enc Try.prog w 0 spare true 24 v d p) :
    ∃ h : Hd, HdOk h ∧ v = hdV h := by
  obtain ⟨cs, rfl, hsz⟩ : ∃ cs : Array Value, v = .agg cs ∧ cs.size = 7 := by
    simp only [Value.okWide, Try.underlying24] at hv
    obtain ⟨cs, h1, h2, _⟩ := hv
    exact ⟨cs, h1, by rw [h2, cells24]⟩
  obtain ⟨fuel, hf⟩ := h
  obtain ⟨z, hz, hx⟩ := trod_hd hf
  refine ⟨z, hz, ?_⟩
  have e : cs.toList = [.int .i64 z.ty, .int .u32 (z.id : Int), .int .i64 z.len, .int .u32 (z.rt : Int), .int .i64 z.seq, .int .i64 z.age, .int .i64 z.sum] := by simpa [Value.cells] using hx
  obtain ⟨l⟩ := cs
  simp at e
  subst e
  rfl
theorem open_ke {r : Reach} {b0 : Nat} {spare : Nat → Bool} {v : Value} {d : DataW H} {p : List MemPlace} (hv : Value.okWide Try.prog w r b0 35 v) (h : DataW.Trod enc Try.prog w 0 spare true 35 v d p) :
    ∃ (a : Int) (b : Nat) (c : Int) (d : Nat), v = keV a b c d := by
  obtain ⟨cs, rfl, hsz⟩ : ∃ cs : Array Value, v = .agg cs ∧ cs.size = 4 := by
    simp only [Value.okWide, Try.underlying35] at hv
    obtain ⟨cs, h1, h2, _⟩ := hv
    exact ⟨cs, h1, by rw [h2, cells35]⟩
  obtain ⟨fuel, hf⟩ := h
  obtain ⟨a, b, c, d, hx, _, _, _, _⟩ := trod_ke hf
  refine ⟨a, b, c, d, ?_⟩
  have e : cs.toList = [.int .i64 a, .int .u32 (b : Int), .int .i64 c, .int .u32 (d : Int)] := by simpa [Value.cells] using hx
  obtain ⟨l⟩ := cs
  simp at e
  subst e
  rfl
theorem trod_lk {base : Nat} {spare : Nat → Bool} {held : Bool} {n : Nat} {cs : List Value} {x : DataW H × List MemPlace} (h : DataW.trod enc Try.prog w base spare held n 73 cs = some x) :
    ∃ x : Lk, LkOk x ∧ cs = [.int .i64 x.kind, .int .u32 (x.id : Int), .int .u32 (x.data : Int), .int .i64 x.cost] := by
  obtain ⟨xs, n', _, _, hlen, hxs, hf⟩ := DataW.trod_struct Try.underlying73 h
  rw [cells73] at hlen
  match xs, hxs with
  | [y0, y1, y2, y3], _ =>
    match cs, hlen with
    | [c0, c1, c2, c3], _ =>
      have h0 : DataW.trod enc Try.prog w base spare held n' 3 (([c0, c1, c2, c3].drop 0).take (Try.prog.cellsOf 3)) = some y0 := hf 0 _ rfl
      rw [cells3] at h0
      have h0' : DataW.trod enc Try.prog w base spare held n' 3 [c0] = some y0 := h0
      obtain ⟨z0, e0, _, w0⟩ := DataW.trod_int Try.underlying3 h0'
      have h1 : DataW.trod enc Try.prog w base spare held n' 22 (([c0, c1, c2, c3].drop 1).take (Try.prog.cellsOf 22)) = some y1 := hf 1 _ rfl
      rw [cells22] at h1
      have h1' : DataW.trod enc Try.prog w base spare held n' 22 [c1] = some y1 := h1
      obtain ⟨z1, e1, _, w1⟩ := DataW.trod_int Try.underlying22 h1'
      have b1 := bounds_u32 w1
      have h2 : DataW.trod enc Try.prog w base spare held n' 22 (([c0, c1, c2, c3].drop 2).take (Try.prog.cellsOf 22)) = some y2 := hf 2 _ rfl
      rw [cells22] at h2
      have h2' : DataW.trod enc Try.prog w base spare held n' 22 [c2] = some y2 := h2
      obtain ⟨z2, e2, _, w2⟩ := DataW.trod_int Try.underlying22 h2'
      have b2 := bounds_u32 w2
      have h3 : DataW.trod enc Try.prog w base spare held n' 3 (([c0, c1, c2, c3].drop 3).take (Try.prog.cellsOf 3)) = some y3 := hf 3 _ rfl
      rw [cells3] at h3
      have h3' : DataW.trod enc Try.prog w base spare held n' 3 [c3] = some y3 := h3
      obtain ⟨z3, e3, _, w3⟩ := DataW.trod_int Try.underlying3 h3'
      simp at e0 e1 e2 e3
      subst e0 e1 e2 e3
      obtain ⟨q1, rfl⟩ := Int.eq_ofNat_of_zero_le b1.1
      obtain ⟨q2, rfl⟩ := Int.eq_ofNat_of_zero_le b2.1
      exact ⟨⟨z0, q1, q2, z3⟩, ⟨bounds_i64 w0, by show q1 < _; omega, by show q2 < _; omega, bounds_i64 w3⟩, rfl⟩
instance : Inhabited Lk := ⟨⟨0, 0, 0, 0⟩⟩
theorem rdL_nil (w : World) : RdL w (.slice none 0 0) [] := by
  refine ⟨none, 0, rfl, ⟨Nat.le_refl _, by omega⟩, ?_, ?_⟩
  · intro r h; cases h
  · intro k r h; simp at h
theorem rdW_nil (w : World) : RdW w (.slice none 0 0) [] := by
  refine ⟨none, 0, rfl, ⟨Nat.le_refl _, by omega⟩, ?_, ?_⟩
  · intro r h; cases h
  · intro k r h; simp at h
theorem trod_links {spare : Nat → Bool} {n : Nat} {c : Value} {y : DataW H × List MemPlace} (hf : DataW.trod enc Try.prog w 0 spare true n 25 [c] = some y) : ∃ ad cap ls, c = .slice ad ls.length cap ∧ RdL w c ls := by
  rcases Deep.open_slice Try.underlying25 hf with ⟨hcs, _⟩ | ⟨a, len0, cap0, m, n, D, Pl, hcs, _, hl, hm, hmm, _, hi⟩
  · simp at hcs
    subst hcs
    exact ⟨none, 0, [], rfl, rdL_nil w⟩
  · simp at hcs
    subst hcs
    have hle : len0 ≤ m := by rw [hmm]; split <;> omega
    have hx : ∀ i, i < len0 → ∃ x : Lk, LkOk x ∧ w.cell? (a.add (i * 4)) = some (.int .i64 x.kind) ∧ w.cell? (a.add (i * 4 + 1)) = some (.int .u32 (x.id : Int)) ∧ w.cell? (a.add (i * 4 + 2)) = some (.int .u32 (x.data : Int)) ∧ w.cell? (a.add (i * 4 + 3)) = some (.int .i64 x.cost) := by
      intro i him
      obtain ⟨cs', hcc, ht⟩ := hi i (by omega)
      rw [cells73] at hcc
      obtain ⟨_, hlen, hat⟩ := World.cells?_some hcc
      obtain ⟨e, ho, rfl⟩ := trod_lk ht
      have k0 := hat 0 (by omega)
      have k1 := hat 1 (by omega)
      have k2 := hat 2 (by omega)
      have k3 := hat 3 (by omega)
      refine ⟨e, ho, ?_, ?_, ?_, ?_⟩
      · rw [Deep.add_add] at k0; exact k0
      · rw [Deep.add_add] at k1; exact k1
      · rw [Deep.add_add] at k2; exact k2
      · rw [Deep.add_add] at k3; exact k3
    obtain ⟨Vf, hV⟩ := Deep.choose_lt hx
    refine ⟨some a, cap0, (List.range len0).map Vf, by simp, some a, cap0, by simp, ⟨by simpa using hl, by unfold maxLen at hm; omega⟩, fun x hx => ?_, fun k x hk => ?_⟩
    · obtain ⟨k, hk, rfl⟩ := List.mem_map.1 hx
      exact (hV k (List.mem_range.1 hk)).1
    · have hkl : k < len0 := by have := (List.getElem?_eq_some_iff.1 hk).1; simpa using this
      have e : x = Vf k := by simpa [hkl] using hk.symm
      subst e
      obtain ⟨_, c0, c1, c2, c3⟩ := hV k hkl
      have hsp : a.spot = none := by simpa [Addr.add] using World.cell?_spot (hV 0 (by omega)).2.1
      obtain ⟨b, off, spot⟩ := a
      obtain rfl : spot = none := hsp
      rw [Addr.add_lit] at c0 c1 c2 c3
      exact ⟨b, off, rfl, World.block_lt_of_cell? _ _ c0, c0, by rw [Nat.add_assoc]; exact c1, by rw [Nat.add_assoc]; exact c2, by rw [Nat.add_assoc]; exact c3⟩
theorem trod_words {spare : Nat → Bool} {n : Nat} {c : Value} {y : DataW H × List MemPlace} (hf : DataW.trod enc Try.prog w 0 spare true n 26 [c] = some y) : ∃ ad cap l, c = .slice ad l.length cap ∧ RdW w c l := by
  rcases Deep.open_slice Try.underlying26 hf with ⟨hcs, _⟩ | ⟨a, len0, cap0, m, n, D, Pl, hcs, _, hl, hm, hmm, _, hi⟩
  · simp at hcs
    subst hcs
    exact ⟨none, 0, [], rfl, rdW_nil w⟩
  · simp at hcs
    subst hcs
    have hle : len0 ≤ m := by rw [hmm]; split <;> omega
    have hx : ∀ i, i < len0 → ∃ x : Nat, x < 4294967296 ∧ w.cell? (a.add i) = some (.int .u32 (x : Int)) := by
      intro i him
      obtain ⟨cs', hcc, ht⟩ := hi i (by omega)
      rw [cells22] at hcc
      obtain ⟨_, hlen, hat⟩ := World.cells?_some hcc
      obtain ⟨z, e0, _, w0⟩ := DataW.trod_int Try.underlying22 ht
      have b0 := bounds_u32 w0
      obtain ⟨q, rfl⟩ := Int.eq_ofNat_of_zero_le b0.1
      have k0 := hat 0 (by omega)
      subst e0
      rw [Deep.add_add] at k0
      exact ⟨q, by omega, by simpa using k0⟩
    obtain ⟨Vf, hV⟩ := Deep.choose_lt hx
    refine ⟨some a, cap0, (List.range len0).map Vf, by simp, some a, cap0, by simp, ⟨by simpa using hl, by unfold maxLen at hm; omega⟩, fun x hx => ?_, fun k x hk => ?_⟩
    · obtain ⟨k, hk, rfl⟩ := List.mem_map.1 hx
      exact (hV k (List.mem_range.1 hk)).1
    · have hkl : k < len0 := by have := (List.getElem?_eq_some_iff.1 hk).1; simpa using this
      have e : x = Vf k := by simpa [hkl] using hk.symm
      subst e
      obtain ⟨_, c0⟩ := hV k hkl
      have hsp : a.spot = none := by simpa [Addr.add] using World.cell?_spot (hV 0 (by omega)).2
      obtain ⟨b, off, spot⟩ := a
      obtain rfl : spot = none := hsp
      rw [Addr.add_lit] at c0
      exact ⟨b, off, rfl, World.block_lt_of_cell? _ _ c0, c0⟩
theorem trod_ls {spare : Nat → Bool} {n : Nat} {cs : List Value} {x : DataW H × List MemPlace} (h : DataW.trod enc Try.prog w 0 spare true n 29 cs = some x) :
    ∃ X : Ls, LsOk X ∧ ∃ aL cL aA cA, RdL w (.slice aL X.ls.length cL) X.ls ∧ RdW w (.slice aA X.ats.length cA) X.ats ∧ cs = [.int .i64 X.h.ty, .int .u32 (X.h.id : Int), .int .i64 X.h.len, .int .u32 (X.h.rt : Int), .int .i64 X.h.seq, .int .i64 X.h.age, .int .i64 X.h.sum, .bool X.bo, .bool X.bd, .slice aL X.ls.length cL, .slice aA X.ats.length cA, .int .i64 X.co, .bool X.se, .int .u32 (X.fw : Int), .int .i64 X.ta] := by
  obtain ⟨xs, n', _, _, hlen, hxs, hf⟩ := DataW.trod_struct Try.underlying29 h
  rw [cells29] at hlen
  match xs, hxs with
  | [y0, y1, y2, y3, y4, y5, y6, y7, y8], _ =>
    match cs, hlen with
    | [c0, c1, c2, c3, c4, c5, c6, c7, c8, c9, c10, c11, c12, c13, c14], _ =>
      have h0 : DataW.trod enc Try.prog w 0 spare true n' 24 (([c0, c1, c2, c3, c4, c5, c6, c7, c8, c9, c10, c11, c12, c13, c14].drop 0).take (Try.prog.cellsOf 24)) = some y0 := hf 0 _ rfl
      rw [cells24] at h0
      have h0' : DataW.trod enc Try.prog w 0 spare true n' 24 [c0, c1, c2, c3, c4, c5, c6] = some y0 := h0
      have h1 : DataW.trod enc Try.prog w 0 spare true n' 4 (([c0, c1, c2, c3, c4, c5, c6, c7, c8, c9, c10, c11, c12, c13, c14].drop 7).take (Try.prog.cellsOf 4)) = some y1 := hf 1 _ rfl
      rw [cells4] at h1
      have h1' : DataW.trod enc Try.prog w 0 spare true n' 4 [c7] = some y1 := h1
      have h2 : DataW.trod enc Try.prog w 0 spare true n' 4 (([c0, c1, c2, c3, c4, c5, c6, c7, c8, c9, c10, c11, c12, c13, c14].drop 8).take (Try.prog.cellsOf 4)) = some y2 := hf 2 _ rfl
      rw [cells4] at h2
      have h2' : DataW.trod enc Try.prog w 0 spare true n' 4 [c8] = some y2 := h2
      have h3 : DataW.trod enc Try.prog w 0 spare true n' 25 (([c0, c1, c2, c3, c4, c5, c6, c7, c8, c9, c10, c11, c12, c13, c14].drop 9).take (Try.prog.cellsOf 25)) = some y3 := hf 3 _ rfl
      rw [cells25] at h3
      have h3' : DataW.trod enc Try.prog w 0 spare true n' 25 [c9] = some y3 := h3
      have h4 : DataW.trod enc Try.prog w 0 spare true n' 26 (([c0, c1, c2, c3, c4, c5, c6, c7, c8, c9, c10, c11, c12, c13, c14].drop 10).take (Try.prog.cellsOf 26)) = some y4 := hf 4 _ rfl
      rw [cells26] at h4
      have h4' : DataW.trod enc Try.prog w 0 spare true n' 26 [c10] = some y4 := h4
      have h5 : DataW.trod enc Try.prog w 0 spare true n' 3 (([c0, c1, c2, c3, c4, c5, c6, c7, c8, c9, c10, c11, c12, c13, c14].drop 11).take (Try.prog.cellsOf 3)) = some y5 := hf 5 _ rfl
      rw [cells3] at h5
      have h5' : DataW.trod enc Try.prog w 0 spare true n' 3 [c11] = some y5 := h5
      have h6 : DataW.trod enc Try.prog w 0 spare true n' 4 (([c0, c1, c2, c3, c4, c5, c6, c7, c8, c9, c10, c11, c12, c13, c14].drop 12).take (Try.prog.cellsOf 4)) = some y6 := hf 6 _ rfl
      rw [cells4] at h6
      have h6' : DataW.trod enc Try.prog w 0 spare true n' 4 [c12] = some y6 := h6
      have h7 : DataW.trod enc Try.prog w 0 spare true n' 27 (([c0, c1, c2, c3, c4, c5, c6, c7, c8, c9, c10, c11, c12, c13, c14].drop 13).take (Try.prog.cellsOf 27)) = some y7 := hf 7 _ rfl
      rw [cells27] at h7
      have h7' : DataW.trod enc Try.prog w 0 spare true n' 27 [c13] = some y7 := h7
      have h8 : DataW.trod enc Try.prog w 0 spare true n' 3 (([c0, c1, c2, c3, c4, c5, c6, c7, c8, c9, c10, c11, c12, c13, c14].drop 14).take (Try.prog.cellsOf 3)) = some y8 := hf 8 _ rfl
      rw [cells3] at h8
      have h8' : DataW.trod enc Try.prog w 0 spare true n' 3 [c14] = some y8 := h8
      obtain ⟨hd, hdo, e0⟩ := trod_hd h0'
      obtain ⟨z1, e1, _⟩ := DataW.trod_bool Try.underlying4 h1'
      obtain ⟨z2, e2, _⟩ := DataW.trod_bool Try.underlying4 h2'
      obtain ⟨aL, cL, ls, e3, r3⟩ := trod_links h3'
      obtain ⟨aA, cA, l, e4, r4⟩ := trod_words h4'
      obtain ⟨z5, e5, _, w5⟩ := DataW.trod_int Try.underlying3 h5'
      obtain ⟨z6, e6, _⟩ := DataW.trod_bool Try.underlying4 h6'
      obtain ⟨z7, e7, _, w7⟩ := DataW.trod_int Try.underlying27 h7'
      obtain ⟨z8, e8, _, w8⟩ := DataW.trod_int Try.underlying3 h8'
      have b7 := bounds_u32 w7
      obtain ⟨q7, rfl⟩ := Int.eq_ofNat_of_zero_le b7.1
      simp at e0 e1 e2 e5 e6 e7 e8
      obtain ⟨e00, e01, e02, e03, e04, e05, e06⟩ := e0
      subst e00 e01 e02 e03 e04 e05 e06 e1 e2 e3 e4 e5 e6 e7 e8
      exact ⟨⟨hd, z1, z2, ls, l, z5, z6, q7, z8⟩, ⟨hdo, bounds_i64 w5, by show q7 < _; omega, bounds_i64 w8⟩, aL, cL, aA, cA, r3, r4, rfl⟩
theorem open_ls {r : Reach} {b0 : Nat} {spare : Nat → Bool} {v : Value} {d : DataW H} {p : List MemPlace} (hv : Value.okWide Try.prog w r b0 29 v) (h : DataW.Trod enc Try.prog w 0 spare true 29 v d p) :
    ∃ X : Ls, LsOk X ∧ RdA w v X := by
  obtain ⟨cs, rfl, hsz⟩ : ∃ cs : Array Value, v = .agg cs ∧ cs.size = 15 := by
    simp only [Value.okWide, Try.underlying29] at hv
    obtain ⟨cs, h1, h2, _⟩ := hv
    exact ⟨cs, h1, by rw [h2, cells29]⟩
  obtain ⟨fuel, hf⟩ := h
  obtain ⟨X, hX, aL, cL, aA, cA, r3, r4, hx⟩ := trod_ls hf
  refine ⟨X, hX, aL, cL, aA, cA, ?_, r3, r4⟩
  have e : cs.toList = [.int .i64 X.h.ty, .int .u32 (X.h.id : Int), .int .i64 X.h.len, .int .u32 (X.h.rt : Int), .int .i64 X.h.seq, .int .i64 X.h.age, .int .i64 X.h.sum, .bool X.bo, .bool X.bd, .slice aL X.ls.length cL, .slice aA X.ats.length cA, .int .i64 X.co, .bool X.se, .int .u32 (X.fw : Int), .int .i64 X.ta] := by simpa [Value.cells] using hx
  obtain ⟨l⟩ := cs
  simp at e
  subst e
  rfl
theorem trodAll_below {W W' : World} (hb : Below W.heap.size W W') : ∀ {ts : List TypeId} {vs : List Value} {ds : List (DataW H)} {ps : List MemPlace},
    (∀ t ∈ ts, Try.prog.readableRec t = true ∧ t < Try.prog.types.size) → DataW.TrodAll enc Try.prog W 0 (fun _ => true) true ts vs ds ps → (∀ x ∈ ps, x.block < W.heap.size) →
    DataW.TrodAll enc Try.prog W' 0 (fun b => decide (b < W.heap.size)) true ts vs ds ps
  | [], vs, ds, ps, _, h, _ => by
    obtain ⟨rfl, rfl, rfl⟩ := trodAll_nil h
    exact trodAll_mk0
  | t :: ts, vs, ds, ps, hr, h, hlt => by
    obtain ⟨v0, vs0, d0, ds0, p0, q0, rfl, rfl, rfl, h0, r0⟩ := trodAll_cons h
    exact trodAll_cons_mk (Below.trod laidOut (hr t (by simp)).1 (hr t (by simp)).2 h0 hb (fun x hx => hlt x (by simp [hx])))
      (trodAll_below hb (fun t ht => hr t (by simp [ht])) r0 (fun x hx => hlt x (by simp [hx])))
end
end Go.Proofs.Ytenfcnappjekgaa
