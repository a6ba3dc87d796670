/-
  What all proofs over this seat's rows share: how arguments are opened, how they read behind a call that only makes memory.
-/
import Derived.Test.YtenfcnappjekgaaLaW
import Derived.ProofKit
import Derived.OpenShut
import Derived.SizedLaws
import Derived.Carry
import Derived.Deep.Slices
namespace Go.Proofs.Ytenfcnappjekgaa
set_option maxRecDepth 100000
set_option linter.unusedSimpArgs false
set_option linter.unusedVariables false
open Go.ChangeShapes Go.WideShapes Go.ChangeAt Go.RowKit

theorem own : ownKnob Try.prog.godebug = none := by kernel_rfl
theorem cells3 : Try.prog.cellsOf 3 = 1 := by kernel_rfl
theorem cells4 : Try.prog.cellsOf 4 = 1 := by kernel_rfl
theorem cells5 : Try.prog.cellsOf 5 = 1 := by kernel_rfl
theorem cells22 : Try.prog.cellsOf 22 = 1 := by kernel_rfl
theorem cells24 : Try.prog.cellsOf 24 = 7 := by kernel_rfl
theorem cells35 : Try.prog.cellsOf 35 = 4 := by kernel_rfl
theorem bytes5 : Try.prog.bytesOf 5 = 1 := by kernel_rfl
theorem laidOut : laidOutB Try.prog = true := by kernel_rfl
section
variable {H : Type} {enc : TypeId × Value → H} {w : World}
theorem trod_hd {base : Nat} {spare : Nat → Bool} {held : Bool} {n : Nat} {cs : List Value} {x : DataW H × List MemPlace} (h : DataW.trod enc Try.prog w base spare held n 24 cs = some x) :
    ∃ h : Hd, HdOk h ∧ cs = [.int .i64 h.ty, .int .u32 (h.id : Int), .int .i64 h.len, .int .u32 (h.rt : Int), .int .i64 h.seq, .int .i64 h.age, .int .i64 h.sum] := by
  obtain ⟨xs, n', _, _, hlen, hxs, hf⟩ := DataW.trod_struct Try.underlying24 h
  rw [cells24] at hlen
  match xs, hxs with
  | [y0, y1, y2, y3, y4, y5, y6], _ =>
    match cs, hlen with
    | [c0, c1, c2, c3, c4, c5, c6], _ =>
      have h0 : DataW.trod enc Try.prog w base spare held n' 3 (([c0, c1, c2, c3, c4, c5, c6].drop 0).take (Try.prog.cellsOf 3)) = some y0 := hf 0 _ rfl
      rw [cells3] at h0
      have h0' : DataW.trod enc Try.prog w base spare held n' 3 [c0] = some y0 := h0
      obtain ⟨z0, e0, _, w0⟩ := DataW.trod_int Try.underlying3 h0'
      have h1 : DataW.trod enc Try.prog w base spare held n' 22 (([c0, c1, c2, c3, c4, c5, c6].drop 1).take (Try.prog.cellsOf 22)) = some y1 := hf 1 _ rfl
      rw [cells22] at h1
      have h1' : DataW.trod enc Try.prog w base spare held n' 22 [c1] = some y1 := h1
      obtain ⟨z1, e1, _, w1⟩ := DataW.trod_int Try.underlying22 h1'
      have b1 := bounds_u32 w1
      have h2 : DataW.trod enc Try.prog w base spare held n' 3 (([c0, c1, c2, c3, c4, c5, c6].drop 2).take (Try.prog.cellsOf 3)) = some y2 := hf 2 _ rfl
      rw [cells3] at h2
      have h2' : DataW.trod enc Try.prog w base spare held n' 3 [c2] = some y2 := h2
      obtain ⟨z2, e2, _, w2⟩ := DataW.trod_int Try.underlying3 h2'
      have h3 : DataW.trod enc Try.prog w base spare held n' 22 (([c0, c1, c2, c3, c4, c5, c6].drop 3).take (Try.prog.cellsOf 22)) = some y3 := hf 3 _ rfl
      rw [cells22] at h3
      have h3' : DataW.trod enc Try.prog w base spare held n' 22 [c3] = some y3 := h3
      obtain ⟨z3, e3, _, w3⟩ := DataW.trod_int Try.underlying22 h3'
      have b3 := bounds_u32 w3
      have h4 : DataW.trod enc Try.prog w base spare held n' 3 (([c0, c1, c2, c3, c4, c5, c6].drop 4).take (Try.prog.cellsOf 3)) = some y4 := hf 4 _ rfl
      rw [cells3] at h4
      have h4' : DataW.trod enc Try.prog w base spare held n' 3 [c4] = some y4 := h4
      obtain ⟨z4, e4, _, w4⟩ := DataW.trod_int Try.underlying3 h4'
      have h5 : DataW.trod enc Try.prog w base spare held n' 3 (([c0, c1, c2, c3, c4, c5, c6].drop 5).take (Try.prog.cellsOf 3)) = some y5 := hf 5 _ rfl
      rw [cells3] at h5
      have h5' : DataW.trod enc Try.prog w base spare held n' 3 [c5] = some y5 := h5
      obtain ⟨z5, e5, _, w5⟩ := DataW.trod_int Try.underlying3 h5'
      have h6 : DataW.trod enc Try.prog w base spare held n' 3 (([c0, c1, c2, c3, c4, c5, c6].drop 6).take (Try.prog.cellsOf 3)) = some y6 := hf 6 _ rfl
      rw [cells3] at h6
      have h6' : DataW.trod enc Try.prog w base spare held n' 3 [c6] = some y6 := h6
      obtain ⟨z6, e6, _, w6⟩ := DataW.trod_int Try.underlying3 h6'
      simp at e0 e1 e2 e3 e4 e5 e6
      subst e0 e1 e2 e3 e4 e5 e6
      obtain ⟨q1, rfl⟩ := Int.eq_ofNat_of_zero_le b1.1
      obtain ⟨q3, rfl⟩ := Int.eq_ofNat_of_zero_le b3.1
      exact ⟨⟨z0, q1, z2, q3, z4, z5, z6⟩, ⟨bounds_i64 w0, by show q1 < _; omega, bounds_i64 w2, by show q3 < _; omega, bounds_i64 w4, bounds_i64 w5, bounds_i64 w6⟩, rfl⟩
theorem trod_ke {base : Nat} {spare : Nat → Bool} {held : Bool} {n : Nat} {cs : List Value} {x : DataW H × List MemPlace} (h : DataW.trod enc Try.prog w base spare held n 35 cs = some x) :
    ∃ (a : Int) (b : Nat) (c : Int) (d : Nat), cs = [.int .i64 a, .int .u32 (b : Int), .int .i64 c, .int .u32 (d : Int)] ∧ I64 a ∧ b < 4294967296 ∧ I64 c ∧ d < 4294967296 := by
  obtain ⟨xs, n', _, _, hlen, hxs, hf⟩ := DataW.trod_struct Try.underlying35 h
  rw [cells35] at hlen
  match xs, hxs with
  | [y0, y1, y2, y3], _ =>
    match cs, hlen with
    | [c0, c1, c2, c3], _ =>
      have h0 : DataW.trod enc Try.prog w base spare held n' 3 (([c0, c1, c2, c3].drop 0).take (Try.prog.cellsOf 3)) = some y0 := hf 0 _ rfl
      rw [cells3] at h0
      have h0' : DataW.trod enc Try.prog w base spare held n' 3 [c0] = some y0 := h0
      obtain ⟨z0, e0, _, w0⟩ := DataW.trod_int Try.underlying3 h0'
      have h1 : DataW.trod enc Try.prog w base spare held n' 22 (([c0, c1, c2, c3].drop 1).take (Try.prog.cellsOf 22)) = some y1 := hf 1 _ rfl
      rw [cells22] at h1
      have h1' : DataW.trod enc Try.prog w base spare held n' 22 [c1] = some y1 := h1
      obtain ⟨z1, e1, _, w1⟩ := DataW.trod_int Try.underlying22 h1'
      have b1 := bounds_u32 w1
      have h2 : DataW.trod enc Try.prog w base spare held n' 3 (([c0, c1, c2, c3].drop 2).take (Try.prog.cellsOf 3)) = some y2 := hf 2 _ rfl
      rw [cells3] at h2
      have h2' : DataW.trod enc Try.prog w base spare held n' 3 [c2] = some y2 := h2
      obtain ⟨z2, e2, _, w2⟩ := DataW.trod_int Try.underlying3 h2'
      have h3 : DataW.trod enc Try.prog w base spare held n' 22 (([c0, c1, c2, c3].drop 3).take (Try.prog.cellsOf 22)) = some y3 := hf 3 _ rfl
      rw [cells22] at h3
      have h3' : DataW.trod enc Try.prog w base spare held n' 22 [c3] = some y3 := h3
      obtain ⟨z3, e3, _, w3⟩ := DataW.trod_int Try.underlying22 h3'
      have b3 := bounds_u32 w3
      simp at e0 e1 e2 e3
      subst e0 e1 e2 e3
      obtain ⟨q1, rfl⟩ := Int.eq_ofNat_of_zero_le b1.1
      obtain ⟨q3, rfl⟩ := Int.eq_ofNat_of_zero_le b3.1
      exact ⟨z0, q1, z2, q3, rfl, bounds_i64 w0, by omega, bounds_i64 w2, by omega⟩
theorem open_hd {r : Reach} {b0 : Nat} {spare : Nat → Bool} {v : Value} {d : DataW H} {p : List MemPlace} (hv : Value.okWide Try.prog w r b0 24 v) (h : DataW.Trod enc Try.prog w 0 spare true 24 v d p) :
    ∃ h : Hd, HdOk h ∧ v = hdV h := by
  obtain ⟨cs, rfl, hsz⟩ : ∃ cs : Array Value, v = .agg cs ∧ cs.size = 7 := by
    simp only [Value.okWide, Try.underlying24] at hv
    obtain ⟨cs, h1, h2, _⟩ := hv
    exact ⟨cs, h1, by rw [h2, cells24]⟩
  obtain ⟨fuel, hf⟩ := h
  obtain ⟨z, hz, hx⟩ := trod_hd hf
  refine ⟨z, hz, ?_⟩
  have e : cs.toList = [.int .i64 z.ty, .int .u32 (z.id : Int), .int .i64 z.len, .int .u32 (z.rt : Int), .int .i64 z.seq, .int .i64 z.age, .int .i64 z.sum] := by simpa [Value.cells] using hx
  obtain ⟨l⟩ := cs
  simp at e
  subst e
  rfl
theorem open_ke {r : Reach} {b0 : Nat} {spare : Nat → Bool} {v : Value} {d : DataW H} {p : List MemPlace} (hv : Value.okWide Try.prog w r b0 35 v) (h : DataW.Trod enc Try.prog w 0 spare true 35 v d p) :
    ∃ (a : Int) (b : Nat) (c : Int) (d : Nat), v = keV a b c d := by
  obtain ⟨cs, rfl, hsz⟩ : ∃ cs : Array Value, v = .agg cs ∧ cs.size = 4 := by
    simp only [Value.okWide, Try.underlying35] at hv
    obtain ⟨cs, h1, h2, _⟩ := hv
    exact ⟨cs, h1, by rw [h2, cells35]⟩
  obtain ⟨fuel, hf⟩ := h
  obtain ⟨a, b, c, d, hx, _, _, _, _⟩ := trod_ke hf
  refine ⟨a, b, c, d, ?_⟩
  have e : cs.toList = [.int .i64 a, .int .u32 (b : Int), .int .i64 c, .int .u32 (d : Int)] := by simpa [Value.cells] using hx
  obtain ⟨l⟩ := cs
  simp at e
  subst e
  rfl
theorem trodAll_below {W W' : World} (hb : Below W.heap.size W W') : ∀ {ts : List TypeId} {vs : List Value} {ds : List (DataW H)} {ps : List MemPlace},
    (∀ t ∈ ts, Try.prog.readableRec t = true ∧ t < Try.prog.types.size) → DataW.TrodAll enc Try.prog W 0 (fun _ => true) true ts vs ds ps → (∀ x ∈ ps, x.block < W.heap.size) →
    DataW.TrodAll enc Try.prog W' 0 (fun b => decide (b < W.heap.size)) true ts vs ds ps
  | [], vs, ds, ps, _, h, _ => by
    obtain ⟨rfl, rfl, rfl⟩ := trodAll_nil h
    exact trodAll_mk0
  | t :: ts, vs, ds, ps, hr, h, hlt => by
    obtain ⟨v0, vs0, d0, ds0, p0, q0, rfl, rfl, rfl, h0, r0⟩ := trodAll_cons h
    exact trodAll_cons_mk (Below.trod laidOut (hr t (by simp)).1 (hr t (by simp)).2 h0 hb (fun x hx => hlt x (by simp [hx])))
      (trodAll_below hb (fun t ht => hr t (by simp [ht])) r0 (fun x hx => hlt x (by simp [hx])))
end
end Go.Proofs.Ytenfcnappjekgaa
