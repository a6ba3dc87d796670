/-
  The opener of an array of three numbers.
-/
import Derived.Test.YtiobfgcpbihbhaaGreatDoorFrZ
namespace Go.Proofs.YtiobfgcpbihbhaaGreatDoor
open Go.ChangeShapes Go.WideShapes Go.ChangeAt Go.RowKit P
set_option linter.unusedSimpArgs false
set_option linter.unusedVariables false
set_option maxRecDepth 100000
theorem cells36 : Tryz.prog.cellsOf 36 = 3 := by kernel_rfl
theorem cells3y : Tryz.prog.cellsOf 3 = 1 := by kernel_rfl
variable {H : Type} {enc : TypeId × Value → H} {w : World}
theorem open_tri {r : Reach} {b0 : Nat} {spare : Nat → Bool} {v : Value} {d : DataW H} {p : List MemPlace} (hv : Value.okWide Tryz.prog w r b0 36 v) (h : DataW.Trod enc Tryz.prog w 0 spare true 36 v d p) :
    ∃ x y z : Int, v = .agg #[.int .i64 x, .int .i64 y, .int .i64 z] := by
  obtain ⟨cs, rfl, hsz⟩ : ∃ cs : Array Value, v = .agg cs ∧ cs.size = 3 := by
    simp only [Value.okWide, Tryz.underlying36] at hv
    obtain ⟨cs, h1, h2, _⟩ := hv
    exact ⟨cs, h1, by rw [h2, cells36]⟩
  obtain ⟨fuel, hf⟩ := h
  cases fuel with
  | zero => simp [DataW.trod] at hf
  | succ fuel =>
    simp only [DataW.trod, Tryz.underlying36, cells3y, cells36, Nat.mul_one, Value.cells] at hf
    split at hf
    · rename_i hl
      obtain ⟨xs, hm, hx⟩ := Option.map_eq_some_iff.1 hf
      obtain ⟨y0, _, hf0⟩ := Lib.mapM_at hm 0 0 (by simp)
      obtain ⟨y1, _, hf1⟩ := Lib.mapM_at hm 1 1 (by simp)
      obtain ⟨y2, _, hf2⟩ := Lib.mapM_at hm 2 2 (by simp)
      obtain ⟨a, ha, _, wa⟩ := DataW.trod_int Tryz.underlying3 hf0
      obtain ⟨b, hb, _, wb⟩ := DataW.trod_int Tryz.underlying3 hf1
      obtain ⟨c, hc, _, wc⟩ := DataW.trod_int Tryz.underlying3 hf2
      refine ⟨a, b, c, ?_⟩
      obtain ⟨l⟩ := cs
      match l, hsz with
      | [c0, c1, c2], _ =>
        simp at ha hb hc
        rw [ha, hb, hc]
    · cases hf
end Go.Proofs.YtiobfgcpbihbhaaGreatDoor
