/-
  Advertisements as values; which fields belong to a type.
-/
import Derived.Test.YtenfcnappjekgaaLaF
import Derived.Deep.DeepCutAuto
namespace Go.Proofs.Ytenfcnappjekgaa
open Go.RowKit
set_option linter.unusedSimpArgs false
set_option linter.unusedVariables false
set_option maxHeartbeats 4000000
set_option maxRecDepth 100000

abbrev lsV (h : Hd) (bo bd : Bool) (vL vA : Value) (co : Int) (se : Bool) (fw : Nat) (ta : Int) : Value :=
  .agg #[.int .i64 h.ty, .int .u32 (h.id : Int), .int .i64 h.len, .int .u32 (h.rt : Int), .int .i64 h.seq, .int .i64 h.age, .int .i64 h.sum, .bool bo, .bool bd, vL, vA, .int .i64 co, .bool se, .int .u32 (fw : Int), .int .i64 ta]
abbrev lsC (h : Hd) (bo bd : Bool) (vL vA : Value) (co : Int) (se : Bool) (fw : Nat) (ta : Int) : Obj :=
  .cells #[.int .i64 h.ty, .int .u32 (h.id : Int), .int .i64 h.len, .int .u32 (h.rt : Int), .int .i64 h.seq, .int .i64 h.age, .int .i64 h.sum, .bool bo, .bool bd, vL, vA, .int .i64 co, .bool se, .int .u32 (fw : Int), .int .i64 ta] 29
def ownB (ty : Int) (bo bd : Bool) (nL nA : Nat) (co : Int) (se : Bool) (fw : Nat) (ta : Int) : Bool :=
  (ty == 1 || (!bo && !bd && nL == 0)) && (ty == 2 || nA == 0) && (decide (3 ≤ ty) || co == 0) && (ty == 5 || (!se && fw == 0 && ta == 0))
theorem own_any (h : Hd) (bo bd : Bool) (aL : Option Addr) (nL cL : Nat) (aA : Option Addr) (nA cA : Nat) (co : Int) (se : Bool) (fw : Nat) (ta : Int) (w : World) :
    Calls Try.prog 41 #[lsV h bo bd (.slice aL nL cL) (.slice aA nA cA) co se fw ta] w fun e w' => e = .returned (.bool (ownB h.ty bo bd nL nA co se fw ta)) ∧ Below w.heap.size w w' := by
  have B := Lib.hid (below_alloc w (lsC h bo bd (.slice aL nL cL) (.slice aA nA cA) co se fw ta))
  have HW : Hid (∀ W, W = w.alloc (lsC h bo bd (.slice aL nL cL) (.slice aA nA cA) co se fw ta) → Below w.heap.size w W) := fun W e => e ▸ B.out
  obtain ⟨ty, id, len, rt, seq, age, sum⟩ := h
  obtain ⟨z1, hz1⟩ : ∃ z : Bool, ((nL : Int) == 0) = z := ⟨_, rfl⟩
  obtain ⟨z2, hz2⟩ : ∃ z : Bool, ((nA : Int) == 0) = z := ⟨_, rfl⟩
  obtain ⟨z3, hz3⟩ : ∃ z : Bool, (co == 0) = z := ⟨_, rfl⟩
  obtain ⟨z4, hz4⟩ : ∃ z : Bool, ((fw : Int) == 0) = z := ⟨_, rfl⟩
  obtain ⟨z5, hz5⟩ : ∃ z : Bool, (ta == 0) = z := ⟨_, rfl⟩
  obtain ⟨y1, hy1⟩ : ∃ z : Bool, (ty == 1) = z := ⟨_, rfl⟩
  obtain ⟨y2, hy2⟩ : ∃ z : Bool, (ty == 2) = z := ⟨_, rfl⟩
  obtain ⟨y3, hy3⟩ : ∃ z : Bool, decide (3 ≤ ty) = z := ⟨_, rfl⟩
  obtain ⟨y5, hy5⟩ : ∃ z : Bool, (ty == 5) = z := ⟨_, rfl⟩
  have HV : Hid (ownB ty bo bd nL nA co se fw ta = ((y1 || (!bo && !bd && z1)) && (y2 || z2) && (y3 || z3) && (y5 || (!se && z4 && z5)))) := by
    unfold Hid ownB
    rw [hz3, hz5, hy1, hy2, hy3, hy5]
    have e1 : (nL == 0) = z1 := by rw [← hz1, Bool.eq_iff_iff]; simp
    have e2 : (nA == 0) = z2 := by rw [← hz2, Bool.eq_iff_iff]; simp
    have e4 : (fw == 0) = z4 := by rw [← hz4, Bool.eq_iff_iff]; simp
    rw [e1, e2, e4]
  go_enter Try.func41, Try.ntmps41
  go_upto_region 2 with fail
  go_cut [4] (fun s4 wx => s4 = .bool (!bo && !bd && z1) ∧ wx = w.alloc (lsC ⟨ty, id, len, rt, seq, age, sum⟩ bo bd (.slice aL nL cL) (.slice aA nA cA) co se fw ta))
  case first =>
    cases bo <;> cases bd <;> cases z1
    all_goals (go_wp2_with fail; go_meet; exact ⟨rfl, rfl⟩)
  case rest =>
    obtain ⟨rfl, rfl⟩ := hcut
    generalize (!bo && !bd && z1) = rB at *
    go_upto_region 4 with fail
    go_cut [6] (fun s6 wx => s6 = .bool (!se && z4 && z5) ∧ wx = w.alloc (lsC ⟨ty, id, len, rt, seq, age, sum⟩ bo bd (.slice aL nL cL) (.slice aA nA cA) co se fw ta))
    case first =>
      cases se <;> cases z4 <;> cases z5
      all_goals (go_wp2_with fail; go_meet; exact ⟨rfl, rfl⟩)
    case rest =>
      obtain ⟨rfl, rfl⟩ := hcut
      generalize (!se && z4 && z5) = eB at *
      clear hz1 hz4 hz5
      have HV2 : Hid (∀ b, ((y1 || rB) && (y2 || z2) && (y3 || z3) && (y5 || eB)) = b → ownB ty bo bd nL nA co se fw ta = b) := fun b e => HV.out.trans e
      clear HV
      go_wp2
      all_goals go_ret
      all_goals (
        refine ⟨ret_b (HV2.out _ (by simp [*])).symm, HW.out _ rfl⟩)
end Go.Proofs.Ytenfcnappjekgaa
