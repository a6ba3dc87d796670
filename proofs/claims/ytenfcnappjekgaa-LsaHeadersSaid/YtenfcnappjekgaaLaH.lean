/-
  Which fields belong to a type: the reference.
-/
import Derived.Test.YtenfcnappjekgaaLaG
namespace Go.Proofs.Ytenfcnappjekgaa
open Go.RowKit
set_option linter.unusedSimpArgs false
set_option linter.unusedVariables false
set_option maxHeartbeats 4000000
set_option maxRecDepth 100000

theorem unused_any (h : Hd) (bo bd : Bool) (aL : Option Addr) (nL cL : Nat) (aA : Option Addr) (nA cA : Nat) (co : Int) (se : Bool) (fw : Nat) (ta : Int) (w : World) :
    Calls Try.prog 44 #[lsV h bo bd (.slice aL nL cL) (.slice aA nA cA) co se fw ta] w fun e w' => e = .returned (.bool (ownB h.ty bo bd nL nA co se fw ta)) ∧ Below w.heap.size w w' := by
  have B := Lib.hid (below_alloc w (lsC h bo bd (.slice aL nL cL) (.slice aA nA cA) co se fw ta))
  have HW : Hid (∀ W, W = w.alloc (lsC h bo bd (.slice aL nL cL) (.slice aA nA cA) co se fw ta) → Below w.heap.size w W) := fun W e => e ▸ B.out
  obtain ⟨ty, id, len, rt, seq, age, sum⟩ := h
  obtain ⟨z1, hz1⟩ : ∃ z : Bool, decide (0 < nL) = z := ⟨_, rfl⟩
  obtain ⟨z2, hz2⟩ : ∃ z : Bool, decide (0 < nA) = z := ⟨_, rfl⟩
  obtain ⟨z3, hz3⟩ : ∃ z : Bool, (co != 0) = z := ⟨_, rfl⟩
  obtain ⟨z4, hz4⟩ : ∃ z : Bool, ((fw : Int) == 0) = z := ⟨_, rfl⟩
  obtain ⟨z5, hz5⟩ : ∃ z : Bool, (ta == 0) = z := ⟨_, rfl⟩
  obtain ⟨y1, hy1⟩ : ∃ z : Bool, (ty != 1) = z := ⟨_, rfl⟩
  obtain ⟨y2, hy2⟩ : ∃ z : Bool, (ty != 2) = z := ⟨_, rfl⟩
  obtain ⟨y3, hy3⟩ : ∃ z : Bool, decide (ty < 3) = z := ⟨_, rfl⟩
  obtain ⟨y5, hy5⟩ : ∃ z : Bool, (ty == 5) = z := ⟨_, rfl⟩
  have HV : Hid (ownB ty bo bd nL nA co se fw ta = ((!y1 || (!bo && !bd && !z1)) && (!y2 || !z2) && (!y3 || !z3) && (y5 || (!se && z4 && z5)))) := by
    unfold Hid ownB
    have e1 : (nL == 0) = !z1 := by rw [← hz1, Bool.eq_iff_iff]; simp
    have e2 : (nA == 0) = !z2 := by rw [← hz2, Bool.eq_iff_iff]; simp
    have e3 : (co == 0) = !z3 := by rw [← hz3, Bool.eq_iff_iff]; simp
    have e4 : (fw == 0) = z4 := by rw [← hz4, Bool.eq_iff_iff]; simp
    have e5 : (ty == 1) = !y1 := by rw [← hy1, Bool.eq_iff_iff]; simp
    have e6 : (ty == 2) = !y2 := by rw [← hy2, Bool.eq_iff_iff]; simp
    have e7 : decide (3 ≤ ty) = !y3 := by rw [← hy3, Bool.eq_iff_iff]; simp
    rw [e1, e2, e3, e4, e5, e6, e7, hz5, hy5]
  have g1 : decide (0 < (nL : Int)) = z1 := by rw [← hz1, Bool.eq_iff_iff]; simp
  have g2 : decide (0 < (nA : Int)) = z2 := by rw [← hz2, Bool.eq_iff_iff]; simp
  go_enter Try.func44, Try.ntmps44
  go_upto_region 2 with fail
  go_cut [22] (fun s22 wx => s22 = .bool (y1 && (bo || bd || z1)) ∧ wx = w.alloc (lsC ⟨ty, id, len, rt, seq, age, sum⟩ bo bd (.slice aL nL cL) (.slice aA nA cA) co se fw ta))
  case first =>
    cases y1 <;> cases bo <;> cases bd <;> cases z1
    all_goals (go_wp2_with fail; go_meet; exact ⟨by first | rfl | (simp at hz1; simp [hz1]; done) | (simp at hz1 ⊢; omega), rfl⟩)
  case rest =>
    obtain ⟨rfl, rfl⟩ := hcut
    have HV3 : Hid (ownB ty bo bd nL nA co se fw ta = ((!(y1 && (bo || bd || z1))) && (!y2 || !z2) && (!y3 || !z3) && (y5 || (!se && z4 && z5)))) := by
      unfold Hid; rw [HV.out]; cases y1 <;> cases bo <;> cases bd <;> cases z1 <;> rfl
    clear HV
    generalize (y1 && (bo || bd || z1)) = rB at *
    cases rB
    · have HV2 : Hid (∀ b, ((!y2 || !z2) && (!y3 || !z3) && (y5 || (!se && z4 && z5))) = b → ownB ty bo bd nL nA co se fw ta = b) := fun b e => by rw [HV3.out, ← e]; simp
      clear HV3
      have hz2' : Hid (decide (0 < nA) = z2) := hz2
      clear hz1 hz2
      cases z2
      · have hz : nA = 0 := by have := hz2'.out; simpa using this
        subst hz
        go_wp2
        all_goals go_ret
        all_goals exact ⟨ret_b (HV2.out _ (by simp [*])).symm, by exact below_alloc _ _⟩
      · have hz : 0 < nA := by have := hz2'.out; simpa using this
        go_wp2
        all_goals go_ret
        all_goals exact ⟨ret_b (HV2.out _ (by simp [*])).symm, by exact below_alloc _ _⟩
    · have HV : Hid (ownB ty bo bd nL nA co se fw ta = false) := HV3.out
      go_wp2
      go_ret
      exact ⟨ret_b HV.out.symm, HW.out _ rfl⟩
end Go.Proofs.Ytenfcnappjekgaa
