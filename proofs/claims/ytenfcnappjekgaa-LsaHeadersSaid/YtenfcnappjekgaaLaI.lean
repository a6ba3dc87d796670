/-
  The check of an advertisement, given those of its links and its routers: the code and the reference.
-/
import Derived.Test.YtenfcnappjekgaaLaH
namespace Go.Proofs.Ytenfcnappjekgaa
open Go.RowKit
set_option linter.unusedSimpArgs false
set_option linter.unusedVariables false
set_option maxHeartbeats 4000000
set_option maxRecDepth 100000

def chkC (h : Hd) (own : Bool) (rL rA co ta : Int) : Int :=
  if hdrC h ≠ 0 then hdrC h else if own = false then 1 else if h.ty = 1 then rL else if h.ty = 2 then rA else if co < 0 then 5 else if 16777216 < co then 5 else if ta < 0 then 5 else if 4294967295 < ta then 5 else 0
theorem check_gen (h : Hd) (hh : HdOk h) (bo bd : Bool) (aL : Option Addr) (nL cL : Nat) (aA : Option Addr) (nA cA : Nat) (co : Int) (se : Bool) (fw : Nat) (ta : Int) (rL rA : Int) (w : World)
    (hL : h.ty = 1 → ∀ W, Below w.heap.size w W → Calls Try.prog 42 #[lsV h bo bd (.slice aL nL cL) (.slice aA nA cA) co se fw ta] W fun e w' => e = .returned (.int .i64 rL) ∧ Below W.heap.size W w')
    (hA : h.ty = 2 → ∀ W, Below w.heap.size w W → Calls Try.prog 43 #[lsV h bo bd (.slice aL nL cL) (.slice aA nA cA) co se fw ta] W fun e w' => e = .returned (.int .i64 rA) ∧ Below W.heap.size W w') :
    Calls Try.prog 13 #[lsV h bo bd (.slice aL nL cL) (.slice aA nA cA) co se fw ta] w fun e w' => e = .returned (.int .i64 (chkC h (ownB h.ty bo bd nL nA co se fw ta) rL rA co ta)) ∧ Below w.heap.size w w' := by
  have B0 := Lib.hid (below_alloc w (lsC h bo bd (.slice aL nL cL) (.slice aA nA cA) co se fw ta))
  have HL := Lib.hid hL
  have HA := Lib.hid hA
  clear hL hA
  have H1 := Lib.hid (hdr_any h hh)
  have H2 := Lib.hid (own_any h bo bd aL nL cL aA nA cA co se fw ta)
  obtain ⟨c, hc⟩ : ∃ c, hdrC h = c := ⟨_, rfl⟩
  obtain ⟨ow, how⟩ : ∃ b, ownB h.ty bo bd nL nA co se fw ta = b := ⟨_, rfl⟩
  have HV : Hid (chkC h (ownB h.ty bo bd nL nA co se fw ta) rL rA co ta = if c ≠ 0 then c else if ow = false then 1 else if h.ty = 1 then rL else if h.ty = 2 then rA else if co < 0 then 5 else if 16777216 < co then 5 else if ta < 0 then 5 else if 4294967295 < ta then 5 else 0) := by
    unfold Hid chkC; rw [hc, how]
  rw [hc] at H1
  rw [how] at H2
  have HT : Hid (HdOk h) := hh
  clear hc how hh
  obtain ⟨ty, id, len, rt, seq, age, sum⟩ := h
  go_enter Try.func13, Try.ntmps13
  go_wp2_with fail
  go_at_call 40
  refine (H1.out _).mono ?_
  rintro e w1 ⟨rfl, h1⟩
  have HB1 := Lib.hid (below_then B0.out h1)
  have hs1 : w.heap.size + 1 ≤ w1.heap.size := by have := h1.size; simpa using this
  obtain ⟨hc1, hf1⟩ := bcell h1
  clear h1
  by_cases c0 : c = 0
  · subst c0
    go_wp2_with fail
    go_at_call 41
    refine (H2.out _).mono ?_
    rintro e w2 ⟨rfl, h2⟩
    have HB2 := Lib.hid (below_then HB1.out h2)
    obtain ⟨hc2, hf2⟩ := bcell h2
    have hs2 : w.heap.size + 1 ≤ w2.heap.size := by have := h2.size; omega
    have hc2' : ∀ o : Nat, w2.cell? ⟨w.heap.size, o, none⟩ = (w.alloc (lsC ⟨ty, id, len, rt, seq, age, sum⟩ bo bd (.slice aL nL cL) (.slice aA nA cA) co se fw ta)).cell? ⟨w.heap.size, o, none⟩ := fun o => (hc2 _ _ (by omega)).trans (hc1 _ _ (by simp))
    clear h2 hc2 hf2 hc1 hf1
    cases ow
    · have HR : Hid (chkC _ _ _ _ _ _ = 1) := HV.out.trans (by simp)
      go_wp2
      go_ret
      exact ⟨ret_i HR.out.symm, HB2.out⟩
    · by_cases t1 : ty = 1
      · subst t1
        have HC := Lib.hid (HL.out rfl)
        have HR : Hid (chkC _ _ _ _ _ _ = rL) := HV.out.trans (by simp)
        go_wp2_with (go_at_call 42; refine (HC.out _ HB2.out).mono ?_; rintro e w3 ⟨rfl, h3⟩; have HB3 := Lib.hid (below_then HB2.out h3); clear h3)
        go_ret
        exact ⟨ret_i HR.out.symm, HB3.out⟩
      have b1 : (ty == 1) = false := by simpa using t1
      by_cases t2 : ty = 2
      · subst t2
        have HC := Lib.hid (HA.out rfl)
        have HR : Hid (chkC _ _ _ _ _ _ = rA) := HV.out.trans (by simp)
        go_wp2_with (go_at_call 43; refine (HC.out _ HB2.out).mono ?_; rintro e w3 ⟨rfl, h3⟩; have HB3 := Lib.hid (below_then HB2.out h3); clear h3)
        go_ret
        exact ⟨ret_i HR.out.symm, HB3.out⟩
      have b2 : (ty == 2) = false := by simpa using t2
      by_cases q1 : co < 0
      · have HR : Hid (chkC _ _ _ _ _ _ = 5) := HV.out.trans (by simp [t1, t2, q1])
        go_wp2
        go_ret
        exact ⟨ret_i HR.out.symm, HB2.out⟩
      by_cases q2 : 16777216 < co
      · have HR : Hid (chkC _ _ _ _ _ _ = 5) := HV.out.trans (by simp [t1, t2, q1, q2])
        go_wp2
        go_ret
        exact ⟨ret_i HR.out.symm, HB2.out⟩
      by_cases q3 : ta < 0
      · have HR : Hid (chkC _ _ _ _ _ _ = 5) := HV.out.trans (by simp [t1, t2, q1, q2, q3])
        go_wp2
        go_ret
        exact ⟨ret_i HR.out.symm, HB2.out⟩
      by_cases q4 : 4294967295 < ta
      · have HR : Hid (chkC _ _ _ _ _ _ = 5) := HV.out.trans (by simp [t1, t2, q1, q2, q3, q4])
        go_wp2
        go_ret
        exact ⟨ret_i HR.out.symm, HB2.out⟩
      have HR : Hid (chkC _ _ _ _ _ _ = 0) := HV.out.trans (by simp [t1, t2, q1, q2, q3, q4])
      go_wp2
      go_ret
      exact ⟨ret_i HR.out.symm, HB2.out⟩
  · have HR : Hid (chkC _ _ _ _ _ _ = c) := HV.out.trans (by simp [c0])
    have c0' : (c != 0) = true := by simpa using c0
    go_wp2
    go_ret
    exact ⟨ret_i HR.out.symm, HB1.out⟩
theorem rcheck_gen (h : Hd) (hh : HdOk h) (bo bd : Bool) (aL : Option Addr) (nL cL : Nat) (aA : Option Addr) (nA cA : Nat) (co : Int) (se : Bool) (fw : Nat) (ta : Int) (rL rA : Int) (w : World)
    (hL : h.ty = 1 → ∀ W, Below w.heap.size w W → Calls Try.prog 45 #[lsV h bo bd (.slice aL nL cL) (.slice aA nA cA) co se fw ta] W fun e w' => e = .returned (.int .i64 rL) ∧ Below W.heap.size W w')
    (hA : h.ty = 2 → ∀ W, Below w.heap.size w W → Calls Try.prog 46 #[lsV h bo bd (.slice aL nL cL) (.slice aA nA cA) co se fw ta] W fun e w' => e = .returned (.int .i64 rA) ∧ Below W.heap.size W w') :
    Calls Try.prog 14 #[lsV h bo bd (.slice aL nL cL) (.slice aA nA cA) co se fw ta] w fun e w' => e = .returned (.int .i64 (chkC h (ownB h.ty bo bd nL nA co se fw ta) rL rA co ta)) ∧ Below w.heap.size w w' := by
  have B0 := Lib.hid (below_alloc w (lsC h bo bd (.slice aL nL cL) (.slice aA nA cA) co se fw ta))
  have HL := Lib.hid hL
  have HA := Lib.hid hA
  clear hL hA
  have H1 := Lib.hid (rhdr_any h hh)
  have H2 := Lib.hid (unused_any h bo bd aL nL cL aA nA cA co se fw ta)
  obtain ⟨c, hc⟩ : ∃ c, hdrC h = c := ⟨_, rfl⟩
  obtain ⟨ow, how⟩ : ∃ b, ownB h.ty bo bd nL nA co se fw ta = b := ⟨_, rfl⟩
  have HV : Hid (chkC h (ownB h.ty bo bd nL nA co se fw ta) rL rA co ta = if c ≠ 0 then c else if ow = false then 1 else if h.ty = 1 then rL else if h.ty = 2 then rA else if co < 0 then 5 else if 16777216 < co then 5 else if ta < 0 then 5 else if 4294967295 < ta then 5 else 0) := by
    unfold Hid chkC; rw [hc, how]
  rw [hc] at H1
  rw [how] at H2
  have HT : Hid (HdOk h) := hh
  clear hc how hh
  obtain ⟨ty, id, len, rt, seq, age, sum⟩ := h
  go_enter Try.func14, Try.ntmps14
  go_wp2_with fail
  go_at_call 32
  refine (H1.out _).mono ?_
  rintro e w1 ⟨rfl, h1⟩
  have HB1 := Lib.hid (below_then B0.out h1)
  have hs1 : w.heap.size + 1 ≤ w1.heap.size := by have := h1.size; simpa using this
  obtain ⟨hc1, hf1⟩ := bcell h1
  clear h1
  by_cases c0 : c = 0
  · subst c0
    go_wp2_with fail
    go_at_call 44
    refine (H2.out _).mono ?_
    rintro e w2 ⟨rfl, h2⟩
    have HB2 := Lib.hid (below_then HB1.out h2)
    obtain ⟨hc2, hf2⟩ := bcell h2
    have hs2 : w.heap.size + 1 ≤ w2.heap.size := by have := h2.size; omega
    have hc2' : ∀ o : Nat, w2.cell? ⟨w.heap.size, o, none⟩ = (w.alloc (lsC ⟨ty, id, len, rt, seq, age, sum⟩ bo bd (.slice aL nL cL) (.slice aA nA cA) co se fw ta)).cell? ⟨w.heap.size, o, none⟩ := fun o => (hc2 _ _ (by omega)).trans (hc1 _ _ (by simp))
    clear h2 hc2 hf2 hc1 hf1
    cases ow
    · have HR : Hid (chkC _ _ _ _ _ _ = 1) := HV.out.trans (by simp)
      go_wp2
      go_ret
      exact ⟨ret_i HR.out.symm, HB2.out⟩
    · by_cases t1 : ty = 1
      · subst t1
        have HC := Lib.hid (HL.out rfl)
        have HR : Hid (chkC _ _ _ _ _ _ = rL) := HV.out.trans (by simp)
        go_wp2_with (go_at_call 45; refine (HC.out _ HB2.out).mono ?_; rintro e w3 ⟨rfl, h3⟩; have HB3 := Lib.hid (below_then HB2.out h3); clear h3)
        go_ret
        exact ⟨ret_i HR.out.symm, HB3.out⟩
      have b1 : (ty == 1) = false := by simpa using t1
      by_cases t2 : ty = 2
      · subst t2
        have HC := Lib.hid (HA.out rfl)
        have HR : Hid (chkC _ _ _ _ _ _ = rA) := HV.out.trans (by simp)
        go_wp2_with (go_at_call 46; refine (HC.out _ HB2.out).mono ?_; rintro e w3 ⟨rfl, h3⟩; have HB3 := Lib.hid (below_then HB2.out h3); clear h3)
        go_ret
        exact ⟨ret_i HR.out.symm, HB3.out⟩
      have b2 : (ty == 2) = false := by simpa using t2
      by_cases q1 : co < 0
      · have HR : Hid (chkC _ _ _ _ _ _ = 5) := HV.out.trans (by simp [t1, t2, q1])
        go_wp2_with (first
        | (go_at_call 47; ((with_reducible refine (within_yes _ _ _ (by omega) (by omega) _).mono ?_); rintro e w' ⟨rfl, rfl⟩))
        | (go_at_call 47; ((with_reducible refine (within_no _ _ _ (by omega) _).mono ?_); rintro e w' ⟨rfl, rfl⟩)))
        go_ret
        exact ⟨ret_i HR.out.symm, HB2.out⟩
      by_cases q2 : 16777216 < co
      · have HR : Hid (chkC _ _ _ _ _ _ = 5) := HV.out.trans (by simp [t1, t2, q1, q2])
        go_wp2_with (first
        | (go_at_call 47; ((with_reducible refine (within_yes _ _ _ (by omega) (by omega) _).mono ?_); rintro e w' ⟨rfl, rfl⟩))
        | (go_at_call 47; ((with_reducible refine (within_no _ _ _ (by omega) _).mono ?_); rintro e w' ⟨rfl, rfl⟩)))
        go_ret
        exact ⟨ret_i HR.out.symm, HB2.out⟩
      by_cases q3 : ta < 0
      · have HR : Hid (chkC _ _ _ _ _ _ = 5) := HV.out.trans (by simp [t1, t2, q1, q2, q3])
        go_wp2_with (first
        | (go_at_call 47; ((with_reducible refine (within_yes _ _ _ (by omega) (by omega) _).mono ?_); rintro e w' ⟨rfl, rfl⟩))
        | (go_at_call 47; ((with_reducible refine (within_no _ _ _ (by omega) _).mono ?_); rintro e w' ⟨rfl, rfl⟩)))
        go_ret
        exact ⟨ret_i HR.out.symm, HB2.out⟩
      by_cases q4 : 4294967295 < ta
      · have HR : Hid (chkC _ _ _ _ _ _ = 5) := HV.out.trans (by simp [t1, t2, q1, q2, q3, q4])
        go_wp2_with (first
        | (go_at_call 47; ((with_reducible refine (within_yes _ _ _ (by omega) (by omega) _).mono ?_); rintro e w' ⟨rfl, rfl⟩))
        | (go_at_call 47; ((with_reducible refine (within_no _ _ _ (by omega) _).mono ?_); rintro e w' ⟨rfl, rfl⟩)))
        go_ret
        exact ⟨ret_i HR.out.symm, HB2.out⟩
      have HR : Hid (chkC _ _ _ _ _ _ = 0) := HV.out.trans (by simp [t1, t2, q1, q2, q3, q4])
      go_wp2_with (first
        | (go_at_call 47; ((with_reducible refine (within_yes _ _ _ (by omega) (by omega) _).mono ?_); rintro e w' ⟨rfl, rfl⟩))
        | (go_at_call 47; ((with_reducible refine (within_no _ _ _ (by omega) _).mono ?_); rintro e w' ⟨rfl, rfl⟩)))
      go_ret
      exact ⟨ret_i HR.out.symm, HB2.out⟩
  · have HR : Hid (chkC _ _ _ _ _ _ = c) := HV.out.trans (by simp [c0])
    have c0' : (c != 0) = true := by simpa using c0
    go_wp2
    go_ret
    exact ⟨ret_i HR.out.symm, HB1.out⟩
end Go.Proofs.Ytenfcnappjekgaa
