/-
  Headers: the reference's check.
-/
import Derived.Test.YtenfcnappjekgaaLaE
namespace Go.Proofs.Ytenfcnappjekgaa
open Go.RowKit
set_option linter.unusedSimpArgs false
set_option linter.unusedVariables false
set_option maxHeartbeats 4000000
set_option maxRecDepth 100000

theorem within_yes (n a b : Int) (h1 : a ≤ n) (h2 : n ≤ b) (w : World) : Calls Try.prog 47 #[.int .i64 n, .int .i64 a, .int .i64 b] w fun e w' => e = .returned (.bool true) ∧ w = w' := by
  have := within_any n a b w
  rw [decide_eq_true h1, decide_eq_true h2] at this
  exact this
theorem within_no (n a b : Int) (h : n < a ∨ b < n) (w : World) : Calls Try.prog 47 #[.int .i64 n, .int .i64 a, .int .i64 b] w fun e w' => e = .returned (.bool false) ∧ w = w' := by
  have := within_any n a b w
  rw [show (decide (a ≤ n) && decide (n ≤ b)) = false by simp; omega] at this
  exact this
theorem rhdr_any (h : Hd) (hh : HdOk h) (w : World) : Calls Try.prog 32 #[hdV h] w fun e w' => e = .returned (.int .i64 (hdrC h)) ∧ Below w.heap.size w w' := by
  have B := Lib.hid (below_alloc w (hdC h))
  have hid_ := hh.id
  have hlen := hh.len
  obtain ⟨ty, id, len, rt, seq, age, sum⟩ := h
  clear hh
  dsimp only at hid_ hlen
  by_cases c1 : ty < 1
  · have HV : Hid (hdrC ⟨ty, id, len, rt, seq, age, sum⟩ = 15) := by unfold Hid hdrC; simp [c1]
    go_enter Try.func32, Try.ntmps32
    go_wp2_with (first
      | (go_at_call 47; ((with_reducible refine (within_yes _ _ _ (by omega) (by omega) _).mono ?_); rintro e w' ⟨rfl, rfl⟩))
      | (go_at_call 47; ((with_reducible refine (within_no _ _ _ (by omega) _).mono ?_); rintro e w' ⟨rfl, rfl⟩)))
    go_ret
    exact ⟨ret_i HV.out.symm, B.out⟩
  by_cases c2 : 5 < ty
  · have HV : Hid (hdrC ⟨ty, id, len, rt, seq, age, sum⟩ = 15) := by unfold Hid hdrC; simp [c1, c2]
    go_enter Try.func32, Try.ntmps32
    go_wp2_with (first
      | (go_at_call 47; ((with_reducible refine (within_yes _ _ _ (by omega) (by omega) _).mono ?_); rintro e w' ⟨rfl, rfl⟩))
      | (go_at_call 47; ((with_reducible refine (within_no _ _ _ (by omega) _).mono ?_); rintro e w' ⟨rfl, rfl⟩)))
    go_ret
    exact ⟨ret_i HV.out.symm, B.out⟩
  by_cases c3 : rt = 0
  · have HV : Hid (hdrC ⟨ty, id, len, rt, seq, age, sum⟩ = 5) := by unfold Hid hdrC; simp [c1, c2, c3]
    subst c3
    go_enter Try.func32, Try.ntmps32
    go_wp2_with (first
      | (go_at_call 47; ((with_reducible refine (within_yes _ _ _ (by omega) (by omega) _).mono ?_); rintro e w' ⟨rfl, rfl⟩))
      | (go_at_call 47; ((with_reducible refine (within_no _ _ _ (by omega) _).mono ?_); rintro e w' ⟨rfl, rfl⟩)))
    go_ret
    exact ⟨ret_i HV.out.symm, B.out⟩
  have e3 : ((rt : Int) == 0) = false := by simpa using c3
  by_cases c4 : seq < 1
  · have HV : Hid (hdrC ⟨ty, id, len, rt, seq, age, sum⟩ = 5) := by unfold Hid hdrC; simp [c1, c2, c3, c4]
    go_enter Try.func32, Try.ntmps32
    go_wp2_with (first
      | (go_at_call 47; ((with_reducible refine (within_yes _ _ _ (by omega) (by omega) _).mono ?_); rintro e w' ⟨rfl, rfl⟩))
      | (go_at_call 47; ((with_reducible refine (within_no _ _ _ (by omega) _).mono ?_); rintro e w' ⟨rfl, rfl⟩)))
    go_ret
    exact ⟨ret_i HV.out.symm, B.out⟩
  by_cases c5 : 2147483647 < seq
  · have HV : Hid (hdrC ⟨ty, id, len, rt, seq, age, sum⟩ = 5) := by unfold Hid hdrC; simp [c1, c2, c3, c4, c5]
    go_enter Try.func32, Try.ntmps32
    go_wp2_with (first
      | (go_at_call 47; ((with_reducible refine (within_yes _ _ _ (by omega) (by omega) _).mono ?_); rintro e w' ⟨rfl, rfl⟩))
      | (go_at_call 47; ((with_reducible refine (within_no _ _ _ (by omega) _).mono ?_); rintro e w' ⟨rfl, rfl⟩)))
    go_ret
    exact ⟨ret_i HV.out.symm, B.out⟩
  by_cases c6 : age < 0
  · have HV : Hid (hdrC ⟨ty, id, len, rt, seq, age, sum⟩ = 5) := by unfold Hid hdrC; simp [c1, c2, c3, c4, c5, c6]
    go_enter Try.func32, Try.ntmps32
    go_wp2_with (first
      | (go_at_call 47; ((with_reducible refine (within_yes _ _ _ (by omega) (by omega) _).mono ?_); rintro e w' ⟨rfl, rfl⟩))
      | (go_at_call 47; ((with_reducible refine (within_no _ _ _ (by omega) _).mono ?_); rintro e w' ⟨rfl, rfl⟩)))
    go_ret
    exact ⟨ret_i HV.out.symm, B.out⟩
  by_cases c7 : 3600 < age
  · have HV : Hid (hdrC ⟨ty, id, len, rt, seq, age, sum⟩ = 5) := by unfold Hid hdrC; simp [c1, c2, c3, c4, c5, c6, c7]
    go_enter Try.func32, Try.ntmps32
    go_wp2_with (first
      | (go_at_call 47; ((with_reducible refine (within_yes _ _ _ (by omega) (by omega) _).mono ?_); rintro e w' ⟨rfl, rfl⟩))
      | (go_at_call 47; ((with_reducible refine (within_no _ _ _ (by omega) _).mono ?_); rintro e w' ⟨rfl, rfl⟩)))
    go_ret
    exact ⟨ret_i HV.out.symm, B.out⟩
  by_cases c8 : sum < 0
  · have HV : Hid (hdrC ⟨ty, id, len, rt, seq, age, sum⟩ = 5) := by unfold Hid hdrC; simp [c1, c2, c3, c4, c5, c6, c7, c8]
    go_enter Try.func32, Try.ntmps32
    go_wp2_with (first
      | (go_at_call 47; ((with_reducible refine (within_yes _ _ _ (by omega) (by omega) _).mono ?_); rintro e w' ⟨rfl, rfl⟩))
      | (go_at_call 47; ((with_reducible refine (within_no _ _ _ (by omega) _).mono ?_); rintro e w' ⟨rfl, rfl⟩)))
    go_ret
    exact ⟨ret_i HV.out.symm, B.out⟩
  by_cases c9 : 65535 < sum
  · have HV : Hid (hdrC ⟨ty, id, len, rt, seq, age, sum⟩ = 5) := by unfold Hid hdrC; simp [c1, c2, c3, c4, c5, c6, c7, c8, c9]
    go_enter Try.func32, Try.ntmps32
    go_wp2_with (first
      | (go_at_call 47; ((with_reducible refine (within_yes _ _ _ (by omega) (by omega) _).mono ?_); rintro e w' ⟨rfl, rfl⟩))
      | (go_at_call 47; ((with_reducible refine (within_no _ _ _ (by omega) _).mono ?_); rintro e w' ⟨rfl, rfl⟩)))
    go_ret
    exact ⟨ret_i HV.out.symm, B.out⟩
  by_cases hl : ty = 1 ∨ ty = 4
  · have HL : Hid (longest ⟨ty, id, len, rt, seq, age, sum⟩ = 0) := by unfold Hid longest; simp [hl]
    by_cases c10 : len = 0
    · subst c10
      rcases hl with rfl | rfl
      · have c1 : ¬ (1:Int) < 1 := by omega
        have HD : Hid (hdrC ⟨1, id, 0, rt, seq, age, sum⟩ = idC ⟨1, id, 0, rt, seq, age, sum⟩) := by unfold Hid hdrC; rw [HL.out]; simp [c1, c2, c3, c4, c5, c6, c7, c8, c9]
        by_cases h2 : id = rt
        · subst h2
          have HV : Hid (hdrC ⟨1, id, 0, id, seq, age, sum⟩ = 0) := by unfold Hid; rw [HD.out]; unfold idC; simp
          go_enter Try.func32, Try.ntmps32
          go_wp2_with (first
            | (go_at_call 47; ((with_reducible refine (within_yes _ _ _ (by omega) (by omega) _).mono ?_); rintro e w' ⟨rfl, rfl⟩))
            | (go_at_call 47; ((with_reducible refine (within_no _ _ _ (by omega) _).mono ?_); rintro e w' ⟨rfl, rfl⟩)))
          go_ret
          exact ⟨ret_i HV.out.symm, B.out⟩
        · have HV : Hid (hdrC ⟨1, id, 0, rt, seq, age, sum⟩ = 14) := by unfold Hid; rw [HD.out]; unfold idC; simp [h2]
          have h2' : ¬ (id : Int) = (rt : Int) := by omega
          go_enter Try.func32, Try.ntmps32
          go_wp2_with (first
            | (go_at_call 47; ((with_reducible refine (within_yes _ _ _ (by omega) (by omega) _).mono ?_); rintro e w' ⟨rfl, rfl⟩))
            | (go_at_call 47; ((with_reducible refine (within_no _ _ _ (by omega) _).mono ?_); rintro e w' ⟨rfl, rfl⟩)))
          go_ret
          exact ⟨ret_i HV.out.symm, B.out⟩
      · have c1 : ¬ (4:Int) < 1 := by omega
        have HD : Hid (hdrC ⟨4, id, 0, rt, seq, age, sum⟩ = idC ⟨4, id, 0, rt, seq, age, sum⟩) := by unfold Hid hdrC; rw [HL.out]; simp [c1, c2, c3, c4, c5, c6, c7, c8, c9]
        by_cases h2 : id = 0
        · have HV : Hid (hdrC ⟨4, id, 0, rt, seq, age, sum⟩ = 1) := by unfold Hid; rw [HD.out]; unfold idC; simp [h2]
          subst h2
          go_enter Try.func32, Try.ntmps32
          go_wp2_with (first
            | (go_at_call 47; ((with_reducible refine (within_yes _ _ _ (by omega) (by omega) _).mono ?_); rintro e w' ⟨rfl, rfl⟩))
            | (go_at_call 47; ((with_reducible refine (within_no _ _ _ (by omega) _).mono ?_); rintro e w' ⟨rfl, rfl⟩)))
          go_ret
          exact ⟨ret_i HV.out.symm, B.out⟩
        · have HV : Hid (hdrC ⟨4, id, 0, rt, seq, age, sum⟩ = 0) := by unfold Hid; rw [HD.out]; unfold idC; simp [h2]
          have h2' : ((id : Int) == 0) = false := by simpa using h2
          go_enter Try.func32, Try.ntmps32
          go_wp2_with (first
            | (go_at_call 47; ((with_reducible refine (within_yes _ _ _ (by omega) (by omega) _).mono ?_); rintro e w' ⟨rfl, rfl⟩))
            | (go_at_call 47; ((with_reducible refine (within_no _ _ _ (by omega) _).mono ?_); rintro e w' ⟨rfl, rfl⟩)))
          go_ret
          exact ⟨ret_i HV.out.symm, B.out⟩
    · have HV : Hid (hdrC ⟨ty, id, len, rt, seq, age, sum⟩ = 5) := by unfold Hid hdrC; rw [HL.out]; simp [c1, c2, c3, c4, c5, c6, c7, c8, c9]; omega
      have c10' : (len != 0) = true := by simpa using c10
      rcases hl with rfl | rfl
      all_goals (
        go_enter Try.func32, Try.ntmps32
        go_wp2_with (first
          | (go_at_call 47; ((with_reducible refine (within_yes _ _ _ (by omega) (by omega) _).mono ?_); rintro e w' ⟨rfl, rfl⟩))
          | (go_at_call 47; ((with_reducible refine (within_no _ _ _ (by omega) _).mono ?_); rintro e w' ⟨rfl, rfl⟩)))
        go_ret
        exact ⟨ret_i HV.out.symm, B.out⟩)
  · have HL : Hid (longest ⟨ty, id, len, rt, seq, age, sum⟩ = 32) := by unfold Hid longest; simp [hl]
    have d1 : ¬ ty = 1 := fun e => hl (Or.inl e)
    have d4 : ¬ ty = 4 := fun e => hl (Or.inr e)
    have b1 : (ty == 1) = false := by simpa using d1
    have b4 : (ty == 4) = false := by simpa using d4
    by_cases c10 : len < 0
    · have HV : Hid (hdrC ⟨ty, id, len, rt, seq, age, sum⟩ = 5) := by unfold Hid hdrC; simp [c1, c2, c3, c4, c5, c6, c7, c8, c9, c10]
      go_enter Try.func32, Try.ntmps32
      go_wp2_with (first
        | (go_at_call 47; ((with_reducible refine (within_yes _ _ _ (by omega) (by omega) _).mono ?_); rintro e w' ⟨rfl, rfl⟩))
        | (go_at_call 47; ((with_reducible refine (within_no _ _ _ (by omega) _).mono ?_); rintro e w' ⟨rfl, rfl⟩)))
      go_ret
      exact ⟨ret_i HV.out.symm, B.out⟩
    by_cases c11 : 32 < len
    · have HV : Hid (hdrC ⟨ty, id, len, rt, seq, age, sum⟩ = 5) := by unfold Hid hdrC; rw [HL.out]; simp [c1, c2, c3, c4, c5, c6, c7, c8, c9, c10, c11]
      go_enter Try.func32, Try.ntmps32
      go_wp2_with (first
        | (go_at_call 47; ((with_reducible refine (within_yes _ _ _ (by omega) (by omega) _).mono ?_); rintro e w' ⟨rfl, rfl⟩))
        | (go_at_call 47; ((with_reducible refine (within_no _ _ _ (by omega) _).mono ?_); rintro e w' ⟨rfl, rfl⟩)))
      go_ret
      exact ⟨ret_i HV.out.symm, B.out⟩
    rcases (by omega : ty = 2 ∨ ty = 3 ∨ ty = 5) with rfl | rfl | rfl
    · clear b1 b4 d1 d4 c1 c2
      have HD : Hid (hdrC ⟨2, id, len, rt, seq, age, sum⟩ = idC ⟨2, id, len, rt, seq, age, sum⟩) := by unfold Hid hdrC; rw [HL.out]; simp [c3, c4, c5, c6, c7, c8, c9, c10, c11]
      by_cases h2 : id = 0
      · have HV : Hid (hdrC ⟨2, id, len, rt, seq, age, sum⟩ = 1) := by unfold Hid; rw [HD.out]; unfold idC; simp [h2]
        subst h2
        go_enter Try.func32, Try.ntmps32
        go_wp2_with (first
          | (go_at_call 47; ((with_reducible refine (within_yes _ _ _ (by omega) (by omega) _).mono ?_); rintro e w' ⟨rfl, rfl⟩))
          | (go_at_call 47; ((with_reducible refine (within_no _ _ _ (by omega) _).mono ?_); rintro e w' ⟨rfl, rfl⟩)))
        go_ret
        exact ⟨ret_i HV.out.symm, B.out⟩
      · have HV : Hid (hdrC ⟨2, id, len, rt, seq, age, sum⟩ = 0) := by unfold Hid; rw [HD.out]; unfold idC; simp [h2]
        have h2' : ((id : Int) == 0) = false := by simpa using h2
        go_enter Try.func32, Try.ntmps32
        go_wp2_with (first
          | (go_at_call 47; ((with_reducible refine (within_yes _ _ _ (by omega) (by omega) _).mono ?_); rintro e w' ⟨rfl, rfl⟩))
          | (go_at_call 47; ((with_reducible refine (within_no _ _ _ (by omega) _).mono ?_); rintro e w' ⟨rfl, rfl⟩)))
        go_ret
        exact ⟨ret_i HV.out.symm, B.out⟩
    · clear b1 b4 d1 d4 c1 c2
      have HD : Hid (hdrC ⟨3, id, len, rt, seq, age, sum⟩ = idC ⟨3, id, len, rt, seq, age, sum⟩) := by unfold Hid hdrC; rw [HL.out]; simp [c3, c4, c5, c6, c7, c8, c9, c10, c11]
      cases hv : vld id len
      · have HV : Hid (hdrC ⟨3, id, len, rt, seq, age, sum⟩ = 1) := by unfold Hid; rw [HD.out]; unfold idC; simp [hv]
        have HC : Hid (∀ W, Calls Try.prog 73 #[.int .u32 (id : Int), .int .i64 len] W fun e w' => e = .returned (.bool false) ∧ W = w') := fun W => hv ▸ fits_any id hid_ len hlen W
        clear hv
        go_enter Try.func32, Try.ntmps32
        go_wp2_with (first
          | (go_at_call 47; ((with_reducible refine (within_yes _ _ _ (by omega) (by omega) _).mono ?_); rintro e w' ⟨rfl, rfl⟩))
          | (go_at_call 47; ((with_reducible refine (within_no _ _ _ (by omega) _).mono ?_); rintro e w' ⟨rfl, rfl⟩))
          | (go_at_call 73; refine (HC.out _).mono ?_; rintro e w' ⟨rfl, rfl⟩))
        go_ret
        exact ⟨ret_i HV.out.symm, B.out⟩
      · have HV : Hid (hdrC ⟨3, id, len, rt, seq, age, sum⟩ = 0) := by unfold Hid; rw [HD.out]; unfold idC; simp [hv]
        have HC : Hid (∀ W, Calls Try.prog 73 #[.int .u32 (id : Int), .int .i64 len] W fun e w' => e = .returned (.bool true) ∧ W = w') := fun W => hv ▸ fits_any id hid_ len hlen W
        clear hv
        go_enter Try.func32, Try.ntmps32
        go_wp2_with (first
          | (go_at_call 47; ((with_reducible refine (within_yes _ _ _ (by omega) (by omega) _).mono ?_); rintro e w' ⟨rfl, rfl⟩))
          | (go_at_call 47; ((with_reducible refine (within_no _ _ _ (by omega) _).mono ?_); rintro e w' ⟨rfl, rfl⟩))
          | (go_at_call 73; refine (HC.out _).mono ?_; rintro e w' ⟨rfl, rfl⟩))
        go_ret
        exact ⟨ret_i HV.out.symm, B.out⟩
    · clear b1 b4 d1 d4 c1 c2
      have HD : Hid (hdrC ⟨5, id, len, rt, seq, age, sum⟩ = idC ⟨5, id, len, rt, seq, age, sum⟩) := by unfold Hid hdrC; rw [HL.out]; simp [c3, c4, c5, c6, c7, c8, c9, c10, c11]
      cases hv : vld id len
      · have HV : Hid (hdrC ⟨5, id, len, rt, seq, age, sum⟩ = 1) := by unfold Hid; rw [HD.out]; unfold idC; simp [hv]
        have HC : Hid (∀ W, Calls Try.prog 73 #[.int .u32 (id : Int), .int .i64 len] W fun e w' => e = .returned (.bool false) ∧ W = w') := fun W => hv ▸ fits_any id hid_ len hlen W
        clear hv
        go_enter Try.func32, Try.ntmps32
        go_wp2_with (first
          | (go_at_call 47; ((with_reducible refine (within_yes _ _ _ (by omega) (by omega) _).mono ?_); rintro e w' ⟨rfl, rfl⟩))
          | (go_at_call 47; ((with_reducible refine (within_no _ _ _ (by omega) _).mono ?_); rintro e w' ⟨rfl, rfl⟩))
          | (go_at_call 73; refine (HC.out _).mono ?_; rintro e w' ⟨rfl, rfl⟩))
        go_ret
        exact ⟨ret_i HV.out.symm, B.out⟩
      · have HV : Hid (hdrC ⟨5, id, len, rt, seq, age, sum⟩ = 0) := by unfold Hid; rw [HD.out]; unfold idC; simp [hv]
        have HC : Hid (∀ W, Calls Try.prog 73 #[.int .u32 (id : Int), .int .i64 len] W fun e w' => e = .returned (.bool true) ∧ W = w') := fun W => hv ▸ fits_any id hid_ len hlen W
        clear hv
        go_enter Try.func32, Try.ntmps32
        go_wp2_with (first
          | (go_at_call 47; ((with_reducible refine (within_yes _ _ _ (by omega) (by omega) _).mono ?_); rintro e w' ⟨rfl, rfl⟩))
          | (go_at_call 47; ((with_reducible refine (within_no _ _ _ (by omega) _).mono ?_); rintro e w' ⟨rfl, rfl⟩))
          | (go_at_call 73; refine (HC.out _).mono ?_; rintro e w' ⟨rfl, rfl⟩))
        go_ret
        exact ⟨ret_i HV.out.symm, B.out⟩
end Go.Proofs.Ytenfcnappjekgaa
