/-
  Headers: the code's check and the reference's.
-/
import Derived.Test.YtenfcnappjekgaaLaD
import Derived.Test.YtenfcnappjekgaaPrB
namespace Go.Proofs.Ytenfcnappjekgaa
open Go.RowKit
set_option linter.unusedSimpArgs false
set_option linter.unusedVariables false
set_option maxHeartbeats 2000000
set_option maxRecDepth 100000

def idC (h : Hd) : Int := if h.ty = 1 then (if h.id = h.rt then 0 else 14) else if h.ty = 2 ∨ h.ty = 4 then (if h.id = 0 then 1 else 0) else if vld h.id h.len = true then 0 else 1
def longest (h : Hd) : Int := if h.ty = 1 ∨ h.ty = 4 then 0 else 32
def hdrC (h : Hd) : Int :=
  if h.ty < 1 then 15 else if 5 < h.ty then 15 else if h.rt = 0 then 5 else if h.seq < 1 then 5 else if 2147483647 < h.seq then 5 else if h.age < 0 then 5 else if 3600 < h.age then 5 else if h.sum < 0 then 5 else if 65535 < h.sum then 5
  else if h.len < 0 then 5 else if longest h < h.len then 5 else idC h
theorem within_any (n a b : Int) (w : World) : Calls Try.prog 47 #[.int .i64 n, .int .i64 a, .int .i64 b] w fun e w' => e = .returned (.bool (decide (a ≤ n) && decide (n ≤ b))) ∧ w = w' := by
  cases d1 : decide (a ≤ n) <;> cases d2 : decide (n ≤ b)
  all_goals (
    go_enter Try.func47, Try.ntmps47
    go_wp2
    go_ret
    first | exact ⟨rfl, rfl⟩ | exact ⟨ret_b (by simp), rfl⟩)
theorem id_any (h : Hd) (hh : HdOk h) (w : World) : Calls Try.prog 78 #[hdV h] w fun e w' => e = .returned (.int .i64 (idC h)) ∧ Below w.heap.size w w' := by
  have B := Lib.hid (below_alloc w (hdC h))
  have hid_ := hh.id
  have hlen := hh.len
  obtain ⟨ty, id, len, rt, seq, age, sum⟩ := h
  dsimp only at *
  clear hh
  by_cases h1 : ty = 1
  · subst h1
    by_cases h2 : id = rt
    · subst h2
      have HV : Hid (idC ⟨1, id, len, id, seq, age, sum⟩ = 0) := by unfold Hid idC; simp
      go_enter Try.func78, Try.ntmps78
      go_wp2
      go_ret
      exact ⟨ret_i HV.out.symm, B.out⟩
    · have HV : Hid (idC ⟨1, id, len, rt, seq, age, sum⟩ = 14) := by unfold Hid idC; simp [h2]
      have h2' : ¬ (id : Int) = (rt : Int) := by omega
      go_enter Try.func78, Try.ntmps78
      go_wp2
      go_ret
      exact ⟨ret_i HV.out.symm, B.out⟩
  by_cases h2 : ty = 2 ∨ ty = 4
  · by_cases h3 : id = 0
    · have HV : Hid (idC ⟨ty, id, len, rt, seq, age, sum⟩ = 1) := by unfold Hid idC; simp [h1, h2, h3]
      subst h3
      rcases h2 with rfl | rfl
      all_goals (
        go_enter Try.func78, Try.ntmps78
        go_wp2
        go_ret
        exact ⟨ret_i HV.out.symm, B.out⟩)
    · have HV : Hid (idC ⟨ty, id, len, rt, seq, age, sum⟩ = 0) := by unfold Hid idC; simp [h1, h2, h3]
      have h3' : ((id : Int) != 0) = true := by simpa using h3
      rcases h2 with rfl | rfl
      all_goals (
        go_enter Try.func78, Try.ntmps78
        go_wp2
        go_ret
        exact ⟨ret_i HV.out.symm, B.out⟩)
  · have h3 : ¬ ty = 2 := fun e => h2 (Or.inl e)
    have h4 : ¬ ty = 4 := fun e => h2 (Or.inr e)
    cases hv : vld id len
    · have HV : Hid (idC ⟨ty, id, len, rt, seq, age, sum⟩ = 1) := by unfold Hid idC; simp [h1, h2, hv]
      have HC : Hid (∀ W, Calls Try.prog 100 #[.agg #[.int .u32 (id : Int), .int .i64 len]] W fun e w' => e = .returned (.bool false) ∧ Below W.heap.size W w') := fun W => hv ▸ valid_any id hid_ len hlen W
      clear hv h2 hid_ hlen
      go_enter Try.func78, Try.ntmps78
      go_wp2_with (go_at_call 100; refine (HC.out _).mono ?_; rintro e w1 ⟨rfl, hb⟩; have HB := Lib.hid (below_then B.out hb); clear hb)
      go_ret
      exact ⟨ret_i HV.out.symm, HB.out⟩
    · have HV : Hid (idC ⟨ty, id, len, rt, seq, age, sum⟩ = 0) := by unfold Hid idC; simp [h1, h2, hv]
      have HC : Hid (∀ W, Calls Try.prog 100 #[.agg #[.int .u32 (id : Int), .int .i64 len]] W fun e w' => e = .returned (.bool true) ∧ Below W.heap.size W w') := fun W => hv ▸ valid_any id hid_ len hlen W
      clear hv h2 hid_ hlen
      go_enter Try.func78, Try.ntmps78
      go_wp2_with (go_at_call 100; refine (HC.out _).mono ?_; rintro e w1 ⟨rfl, hb⟩; have HB := Lib.hid (below_then B.out hb); clear hb)
      go_ret
      exact ⟨ret_i HV.out.symm, HB.out⟩
theorem hdr_any (h : Hd) (hh : HdOk h) (w : World) : Calls Try.prog 40 #[hdV h] w fun e w' => e = .returned (.int .i64 (hdrC h)) ∧ Below w.heap.size w w' := by
  have B := Lib.hid (below_alloc w (hdC h))
  have HI := Lib.hid (id_any h hh)
  obtain ⟨ty, id, len, rt, seq, age, sum⟩ := h
  clear hh
  by_cases c1 : ty < 1
  · have HV : Hid (hdrC ⟨ty, id, len, rt, seq, age, sum⟩ = 15) := by unfold Hid hdrC; simp [c1]
    go_enter Try.func40, Try.ntmps40
    go_wp2
    go_ret
    exact ⟨ret_i HV.out.symm, B.out⟩
  by_cases c2 : 5 < ty
  · have HV : Hid (hdrC ⟨ty, id, len, rt, seq, age, sum⟩ = 15) := by unfold Hid hdrC; simp [c1, c2]
    go_enter Try.func40, Try.ntmps40
    go_wp2
    go_ret
    exact ⟨ret_i HV.out.symm, B.out⟩
  by_cases c3 : rt = 0
  · have HV : Hid (hdrC ⟨ty, id, len, rt, seq, age, sum⟩ = 5) := by unfold Hid hdrC; simp [c1, c2, c3]
    subst c3
    go_enter Try.func40, Try.ntmps40
    go_wp2
    go_ret
    exact ⟨ret_i HV.out.symm, B.out⟩
  have e3 : ((rt : Int) == 0) = false := by simpa using c3
  by_cases c4 : seq < 1
  · have HV : Hid (hdrC ⟨ty, id, len, rt, seq, age, sum⟩ = 5) := by unfold Hid hdrC; simp [c1, c2, c3, c4]
    go_enter Try.func40, Try.ntmps40
    go_wp2
    go_ret
    exact ⟨ret_i HV.out.symm, B.out⟩
  by_cases c5 : 2147483647 < seq
  · have HV : Hid (hdrC ⟨ty, id, len, rt, seq, age, sum⟩ = 5) := by unfold Hid hdrC; simp [c1, c2, c3, c4, c5]
    go_enter Try.func40, Try.ntmps40
    go_wp2
    go_ret
    exact ⟨ret_i HV.out.symm, B.out⟩
  by_cases c6 : age < 0
  · have HV : Hid (hdrC ⟨ty, id, len, rt, seq, age, sum⟩ = 5) := by unfold Hid hdrC; simp [c1, c2, c3, c4, c5, c6]
    go_enter Try.func40, Try.ntmps40
    go_wp2
    go_ret
    exact ⟨ret_i HV.out.symm, B.out⟩
  by_cases c7 : 3600 < age
  · have HV : Hid (hdrC ⟨ty, id, len, rt, seq, age, sum⟩ = 5) := by unfold Hid hdrC; simp [c1, c2, c3, c4, c5, c6, c7]
    go_enter Try.func40, Try.ntmps40
    go_wp2
    go_ret
    exact ⟨ret_i HV.out.symm, B.out⟩
  by_cases c8 : sum < 0
  · have HV : Hid (hdrC ⟨ty, id, len, rt, seq, age, sum⟩ = 5) := by unfold Hid hdrC; simp [c1, c2, c3, c4, c5, c6, c7, c8]
    go_enter Try.func40, Try.ntmps40
    go_wp2
    go_ret
    exact ⟨ret_i HV.out.symm, B.out⟩
  by_cases c9 : 65535 < sum
  · have HV : Hid (hdrC ⟨ty, id, len, rt, seq, age, sum⟩ = 5) := by unfold Hid hdrC; simp [c1, c2, c3, c4, c5, c6, c7, c8, c9]
    go_enter Try.func40, Try.ntmps40
    go_wp2
    go_ret
    exact ⟨ret_i HV.out.symm, B.out⟩
  by_cases c10 : len < 0
  · have HV : Hid (hdrC ⟨ty, id, len, rt, seq, age, sum⟩ = 5) := by unfold Hid hdrC; simp [c1, c2, c3, c4, c5, c6, c7, c8, c9, c10]
    by_cases hl : ty = 1 ∨ ty = 4
    · rcases hl with rfl | rfl
      all_goals (
        go_enter Try.func40, Try.ntmps40
        go_wp2
        go_ret
        exact ⟨ret_i HV.out.symm, B.out⟩)
    · have d1 : ¬ ty = 1 := fun e => hl (Or.inl e)
      have d4 : ¬ ty = 4 := fun e => hl (Or.inr e)
      have b1 : (ty == 1) = false := by simpa using d1
      have b4 : (ty == 4) = false := by simpa using d4
      go_enter Try.func40, Try.ntmps40
      go_wp2
      go_ret
      exact ⟨ret_i HV.out.symm, B.out⟩
  by_cases hl : ty = 1 ∨ ty = 4
  · have HL : Hid (longest ⟨ty, id, len, rt, seq, age, sum⟩ = 0) := by unfold Hid longest; simp [hl]
    by_cases c11 : 0 < len
    · have HV : Hid (hdrC ⟨ty, id, len, rt, seq, age, sum⟩ = 5) := by unfold Hid hdrC; rw [HL.out]; simp [c1, c2, c3, c4, c5, c6, c7, c8, c9, c10, c11]
      rcases hl with rfl | rfl
      all_goals (
        go_enter Try.func40, Try.ntmps40
        go_wp2
        go_ret
        exact ⟨ret_i HV.out.symm, B.out⟩)
    · have HV : Hid (hdrC ⟨ty, id, len, rt, seq, age, sum⟩ = idC ⟨ty, id, len, rt, seq, age, sum⟩) := by unfold Hid hdrC; rw [HL.out]; simp [c1, c2, c3, c4, c5, c6, c7, c8, c9, c10, c11]
      rcases hl with rfl | rfl
      all_goals (
        go_enter Try.func40, Try.ntmps40
        go_wp2_with (go_at_call 78; refine (HI.out _).mono ?_; rintro e w1 ⟨rfl, hb⟩; have HB := Lib.hid (below_then B.out hb); clear hb)
        go_ret
        exact ⟨ret_i HV.out.symm, HB.out⟩)
  · have HL : Hid (longest ⟨ty, id, len, rt, seq, age, sum⟩ = 32) := by unfold Hid longest; simp [hl]
    have d1 : ¬ ty = 1 := fun e => hl (Or.inl e)
    have d4 : ¬ ty = 4 := fun e => hl (Or.inr e)
    have b1 : (ty == 1) = false := by simpa using d1
    have b4 : (ty == 4) = false := by simpa using d4
    by_cases c11 : 32 < len
    · have HV : Hid (hdrC ⟨ty, id, len, rt, seq, age, sum⟩ = 5) := by unfold Hid hdrC; rw [HL.out]; simp [c1, c2, c3, c4, c5, c6, c7, c8, c9, c10, c11]
      go_enter Try.func40, Try.ntmps40
      go_wp2
      go_ret
      exact ⟨ret_i HV.out.symm, B.out⟩
    · have HV : Hid (hdrC ⟨ty, id, len, rt, seq, age, sum⟩ = idC ⟨ty, id, len, rt, seq, age, sum⟩) := by unfold Hid hdrC; rw [HL.out]; simp [c1, c2, c3, c4, c5, c6, c7, c8, c9, c10, c11]
      go_enter Try.func40, Try.ntmps40
      go_wp2_with (go_at_call 78; refine (HI.out _).mono ?_; rintro e w1 ⟨rfl, hb⟩; have HB := Lib.hid (below_then B.out hb); clear hb)
      go_ret
      exact ⟨ret_i HV.out.symm, HB.out⟩
end Go.Proofs.Ytenfcnappjekgaa
