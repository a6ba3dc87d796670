/-
  The walk of the reference's Check.
-/
import Derived.Test.YtaniiennfogjaaaGreatDoorAvB
namespace Go.Proofs.YtaniiennfogjaaaGreatDoor
open Go.RowKit P
set_option linter.unusedSimpArgs false
set_option linter.unusedVariables false
set_option maxHeartbeats 1500000
set_option maxRecDepth 100000
theorem rcheck_any (p : List Sg) (v : Value) (w : World) (hv : RdS w v p) : Calls Tryz.prog 14 #[v] w fun e w' => e = .returned (.int .i64 (chk p)) ∧ Below w.heap.size w w' := by
  have HV := Lib.hid hv
  obtain ⟨ad, cap, hf⟩ := hv.form
  subst hf
  have hcap : p.length ≤ 9223372036854775807 := by obtain ⟨_, _, e, h1, h2, _⟩ := hv; have := h2.1; omega
  have HC : Hid (chk p = if 64 < p.length then 4 else scan none p) := rfl
  obtain ⟨n, hn⟩ : ∃ n, p.length = n := ⟨_, rfl⟩
  rw [hn] at HC HV hcap ⊢
  have HN := Lib.hid hn
  generalize chk p = q at *
  clear hv hn
  by_cases h64 : 64 < n
  · have HQ : Hid (q = 4) := by show _ = _; rw [HC.out, if_pos h64]
    have e1 : decide ((64 : Int) < (n : Int)) = true := decide_eq_true (by omega)
    clear HV
    go_enter Tryz.func14, Tryz.ntmps14
    go_wp2
    go_ret
    exact ⟨by rw [HQ.out] <;> rfl, Below.refl _ _⟩
  · have e1 : decide ((64 : Int) < (n : Int)) = false := decide_eq_false (by omega)
    have HQ0 : Hid (q = scan (prevO p 0) (p.drop 0)) := by show _ = _; rw [HC.out, if_neg h64]; rfl
    have HB0 : Hid (Bef p 0) := Bef.start p
    have HS0 : Hid (Below w.heap.size w w) := Below.refl _ _
    clear HC
    go_enter Tryz.func14, Tryz.ntmps14
    go_wp2_with fail
    go_loopg [3, 4, 10] (n + 1) (fun g s3 s4 s10 wr => ∃ k : Nat, k ≤ n ∧ n + 1 - k ≤ g ∧ s10 = .int .i64 (k : Int) ∧ (∃ z, z = s3) ∧ (∃ z, z = s4) ∧ Hid (q = scan (prevO p k) (p.drop k)) ∧ Hid (Bef p k) ∧ Hid (Below w.heap.size w wr))
    case atStart => exact ⟨0, by omega, by omega, rfl, ⟨_, rfl⟩, ⟨_, rfl⟩, HQ0, HB0, HS0⟩
    case round =>
      clear HQ0 HB0 HS0
      obtain ⟨k, hk, hkg, rfl, ⟨u3, rfl⟩, ⟨u4, rfl⟩, HQ, HB, HS⟩ := hrel
      by_cases hlt : k < n
      · obtain ⟨s, hs⟩ : ∃ s, p[k]? = some s := ⟨_, List.getElem?_eq_getElem (by have := HN.out; omega)⟩
        have HST := Lib.hid (HB.out.step hs)
        have HR := Lib.hid (segR_any p k s _ wr (HV.out.below HS.out) hs)
        have k1 : decide ((k : Int) < (n : Int)) = true := decide_eq_true (by omega)
        generalize segR p k s = r at *
        by_cases hr : r = 0
        · have HQ2 : Hid (q = scan (prevO p (k + 1)) (p.drop (k + 1))) := by
            show _ = _; rw [HQ.out, HST.out.1, if_neg (by simp [hr])]
          have HB2 : Hid (Bef p (k + 1)) := HST.out.2 hr
          subst hr
          clear HQ HB HST hs
          go_wp2_with fail
          go_at_call 41
          refine HR.out.mono ?_
          rintro e w1 ⟨rfl, hb⟩
          have HS2 := Lib.hid (below_then HS.out hb)
          clear hb HR HS
          go_wp2_with fail
          go_roundg (n + 1 - (k + 1))
          case measure => omega
          case rel => exact ⟨k + 1, by omega, Nat.le_refl _, by go_num, ⟨_, rfl⟩, ⟨_, rfl⟩, HQ2, HB2, HS2⟩
        · have HQ2 : Hid (q = r) := by
            show _ = _; rw [HQ.out, HST.out.1, if_pos hr]
          have e2 : (r == 0) = false := by simpa using hr
          have e3 : (r != 0) = true := by simpa using hr
          clear HQ HB HST hs
          go_wp2_with fail
          go_at_call 41
          refine HR.out.mono ?_
          rintro e w1 ⟨rfl, hb⟩
          have HS2 := Lib.hid (below_then HS.out hb)
          clear hb HR HS
          go_wp2
          go_ret
          exact ⟨by rw [HQ2.out] <;> rfl, HS2.out⟩
      · have k1 : decide ((k : Int) < (n : Int)) = false := decide_eq_false (by omega)
        have HQ2 : Hid (q = 0) := by
          show _ = _
          rw [HQ.out, List.drop_of_length_le (by rw [HN.out]; omega)]
          cases prevO p k <;> rfl
        clear HQ HB
        go_wp2
        go_ret
        exact ⟨by rw [HQ2.out] <;> rfl, HS.out⟩
end Go.Proofs.YtaniiennfogjaaaGreatDoor
