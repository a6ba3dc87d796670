/-
  The walk of the reference's Permits.
-/
import Derived.Test.YtaniiennfogjaaaDoorCmY
namespace Go.Proofs.YtaniiennfogjaaaDoor
open Go.RowKit T
set_option linter.unusedSimpArgs false
set_option linter.unusedVariables false
set_option maxHeartbeats 1500000
set_option maxRecDepth 100000

theorem rpermits_any (rs : List Ru) (l : List Nat) (u v : Value) (w : World) (hu : RdU w u rs) (hv : Rd w v l) :
    Calls Tryd.prog 28 #[u, v] w fun e w' => e = .returned (.bool (permB rs l)) ∧ Below w.heap.size w w' := by
  have HV := Lib.hid hv
  obtain ⟨ad, cap, rfl, ⟨h1, h1'⟩, hc⟩ := hu
  have HC := Lib.hid hc
  obtain ⟨ad2, cap2, rfl⟩ := hv.form
  obtain ⟨L, hL⟩ : ∃ L, rs.length = L := ⟨_, rfl⟩
  rw [hL] at h1 ⊢
  have HL := Lib.hid hL
  clear hv hc hL
  obtain ⟨q, hq⟩ : ∃ q, permB rs l = q := ⟨_, rfl⟩
  rw [hq]
  have HQ := Lib.hid hq
  clear hq
  have HS : Hid (∀ (k : Nat) (z : Ru), k < 0 → rs[k]? = some z → mr l z = false) := fun k z h => by omega
  have HW := Lib.hid (Below.refl w.heap.size w)
  go_enter Tryd.func28, Tryd.ntmps28
  go_wp2_with fail
  go_loopg [6, 9] L (fun g s6 s9 wr => ∃ k : Nat, k ≤ L ∧ L - k ≤ g ∧ s9 = .int .i64 (k : Int) ∧ (∃ q, q = s6) ∧ Hid (∀ (j : Nat) (z : Ru), j < k → rs[j]? = some z → mr l z = false) ∧ Hid (Below w.heap.size w wr))
  case atStart => exact ⟨0, by omega, by omega, rfl, ⟨_, rfl⟩, HS, HW⟩
  case round =>
    clear HS HW
    obtain ⟨k, hk, hkg, rfl, ⟨u6, rfl⟩, HS, HW⟩ := hrel
    by_cases hlt : k < L
    · obtain ⟨z, hz⟩ : ∃ z, rs[k]? = some z := ⟨_, List.getElem?_eq_getElem (by rw [HL.out]; exact hlt)⟩
      obtain ⟨b, off, rfl, hb, e0, e1, e2⟩ := HC.out k z hz
      have c0 := carry HW.out e0
      have c1 := carry HW.out e1
      have c2 := carry HW.out e2
      have HZ := Lib.hid hz
      have k0 : (0 : Int) ≤ (k : Int) := by omega
      have k1 : (k : Int) < (L : Int) := by omega
      obtain ⟨pm, hi, lo⟩ := z
      dsimp only at c0 c1 c2
      have hx : (wr.alloc (.cells #[.bool pm, .int .i64 hi, .int .i64 lo] 40)).heap[wr.heap.size]? = some (.cells #[.bool pm, .int .i64 hi, .int .i64 lo] 40 (0, 0)) := heap_alloc_new _ _
      have HX := Lib.hid hx
      have x0 : (wr.alloc (.cells #[.bool pm, .int .i64 hi, .int .i64 lo] 40)).cell? ⟨wr.heap.size, 0, none⟩ = some (.bool pm) := cell_of hx rfl
      have x1 : (wr.alloc (.cells #[.bool pm, .int .i64 hi, .int .i64 lo] 40)).cell? ⟨wr.heap.size, 1, none⟩ = some (.int .i64 hi) := cell_of hx rfl
      have x2 : (wr.alloc (.cells #[.bool pm, .int .i64 hi, .int .i64 lo] 40)).cell? ⟨wr.heap.size, 2, none⟩ = some (.int .i64 lo) := cell_of hx rfl
      have HBB : Hid (Below w.heap.size w (wr.alloc (.cells #[.bool pm, .int .i64 hi, .int .i64 lo] 40))) := below_then HW.out (below_alloc _ _)
      have HMM := Lib.hid (rmatch_any pm hi lo l _ (wr.alloc (.cells #[.bool pm, .int .i64 hi, .int .i64 lo] 40)) (HV.out.below HBB.out))
      clear hz e0 e1 e2 hb hx
      cases hpz : mr l (pm, hi, lo) with
      | true =>
        have HM : Hid (pm = q) := by unfold Hid; rw [← HQ.out]; exact (perm_at HZ.out hpz HS.out).symm
        have e : matchB hi lo l = true := hpz
        rw [e] at HMM
        clear HS HZ hpz e
        go_wp2_with fail
        go_at_call 26
        refine HMM.out.mono ?_
        rintro e w1 ⟨rfl, hw1⟩
        have y0 := carry hw1 (cell_of HX.out (rfl : (#[Value.bool pm, .int .i64 hi, .int .i64 lo] : Array Value)[0]? = some (.bool pm)))
        have HW1 := Lib.hid (below_then HBB.out hw1)
        clear hw1
        go_wp2
        go_ret
        exact ⟨ret_b HM.out, HW1.out⟩
      | false =>
        have HN : Hid (∀ (j : Nat) (z : Ru), j < k + 1 → rs[j]? = some z → mr l z = false) := fun j z' hj hz' => by
          by_cases e : j = k
          · subst e; have := HZ.out; rw [hz'] at this; cases this; exact hpz
          · exact HS.out j z' (by omega) hz'
        have e : matchB hi lo l = false := hpz
        rw [e] at HMM
        clear HS HZ hpz e
        go_wp2_with fail
        go_at_call 26
        refine HMM.out.mono ?_
        rintro e w1 ⟨rfl, hw1⟩
        have HW1 := Lib.hid (below_then HBB.out hw1)
        clear hw1
        go_wp2_with fail
        go_roundg (L - (k + 1))
        case measure => omega
        case rel => exact ⟨k + 1, by omega, Nat.le_refl _, by go_num, ⟨_, rfl⟩, HN, HW1⟩
    · have k1 : decide ((k : Int) < (L : Int)) = false := decide_eq_false (by omega)
      have HM : Hid (false = q) := by
        unfold Hid; rw [← HQ.out]
        exact (perm_none fun x hm => by
          obtain ⟨j, hj⟩ := List.getElem?_of_mem hm
          exact HS.out j x (by have := (List.getElem?_eq_some_iff.1 hj).1; have := HL.out; omega) hj).symm
      clear HS
      go_wp2
      go_ret
      exact ⟨ret_b HM.out, HW.out⟩
end Go.Proofs.YtaniiennfogjaaaDoor
