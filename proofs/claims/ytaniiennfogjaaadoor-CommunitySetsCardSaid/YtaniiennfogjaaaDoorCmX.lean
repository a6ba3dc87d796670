/-
  The walk of the reference's Match.
-/
import Derived.Test.YtaniiennfogjaaaDoorCmV
namespace Go.Proofs.YtaniiennfogjaaaDoor
open Go.RowKit T
set_option linter.unusedSimpArgs false
set_option linter.unusedVariables false
set_option maxHeartbeats 1500000
set_option maxRecDepth 100000

theorem rmatch_any (pm : Bool) (hi lo : Int) (l : List Nat) (v : Value) (w : World) (hv : Rd w v l) :
    Calls Tryd.prog 26 #[.agg #[.bool pm, .int .i64 hi, .int .i64 lo], v] w fun e w' => e = .returned (.bool (matchB hi lo l)) ∧ Below w.heap.size w w' := by
  have hx : (w.alloc (.cells #[.bool pm, .int .i64 hi, .int .i64 lo] 40)).heap[w.heap.size]? = some (.cells #[.bool pm, .int .i64 hi, .int .i64 lo] 40 (0, 0)) := heap_alloc_new _ _
  have c1 : (w.alloc (.cells #[.bool pm, .int .i64 hi, .int .i64 lo] 40)).cell? ⟨w.heap.size, 1, none⟩ = some (.int .i64 hi) := cell_of hx rfl
  have c2 : (w.alloc (.cells #[.bool pm, .int .i64 hi, .int .i64 lo] 40)).cell? ⟨w.heap.size, 2, none⟩ = some (.int .i64 lo) := cell_of hx rfl
  have HB : Hid (Below w.heap.size w (w.alloc (.cells #[.bool pm, .int .i64 hi, .int .i64 lo] 40))) := below_alloc _ _
  obtain ⟨ad, cap, rfl, ⟨h1, h1'⟩, h2, hc⟩ := hv.below HB.out
  have HC := Lib.hid hc
  have H32 := Lib.hid h2
  obtain ⟨L, hL⟩ : ∃ L, l.length = L := ⟨_, rfl⟩
  rw [hL] at h1 ⊢
  have HL := Lib.hid hL
  clear hc hL h2 hx hv
  obtain ⟨q, hq⟩ : ∃ q, matchB hi lo l = q := ⟨_, rfl⟩
  rw [hq]
  have HQ := Lib.hid hq
  clear hq
  have HS : Hid (∀ (k z : Nat), k < 0 → l[k]? = some z → matchC hi lo z = false) := fun k z h => by omega
  have HW : Hid (∃ W, W = w.alloc (.cells #[.bool pm, .int .i64 hi, .int .i64 lo] 40)) := ⟨_, rfl⟩
  go_enter Tryd.func26, Tryd.ntmps26
  go_wp2_with fail
  generalize w.alloc (.cells #[.bool pm, .int .i64 hi, .int .i64 lo] 40) = W at *
  go_loop [6, 9] (fun s6 s9 => ∃ k : Nat, k ≤ L ∧ s9 = .int .i64 (k : Int) ∧ (∃ q, q = s6) ∧ Hid (∀ (j z : Nat), j < k → l[j]? = some z → matchC hi lo z = false)) (fun _ s9 => L - (intOf s9).toNat)
  case atStart => exact ⟨0, by omega, rfl, ⟨_, rfl⟩, HS⟩
  case round =>
    clear HS
    obtain ⟨k, hk, rfl, ⟨u6, rfl⟩, HS⟩ := hrel
    by_cases hlt : k < L
    · obtain ⟨c, hcz⟩ : ∃ c, l[k]? = some c := ⟨_, List.getElem?_eq_getElem (by rw [HL.out]; exact hlt)⟩
      obtain ⟨b, off, rfl, _, c0⟩ := HC.out k c hcz
      have hc32 := H32.out.get hcz
      have HZ := Lib.hid hcz
      have k0 : (0 : Int) ≤ (k : Int) := by omega
      have k1 : (k : Int) < (L : Int) := by omega
      have ha := and16 hc32
      have w1 : IntKind.i64.wrap ((c : Int) / 65536) = ((c / 65536 : Nat) : Int) := by rw [IntWalk.i64_in _ (by constructor <;> omega)]; omega
      have w2 : IntKind.i64.wrap ((c % 65536 : Nat) : Int) = ((c % 65536 : Nat) : Int) := IntWalk.i64_in _ (by constructor <;> omega)
      have HM : Hid (matchC hi lo c = (fitB hi ((c / 65536 : Nat) : Int) && fitB lo ((c % 65536 : Nat) : Int))) := rfl
      have HN : Hid (matchC hi lo c = false → ∀ (j z : Nat), j < k + 1 → l[j]? = some z → matchC hi lo z = false) := fun hf j z' hj hz' => by
        by_cases e : j = k
        · subst e; have := HZ.out; rw [hz'] at this; cases this; exact hf
        · exact HS.out j z' (by omega) hz'
      have HY : Hid (matchC hi lo c = true → true = q) := fun ht => by
        rw [← HQ.out]
        exact (List.any_eq_true.2 ⟨c, List.mem_of_getElem? HZ.out, ht⟩).symm
      clear hcz HS HZ
      generalize ((c / 65536 : Nat) : Int) = a at *
      generalize ((c % 65536 : Nat) : Int) = d at *
      by_cases g1 : hi = -1
      · have e1 : (hi == -1) = true := by simpa using g1
        by_cases l1 : lo = -1
        · have e3 : (lo == -1) = true := by simpa using l1
          have HT := Lib.hid (HY.out (by rw [HM.out]; unfold fitB; simp [g1, l1]))
          clear HM HN HY g1 l1
          go_wp2
          go_ret
          exact ⟨ret_b HT.out, HB.out⟩
        · have e3 : (lo == -1) = false := by simpa using l1
          by_cases l2 : lo = d
          · have e4 : (lo == d) = true := by simpa using l2
            have HT := Lib.hid (HY.out (by rw [HM.out]; unfold fitB; simp [g1, l2]))
            clear HM HN HY g1 l1 l2
            go_wp2
            go_ret
            exact ⟨ret_b HT.out, HB.out⟩
          · have e4 : (lo == d) = false := by simpa using l2
            have HT := Lib.hid (HN.out (by rw [HM.out]; unfold fitB; simp [g1, l1, l2]))
            clear HM HN HY g1 l1 l2
            go_wp2_with fail
            go_round
            case measure => simp [intOf]; omega
            case rel => exact ⟨k + 1, by omega, by go_num, ⟨_, rfl⟩, HT⟩
      · have e1 : (hi == -1) = false := by simpa using g1
        by_cases g2 : hi = a
        · have e2 : (hi == a) = true := by simpa using g2
          by_cases l1 : lo = -1
          · have e3 : (lo == -1) = true := by simpa using l1
            have HT := Lib.hid (HY.out (by rw [HM.out]; unfold fitB; simp [g2, l1]))
            clear HM HN HY g1 g2 l1
            go_wp2
            go_ret
            exact ⟨ret_b HT.out, HB.out⟩
          · have e3 : (lo == -1) = false := by simpa using l1
            by_cases l2 : lo = d
            · have e4 : (lo == d) = true := by simpa using l2
              have HT := Lib.hid (HY.out (by rw [HM.out]; unfold fitB; simp [g2, l2]))
              clear HM HN HY g1 g2 l1 l2
              go_wp2
              go_ret
              exact ⟨ret_b HT.out, HB.out⟩
            · have e4 : (lo == d) = false := by simpa using l2
              have HT := Lib.hid (HN.out (by rw [HM.out]; unfold fitB; simp [g2, l1, l2]))
              clear HM HN HY g1 g2 l1 l2
              go_wp2_with fail
              go_round
              case measure => simp [intOf]; omega
              case rel => exact ⟨k + 1, by omega, by go_num, ⟨_, rfl⟩, HT⟩
        · have e2 : (hi == a) = false := by simpa using g2
          have HT := Lib.hid (HN.out (by rw [HM.out]; unfold fitB; simp [g1, g2]))
          clear HM HN HY g1 g2
          go_wp2_with fail
          go_round
          case measure => simp [intOf]; omega
          case rel => exact ⟨k + 1, by omega, by go_num, ⟨_, rfl⟩, HT⟩
    · have k1 : decide ((k : Int) < (L : Int)) = false := decide_eq_false (by omega)
      have HT : Hid (false = q) := by
        unfold Hid; rw [← HQ.out]
        refine Eq.symm ?_
        unfold matchB
        rw [List.any_eq_false]
        intro x hm
        obtain ⟨j, hj⟩ := List.getElem?_of_mem hm
        rw [HS.out j x (by have := (List.getElem?_eq_some_iff.1 hj).1; have := HL.out; omega) hj]; simp
      clear HS
      go_wp2
      go_ret
      exact ⟨ret_b HT.out, HB.out⟩
end Go.Proofs.YtaniiennfogjaaaDoor
