/-
  The walk of common.
-/
import Derived.Test.YtiobfgcpbihbhaaGreatDoorAsL
import Derived.BigQuiet
namespace Go.Proofs.YtiobfgcpbihbhaaGreatDoor
open Go.RowKit P
set_option linter.unusedSimpArgs false
set_option linter.unusedVariables false
set_option maxHeartbeats 4000000
set_option maxRecDepth 100000
/-- the longest list with which both begin -/
def P.cpre : List Int → List Int → List Int
  | x :: a, y :: b => if x = y then x :: cpre a b else []
  | _, _ => []
theorem P.cpre_take : ∀ {a b : List Int} {k : Nat}, (∀ j, j < k → ∃ x, a[j]? = some x ∧ b[j]? = some x) → (∀ x y, a[k]? = some x → b[k]? = some y → x ≠ y) → cpre a b = a.take k
  | [], b, k, _, _ => by cases b <;> simp [cpre]
  | x :: a, [], k, h, _ => by
    cases k with
    | zero => simp [cpre]
    | succ k => obtain ⟨_, _, h2⟩ := h 0 (by omega); simp at h2
  | x :: a, y :: b, 0, _, h2 => by
    have := h2 x y rfl rfl
    simp [cpre, this]
  | x :: a, y :: b, k + 1, h, h2 => by
    obtain ⟨z, e1, e2⟩ := h 0 (by omega)
    simp at e1 e2
    subst e1 e2
    rw [cpre, if_pos rfl, @cpre_take a b k (fun j hj => by obtain ⟨z, a1, a2⟩ := h (j + 1) (by omega); exact ⟨z, by simpa using a1, by simpa using a2⟩) (fun x y hx hy => h2 x y (by simpa using hx) (by simpa using hy))]
    rfl
theorem RdI.take {w : World} {ad : Option Addr} {n cap : Nat} {l : List Int} (h : RdI w (.slice ad n cap) l) (k : Nat) (hk : k ≤ l.length) : RdI w (.slice ad k cap) (l.take k) := by
  obtain ⟨ad', cap', e, h1, h2, hc⟩ := h
  injection e with e1 e2 e3
  subst e1 e3
  have el : (l.take k).length = k := by rw [List.length_take]; omega
  refine ⟨_, _, by rw [el], by rw [el]; omega, h2, fun j x hj => ?_⟩
  rw [List.getElem?_take] at hj
  split at hj
  · exact hc j x hj
  · cases hj
theorem common_any (a b : List Int) (v u : Value) (w : World) (hv : RdI w v a) (hu : RdI w u b) (ha : a.length ≤ 2000000) (hb : b.length ≤ 2000000) :
    Calls Tryz.prog 67 #[v, u] w fun e w' => ∃ v', e = .returned v' ∧ RdI w' v' (cpre a b) ∧ Below w.heap.size w w' := by
  have HV := Lib.hid hv
  obtain ⟨va, vc, rfl, v1, v2, hvc⟩ := hv
  obtain ⟨ua, uc, rfl, u1, u2, huc⟩ := hu
  obtain ⟨M, hM⟩ : ∃ M, a.length = M := ⟨_, rfl⟩
  obtain ⟨N, hN⟩ : ∃ N, b.length = N := ⟨_, rfl⟩
  rw [hM] at v1 ha HV ⊢
  rw [hN] at u1 hb ⊢
  have HM := Lib.hid hM
  have HN := Lib.hid hN
  have HVC := Lib.hid hvc
  have HUC := Lib.hid huc
  obtain ⟨D, hD⟩ : ∃ D, D = min M N := ⟨_, rfl⟩
  have hD1 : D ≤ M := by omega
  have hD2 : D ≤ N := by omega
  have hmi2 : (if (N : Int) < (M : Int) then (N : Int) else (M : Int)) = (D : Int) := by split <;> omega
  have hmi3 : (if N < M then (N : Int) else (M : Int)) = (D : Int) := by split <;> omega
  have hmi : min (M : Int) (N : Int) = (D : Int) := by omega
  have HDM : Hid (D = M ∨ D = N) := by show _ ∨ _; omega
  have hcap := v2.1
  have HR : Hid (∀ W k, Below w.heap.size w W → k ≤ M → cpre a b = a.take k → RdI W (.slice va k vc) (cpre a b)) := fun W k hW hk e => by rw [e]; exact (HV.out.below hW).take k (by rw [HM.out]; exact hk)
  have HA0 : Hid (∀ j, j < 0 → ∃ x, a[j]? = some x ∧ b[j]? = some x) := fun j h => by omega
  have HS0 : Hid (Below w.heap.size w w) := Below.refl _ _
  clear hD hvc huc hM hN HV
  go_enter Tryz.func67, Tryz.ntmps67
  go_wp2_with fail
  go_loopg [5] (D + 1) (fun g s5 wr => ∃ k : Nat, k ≤ D ∧ D + 1 - k ≤ g ∧ s5 = .int .i64 (k : Int) ∧ Hid (∀ j, j < k → ∃ x, a[j]? = some x ∧ b[j]? = some x) ∧ Hid (Below w.heap.size w wr))
  case atStart => exact ⟨0, by omega, by omega, rfl, HA0, HS0⟩
  case round =>
    clear HA0 HS0
    obtain ⟨k, hk, hkg, rfl, HA, HS⟩ := hrel
    have j0 : (0 : Int) ≤ (k : Int) := by omega
    have j3 : (k : Int) ≤ (vc : Int) := by omega
    have j4 : (k : Int) ≤ (M : Int) := by omega
    by_cases hlt : k < D
    · obtain ⟨x, hx⟩ : ∃ x, a[k]? = some x := ⟨_, List.getElem?_eq_getElem (by have := HM.out; omega)⟩
      obtain ⟨y, hy⟩ : ∃ y, b[k]? = some y := ⟨_, List.getElem?_eq_getElem (by have := HN.out; omega)⟩
      have HXY := Lib.hid (And.intro hx hy)
      obtain ⟨p1, o1, rfl, q1, c1⟩ := HVC.out k x hx
      obtain ⟨p2, o2, rfl, q2, c2⟩ := HUC.out k y hy
      have d1 := carry HS.out c1
      have d2 := carry HS.out c2
      have k1 : decide ((k : Int) < (D : Int)) = true := decide_eq_true (by omega)
      have k2 : (k : Int) < (M : Int) := by omega
      have k3 : (k : Int) < (N : Int) := by omega
      have k4 : (k : Int) < (D : Int) := by omega
      clear hx hy c1 c2
      by_cases hxy : x = y
      · have e1 : (x == y) = true := by simpa using hxy
        have HA2 : Hid (∀ j, j < k + 1 → ∃ x, a[j]? = some x ∧ b[j]? = some x) := fun j hj => by
          by_cases e : j = k
          · subst e; exact ⟨x, HXY.out.1, by rw [hxy]; exact HXY.out.2⟩
          · exact HA.out j (by omega)
        clear HA HXY hxy
        go_wp2_with fail
        go_quiet (fail)
        go_wp2_with fail
        go_roundg (D + 1 - (k + 1))
        case measure => omega
        case rel => exact ⟨k + 1, by omega, Nat.le_refl _, by go_num, HA2, below_drewN HS.out _⟩
      · have e1 : (x == y) = false := by simpa using hxy
        have HZ : Hid (cpre a b = a.take k) := cpre_take HA.out (fun x' y' hx' hy' => by
          have h1 := HXY.out.1; have h2 := HXY.out.2
          rw [hx'] at h1; rw [hy'] at h2
          cases h1; cases h2; exact hxy)
        clear HA HXY hxy
        go_wp2_with fail
        go_quiet (fail)
        go_wp2
        go_ret
        exact ⟨_, rfl, HR.out _ k (below_drewN HS.out _) (by omega) HZ.out, below_drewN HS.out _⟩
    · have hkD : k = D := by omega
      subst hkD
      have k1 : decide ((k : Int) < (k : Int)) = false := decide_eq_false (by omega)
      have HZ : Hid (cpre a b = a.take k) := cpre_take HA.out (fun x' y' hx' hy' => by
        have h1 := (List.getElem?_eq_some_iff.1 hx').1; have h2 := (List.getElem?_eq_some_iff.1 hy').1
        have := HM.out; have := HN.out; have := HDM.out; omega)
      clear HA
      go_wp2_with fail
      go_quiet (fail)
      go_wp2
      go_ret
      exact ⟨_, rfl, HR.out _ k (below_drewN HS.out _) (by omega) HZ.out, below_drewN HS.out _⟩
end Go.Proofs.YtiobfgcpbihbhaaGreatDoor
