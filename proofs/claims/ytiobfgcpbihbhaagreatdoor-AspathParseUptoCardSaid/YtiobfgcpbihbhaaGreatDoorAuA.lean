/-
  slices.Equal at numbers; segments equal.
-/
import Derived.Test.YtiobfgcpbihbhaaGreatDoorAsJ
import Derived.BigQuiet
namespace Go.Proofs.YtiobfgcpbihbhaaGreatDoor
open Go.RowKit P
set_option linter.unusedSimpArgs false
set_option linter.unusedVariables false
set_option maxHeartbeats 1500000
set_option maxRecDepth 100000
theorem P.eq_upto {α : Type} {a b : List α} (hl : a.length = b.length) (h : ∀ j, j < a.length → a[j]? = b[j]?) : a = b := by
  apply List.ext_getElem? ; intro j
  by_cases hj : j < a.length
  · exact h j hj
  · rw [List.getElem?_eq_none (by omega), List.getElem?_eq_none (by omega)]
theorem equal_any (a b : List Int) (v u : Value) (w : World) (hv : RdI w v a) (hu : RdI w u b) :
    Calls Tryz.prog 74 #[v, u] w fun e w' => e = .returned (.bool (decide (a = b))) ∧ Below w.heap.size w w' := by
  obtain ⟨va, vc, rfl, v1, v2, hvc⟩ := hv
  obtain ⟨ua, uc, rfl, u1, u2, huc⟩ := hu
  obtain ⟨M, hM⟩ : ∃ M, a.length = M := ⟨_, rfl⟩
  obtain ⟨N, hN⟩ : ∃ N, b.length = N := ⟨_, rfl⟩
  rw [hM] at v1 ⊢
  rw [hN] at u1 ⊢
  have HM := Lib.hid hM
  have HN := Lib.hid hN
  have HVC := Lib.hid hvc
  have HUC := Lib.hid huc
  have hLm : M ≤ 9223372036854775807 := by have := v2.1; omega
  have HA0 : Hid (∀ j, j < 0 → a[j]? = b[j]?) := fun j h => by omega
  have HS0 : Hid (Below w.heap.size w w) := Below.refl _ _
  clear v1 v2 u1 u2 hvc huc hM hN
  by_cases hmn : M = N
  · subst hmn
    go_enter Tryz.func74, Tryz.ntmps74
    go_wp2_with fail
    go_loopg [5, 13] (M + 1) (fun g s5 s13 wr => ∃ k : Nat, k ≤ M ∧ M + 1 - k ≤ g ∧ s13 = .int .i64 (k : Int) ∧ (∃ q, q = s5) ∧ Hid (∀ j, j < k → a[j]? = b[j]?) ∧ Hid (Below w.heap.size w wr))
    case atStart => exact ⟨0, by omega, by omega, rfl, ⟨_, rfl⟩, HA0, HS0⟩
    case round =>
      clear HA0 HS0
      obtain ⟨k, hk, hkg, rfl, ⟨u5, rfl⟩, HA, HS⟩ := hrel
      by_cases hlt : k < M
      · obtain ⟨x, hx⟩ : ∃ x, a[k]? = some x := ⟨_, List.getElem?_eq_getElem (by have := HM.out; omega)⟩
        obtain ⟨y, hy⟩ : ∃ y, b[k]? = some y := ⟨_, List.getElem?_eq_getElem (by have := HN.out; omega)⟩
        have HXY := Lib.hid (And.intro hx hy)
        obtain ⟨p1, o1, rfl, q1, c1⟩ := HVC.out k x hx
        obtain ⟨p2, o2, rfl, q2, c2⟩ := HUC.out k y hy
        have d1 := carry HS.out c1
        have d2 := carry HS.out c2
        have k0 : (0 : Int) ≤ (k : Int) := by omega
        have k1 : decide ((k : Int) < (M : Int)) = true := decide_eq_true (by omega)
        have k2 : (k : Int) < (M : Int) := by omega
        clear hx hy c1 c2
        by_cases hxy : x = y
        · have e1 : (x == y) = true := by simpa using hxy
          have HA2 : Hid (∀ j, j < k + 1 → a[j]? = b[j]?) := fun j hj => by
            by_cases e : j = k
            · subst e; rw [HXY.out.1, HXY.out.2, hxy]
            · exact HA.out j (by omega)
          clear HA HXY hxy
          go_wp2_with fail
          go_quiet (fail)
          go_wp2_with fail
          go_roundg (M + 1 - (k + 1))
          case measure => omega
          case rel => exact ⟨k + 1, by omega, Nat.le_refl _, by go_num, ⟨_, rfl⟩, HA2, below_drewN HS.out _⟩
        · have e1 : (x == y) = false := by simpa using hxy
          have HZ : Hid (decide (a = b) = false) := by
            refine decide_eq_false fun e => hxy ?_
            have h1 := HXY.out.1; have h2 := HXY.out.2
            rw [e, h2] at h1; cases h1; rfl
          clear HA HXY hxy
          go_wp2_with fail
          go_quiet (fail)
          go_wp2
          go_ret
          exact ⟨by rw [HZ.out] <;> rfl, below_drewN HS.out _⟩
      · have k1 : decide ((k : Int) < (M : Int)) = false := decide_eq_false (by omega)
        have HZ : Hid (decide (a = b) = true) := decide_eq_true (eq_upto (by rw [HM.out, HN.out]) (fun j hj => HA.out j (by have := HM.out; omega)))
        go_wp2
        go_ret
        exact ⟨by rw [HZ.out] <;> rfl, HS.out⟩
  · have HZ : Hid (decide (a = b) = false) := decide_eq_false fun e => hmn (by rw [← HM.out, ← HN.out, e])
    have k1 : ((M : Int) == (N : Int)) = false := by simpa using (by omega : ¬ (M : Int) = (N : Int))
    go_enter Tryz.func74, Tryz.ntmps74
    go_wp2
    go_ret
    exact ⟨by rw [HZ.out] <;> rfl, HS0.out⟩
theorem sameSeg_any (k : Int) (ns : List Int) (u : Value) (k2 : Int) (ms : List Int) (u2 : Value) (w : World) (hu : RdI w u ns) (hu2 : RdI w u2 ms) :
    Calls Tryz.prog 73 #[.agg #[.int .i64 k, u], .agg #[.int .i64 k2, u2]] w fun e w' => e = .returned (.bool (decide ((⟨k, ns⟩ : Sg) = ⟨k2, ms⟩))) ∧ Below w.heap.size w w' := by
  have HM : Hid (decide ((⟨k, ns⟩ : Sg) = ⟨k2, ms⟩) = (decide (k = k2) && decide (ns = ms))) := by
    show _ = _; rw [← Bool.decide_and]; simp
  generalize decide ((⟨k, ns⟩ : Sg) = ⟨k2, ms⟩) = q at *
  have HU := Lib.hid hu
  have HU2 := Lib.hid hu2
  obtain ⟨ad, cap, rfl⟩ := hu.form
  obtain ⟨ad2, cap2, rfl⟩ := hu2.form
  have HB0 : Hid (Below w.heap.size w ((w.alloc (.cells #[.int .i64 k, .slice ad ns.length cap] 46)).alloc (.cells #[.int .i64 k2, .slice ad2 ms.length cap2] 46))) := below_then (below_alloc _ _) (below_alloc _ _)
  have HE := Lib.hid (equal_any ns ms _ _ _ (HU.out.below HB0.out) (HU2.out.below HB0.out))
  generalize ns.length = L at *
  generalize ms.length = L2 at *
  clear hu hu2 HU HU2
  by_cases hk : k = k2
  · have HM2 : Hid (q = decide (ns = ms)) := by show _ = _; rw [HM.out, decide_eq_true hk, Bool.true_and]
    generalize decide (ns = ms) = r at *
    have e1 : (k == k2) = true := by simpa using hk
    clear HM hk
    go_enter Tryz.func73, Tryz.ntmps73
    go_wp2_with fail
    go_at_call 74
    refine HE.out.mono ?_
    rintro e w1 ⟨rfl, hb⟩
    have HB1 := Lib.hid (below_then HB0.out hb)
    clear hb HE
    go_wp2
    go_ret
    exact ⟨by rw [HM2.out] <;> rfl, HB1.out⟩
  · have HM2 : Hid (q = false) := by show _ = _; rw [HM.out, decide_eq_false hk, Bool.false_and]
    have e1 : (k == k2) = false := by simpa using hk
    clear HM hk HE
    go_enter Tryz.func73, Tryz.ntmps73
    go_wp2
    go_ret
    exact ⟨by rw [HM2.out] <;> rfl, HB0.out⟩
end Go.Proofs.YtiobfgcpbihbhaaGreatDoor
