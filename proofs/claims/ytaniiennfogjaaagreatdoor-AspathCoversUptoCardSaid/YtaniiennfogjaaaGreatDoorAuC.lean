/-
  The walk of the reference's Same.
-/
import Derived.Test.YtaniiennfogjaaaGreatDoorAuA
import Derived.BigQuiet
namespace Go.Proofs.YtaniiennfogjaaaGreatDoor
open Go.RowKit P
set_option linter.unusedSimpArgs false
set_option linter.unusedVariables false
set_option maxHeartbeats 1500000
set_option maxRecDepth 100000
theorem rsame_any (a b : List Sg) (v u : Value) (w : World) (hv : RdS w v a) (hu : RdS w u b) :
    Calls Tryz.prog 23 #[v, u] w fun e w' => e = .returned (.bool (decide (a = b))) ∧ Below w.heap.size w w' := by
  obtain ⟨va, vc, rfl, v1, v2, hvc⟩ := hv
  obtain ⟨ua, uc, rfl, u1, u2, huc⟩ := hu
  obtain ⟨M, hM⟩ : ∃ M, a.length = M := ⟨_, rfl⟩
  obtain ⟨N, hN⟩ : ∃ N, b.length = N := ⟨_, rfl⟩
  rw [hM] at v1 ⊢
  rw [hN] at u1 ⊢
  have HM := Lib.hid hM
  have HN := Lib.hid hN
  have HVC := Lib.hid hvc
  have HUC := Lib.hid huc
  have hLm : M ≤ 9223372036854775807 := by have := v2.1; omega
  have HA0 : Hid (∀ j, j < 0 → a[j]? = b[j]?) := fun j h => by omega
  have HS0 : Hid (Below w.heap.size w w) := Below.refl _ _
  clear v1 v2 u1 u2 hvc huc hM hN
  by_cases hmn : M = N
  · subst hmn
    go_enter Tryz.func23, Tryz.ntmps23
    go_wp2_with fail
    go_loopg [5, 6, 14] (M + 1) (fun g s5 s6 s14 wr => ∃ k : Nat, k ≤ M ∧ M + 1 - k ≤ g ∧ s14 = .int .i64 (k : Int) ∧ (∃ q, q = s5) ∧ (∃ q, q = s6) ∧ Hid (∀ j, j < k → a[j]? = b[j]?) ∧ Hid (Below w.heap.size w wr))
    case atStart => exact ⟨0, by omega, by omega, rfl, ⟨_, rfl⟩, ⟨_, rfl⟩, HA0, HS0⟩
    case round =>
      clear HA0 HS0
      obtain ⟨k, hk, hkg, rfl, ⟨u5, rfl⟩, ⟨u6, rfl⟩, HA, HS⟩ := hrel
      by_cases hlt : k < M
      · obtain ⟨s, hs⟩ : ∃ s, a[k]? = some s := ⟨_, List.getElem?_eq_getElem (by have := HM.out; omega)⟩
        obtain ⟨t, ht⟩ : ∃ t, b[k]? = some t := ⟨_, List.getElem?_eq_getElem (by have := HN.out; omega)⟩
        have HXY := Lib.hid (And.intro hs ht)
        obtain ⟨p1, o1, x1, rfl, q1, c1, c1', r1⟩ := HVC.out k s hs
        obtain ⟨p2, o2, x2, rfl, q2, c2, c2', r2⟩ := HUC.out k t ht
        have d1 := carry HS.out c1
        have d1' := carry HS.out c1'
        have d2 := carry HS.out c2
        have d2' := carry HS.out c2'
        have R1 : Hid (RdI wr x1 s.as) := r1.below HS.out
        have R2 : Hid (RdI wr x2 t.as) := r2.below HS.out
        obtain ⟨a1, z1, f1, l1, m1, cc1⟩ := R1.out
        obtain ⟨a2, z2, f2, l2, m2, cc2⟩ := R2.out
        have k0 : (0 : Int) ≤ (k : Int) := by omega
        have k1 : decide ((k : Int) < (M : Int)) = true := decide_eq_true (by omega)
        have k2 : (k : Int) < (M : Int) := by omega
        subst f1 f2
        obtain ⟨L1, hL1⟩ : ∃ L, s.as.length = L := ⟨_, rfl⟩
        obtain ⟨L2, hL2⟩ : ∃ L, t.as.length = L := ⟨_, rfl⟩
        rw [hL1] at d1' l1 R1
        rw [hL2] at d2' l2 R2
        have hz1 : L1 ≤ 9223372036854775807 := by have := m1.1; omega
        have HL1 := Lib.hid hL1
        have HL2 := Lib.hid hL2
        have HCC1 := Lib.hid cc1
        have HCC2 := Lib.hid cc2
        clear hs ht c1 c2 c1' c2' r1 r2 cc1 cc2 R1 R2 l1 l2 m1 m2 hL1 hL2
        have HF : Hid (s ≠ t → decide (a = b) = false) := fun hxy => by
          refine decide_eq_false fun e => hxy ?_
          have h1 := HXY.out.1; have h2 := HXY.out.2
          rw [e, h2] at h1; cases h1; rfl
        by_cases hkk : s.k = t.k
        · have e1 : (s.k != t.k) = false := by simpa using hkk
          by_cases hll : L1 = L2
          · subst hll
            have HKK := Lib.hid hkk
            have HB0 : Hid (∀ j, j < 0 → s.as[j]? = t.as[j]?) := fun j h => by omega
            have HW0 : Hid (Below wr.heap.size wr wr) := Below.refl _ _
            clear hkk
            go_wp2_with fail
            go_quiet (fail)
            go_wp2_with fail
            go_loopg [6, 49] (L1 + 1) (fun g2 s6 s49 w2 => ∃ i : Nat, i ≤ L1 ∧ L1 + 1 - i ≤ g2 ∧ s49 = .int .i64 (i : Int) ∧ (∃ q, q = s6) ∧ Hid (∀ j, j < i → s.as[j]? = t.as[j]?) ∧ Hid (Below wr.heap.size wr w2))
            case atStart => exact ⟨0, by omega, by omega, rfl, ⟨_, rfl⟩, HB0, below_drewN HW0.out _⟩
            case round =>
              clear HB0 HW0
              obtain ⟨i, hi, hig, rfl, ⟨u6, rfl⟩, HI, HW⟩ := hrel
              have d1 := carry HW.out d1
              have d1' := carry HW.out d1'
              have d2 := carry HW.out d2
              have d2' := carry HW.out d2'
              by_cases hil : i < L1
              · obtain ⟨x, hx⟩ : ∃ x, s.as[i]? = some x := ⟨_, List.getElem?_eq_getElem (by have := HL1.out; omega)⟩
                obtain ⟨y, hy⟩ : ∃ y, t.as[i]? = some y := ⟨_, List.getElem?_eq_getElem (by have := HL2.out; omega)⟩
                have HXY2 := Lib.hid (And.intro hx hy)
                obtain ⟨p3, o3, rfl, q3, c3⟩ := HCC1.out i x hx
                obtain ⟨p4, o4, rfl, q4, c4⟩ := HCC2.out i y hy
                have d3 := carry HW.out c3
                have d4 := carry HW.out c4
                have i0 : (0 : Int) ≤ (i : Int) := by omega
                have i1 : decide ((i : Int) < (L1 : Int)) = true := decide_eq_true (by omega)
                have i2 : (i : Int) < (L1 : Int) := by omega
                clear hx hy c3 c4
                by_cases hxy : x = y
                · have e2 : (x == y) = true := by simpa using hxy
                  have HI2 : Hid (∀ j, j < i + 1 → s.as[j]? = t.as[j]?) := fun j hj => by
                    by_cases e : j = i
                    · subst e; rw [HXY2.out.1, HXY2.out.2, hxy]
                    · exact HI.out j (by omega)
                  clear HI HXY2 hxy
                  go_wp2_with fail
                  go_quiet (fail)
                  go_wp2_with fail
                  go_roundg (L1 + 1 - (i + 1))
                  case measure => omega
                  case rel => exact ⟨i + 1, by omega, Nat.le_refl _, by go_num, ⟨_, rfl⟩, HI2, below_drewN HW.out _⟩
                · have e2 : (x == y) = false := by simpa using hxy
                  have HZ : Hid (decide (a = b) = false) := HF.out fun e => hxy (by
                    have h1 := HXY2.out.1; have h2 := HXY2.out.2
                    rw [e, h2] at h1; cases h1; rfl)
                  have HB1 := Lib.hid (below_then HS.out HW.out)
                  clear HI HXY2 hxy
                  go_wp2_with fail
                  go_quiet (fail)
                  go_wp2
                  go_ret
                  exact ⟨by rw [HZ.out] <;> rfl, below_drewN HB1.out _⟩
              · have i1 : decide ((i : Int) < (L1 : Int)) = false := decide_eq_false (by omega)
                have HST : Hid (s = t) := by
                  have e := eq_upto (a := s.as) (b := t.as) (by rw [HL1.out, HL2.out]) (fun j hj => HI.out j (by have := HL1.out; omega))
                  obtain ⟨sk, sa⟩ := s
                  obtain ⟨tk, ta⟩ := t
                  have h1 := HKK.out
                  simp only at e h1
                  subst e h1
                  rfl
                have HA2 : Hid (∀ j, j < k + 1 → a[j]? = b[j]?) := fun j hj => by
                  by_cases e : j = k
                  · subst e; rw [HXY.out.1, HXY.out.2, HST.out]
                  · exact HA.out j (by omega)
                have HB1 := Lib.hid (below_then HS.out HW.out)
                clear HA HXY HST HI HF
                go_wp2_with fail
                go_roundg (M + 1 - (k + 1))
                case measure => omega
                case rel => exact ⟨k + 1, by omega, Nat.le_refl _, by go_num, ⟨_, rfl⟩, ⟨_, rfl⟩, HA2, HB1⟩
          · have HZ := Lib.hid (HF.out fun e => hll (by rw [← HL1.out, ← HL2.out, e]))
            have e2 : ((L1 : Int) != (L2 : Int)) = true := by simpa using (by omega : ¬ (L1 : Int) = (L2 : Int))
            clear HA HXY hkk HF
            go_wp2_with fail
            go_quiet (fail)
            go_wp2
            go_ret
            exact ⟨by rw [HZ.out] <;> rfl, below_drewN HS.out _⟩
        · have e1 : (s.k != t.k) = true := by simpa using hkk
          have HZ := Lib.hid (HF.out fun e => hkk (by rw [e]))
          clear HA HXY hkk HF
          go_wp2_with fail
          go_quiet (fail)
          go_wp2
          go_ret
          exact ⟨by rw [HZ.out] <;> rfl, below_drewN HS.out _⟩
      · have k1 : decide ((k : Int) < (M : Int)) = false := decide_eq_false (by omega)
        have HZ : Hid (decide (a = b) = true) := decide_eq_true (eq_upto (by rw [HM.out, HN.out]) (fun j hj => HA.out j (by have := HM.out; omega)))
        go_wp2
        go_ret
        exact ⟨by rw [HZ.out] <;> rfl, HS.out⟩
  · have HZ : Hid (decide (a = b) = false) := decide_eq_false fun e => hmn (by rw [← HM.out, ← HN.out, e])
    have k1 : ((M : Int) == (N : Int)) = false := by simpa using (by omega : ¬ (M : Int) = (N : Int))
    go_enter Tryz.func23, Tryz.ntmps23
    go_wp2
    go_ret
    exact ⟨by rw [HZ.out] <;> rfl, HS0.out⟩
end Go.Proofs.YtaniiennfogjaaaGreatDoor
