/-
  The walk of the reference's Trim.
-/
import Derived.Test.YtiiojkekcnmddaaDoorPlQ
import Derived.Test.YtiiojkekcnmddaaDoorLwF
import Derived.BigQuiet
namespace Go.Proofs.YtiiojkekcnmddaaDoor
open Go.RowKit
set_option linter.unusedSimpArgs false
set_option linter.unusedVariables false
set_option maxHeartbeats 2000000
set_option maxRecDepth 100000

theorem trimF_yes {prev rs : List Ru} {r : Ru} (h : keepF prev r = true) : trimF prev (r :: rs) = r :: trimF (prev ++ [r]) rs := by rw [trimF, h]; rfl
theorem trimF_no {prev rs : List Ru} {r : Ru} (h : keepF prev r = false) : trimF prev (r :: rs) = trimF (prev ++ [r]) rs := by rw [trimF, h]; rfl
theorem rtrim_any (rs : List Ru) (v : Value) (w : World) (hv : RdU w v rs) (hl : rs.length ≤ 100000) :
    Calls Tryd.prog 22 #[v] w fun e w' => ∃ v', e = .returned v' ∧ OwnU w.heap.size w' v' (trimR rs) ∧ Below w.heap.size w w' := by
  obtain ⟨ad, cap, rfl, ⟨h1, h1'⟩, hok, hc⟩ := hv
  have HC := Lib.hid hc
  have HOK := Lib.hid hok
  obtain ⟨L, hL⟩ : ∃ L, rs.length = L := ⟨_, rfl⟩
  rw [hL] at h1 hl ⊢
  have HL := Lib.hid hL
  obtain ⟨Z, hZ⟩ : ∃ Z, trimR rs = Z := ⟨_, rfl⟩
  rw [hZ]
  have HZ0 : Hid (([] : List Ru) ++ trimF (rs.take 0) (rs.drop 0) = Z) := by unfold Hid; rw [List.drop_zero, List.take_zero, List.nil_append, ← trimR_F]; exact hZ
  have HO0 : Hid (OwnU w.heap.size w (.slice none 0 0) []) := OwnU.nil _ _ (Nat.le_refl _)
  have HB0 := Lib.hid (Below.refl w.heap.size w)
  clear hc hL hok hZ
  go_enter Tryd.func22, Tryd.ntmps22
  go_wp2_with fail
  go_loopg [3, 4, 5, 6, 8, 11] L (fun g s3 s4 s5 s6 s8 s11 wr => ∃ (k : Nat) (u : Value) (out : List Ru), k ≤ L ∧ L - k ≤ g ∧ out.length ≤ k ∧ s11 = .int .i64 (k : Int) ∧ u = s3 ∧ (∃ q, q = s4) ∧ (∃ q, q = s5) ∧ (∃ q, q = s6) ∧ (∃ q, q = s8) ∧ Hid (OwnU w.heap.size wr u out) ∧ Hid (out ++ trimF (rs.take k) (rs.drop k) = Z) ∧ Hid (Below w.heap.size w wr))
  case atStart => exact ⟨0, _, [], by omega, by omega, Nat.le_refl _, rfl, rfl, ⟨_, rfl⟩, ⟨_, rfl⟩, ⟨_, rfl⟩, ⟨_, rfl⟩, HO0, HZ0, HB0⟩
  case round =>
    clear HZ0 HO0 HB0
    obtain ⟨k, u, out, hk, hkg, hol, rfl, rfl, ⟨u4, rfl⟩, ⟨u5, rfl⟩, ⟨u6, rfl⟩, ⟨u8, rfl⟩, HO, HZ, HW⟩ := hrel
    by_cases hlt : k < L
    · obtain ⟨z, hz⟩ : ∃ z, rs[k]? = some z := ⟨_, List.getElem?_eq_getElem (by rw [HL.out]; exact hlt)⟩
      obtain ⟨b, off, rfl, hb, e0, e1, e2, e3, e4⟩ := HC.out k z hz
      have c0 := carry HW.out e0
      have c1 := carry HW.out e1
      have c2 := carry HW.out e2
      have c3 := carry HW.out e3
      have c4 := carry HW.out e4
      have hzok := HOK.out z (List.mem_of_getElem? hz)
      have HD : Hid (rs.drop k = z :: rs.drop (k + 1) ∧ rs.take (k + 1) = rs.take k ++ [z]) := by
        obtain ⟨hkk, hze⟩ := List.getElem?_eq_some_iff.1 hz
        refine ⟨?_, ?_⟩
        · rw [List.drop_eq_getElem_cons hkk, hze]
        · rw [List.take_succ_eq_append_getElem hkk, hze]
      have HB1 : Hid (Below w.heap.size w (wr.alloc (ruC z))) := below_then HW.out (below_alloc _ _)
      have HO1 : Hid (OwnU w.heap.size (wr.alloc (ruC z)) u out) := HO.out.below (below_alloc _ _)
      have HF1 : Hid (Five (wr.alloc (ruC z)) wr.heap.size (.bool z.1) (.int .u32 (z.2.1.1 : Int)) (.int .i64 z.2.1.2) (.int .i64 z.2.2.1) (.int .i64 z.2.2.2)) := heap_alloc_new _ _
      have HK := Lib.hid (rcheck_any z hzok (wr.alloc (ruC z)))
      have HV : Hid (∀ q, RuOk q → ∀ W, Calls Tryd.prog 40 #[ruV q, ruV z] W fun e w' => e = .returned (.bool (covR q z)) ∧ Below W.heap.size W w') := fun q hq W => rcoversR_any q z hq hzok W
      have HZOK := Lib.hid hzok
      have HKF : Hid (keepF (rs.take k) z = ((chkR z == 0) && !((rs.take k).any (fun q => (chkR q == 0) && covR q z)))) := rfl
      have HKA : Hid (∀ j q, rs[j]? = some q → ((rs.take (j + 1)).any (fun q => (chkR q == 0) && covR q z)) = ((rs.take j).any (fun q => (chkR q == 0) && covR q z) || ((chkR q == 0) && covR q z))) := fun j q h => any_take h
      have HA0 : Hid ((rs.take 0).any (fun q => (chkR q == 0) && covR q z) = false) := by unfold Hid; simp
      have k0 : (0 : Int) ≤ (k : Int) := by omega
      have k1 : (k : Int) < (L : Int) := by omega
      have k2 : (k : Int) ≤ (cap : Int) := by omega
      obtain ⟨c, hcz⟩ : ∃ c, chkR z = c := ⟨_, rfl⟩
      rw [hcz] at HK HKF
      obtain ⟨cb, hcb⟩ : ∃ cb, (c == 0) = cb := ⟨_, rfl⟩
      rw [hcb] at HKF
      obtain ⟨pm, ⟨a, n⟩, mn, mx⟩ := z
      dsimp only at *
      clear hz e0 e1 e2 e3 e4 hb hzok HO HW hcz
      go_wp2_with fail
      go_at_call 11
      refine HK.out.mono ?_
      rintro e w1 ⟨rfl, hw1⟩
      have HB2 := Lib.hid (below_then HB1.out hw1)
      have HO2 := Lib.hid (HO1.out.below hw1)
      have HF2 := Lib.hid (HF1.out.below hw1)
      clear hw1 HB1 HO1 HF1 c0 c1 c2 c3 c4
      have hcb2 : (cb && !false) = cb := by simp
      go_wp2_with fail
      generalize hrb : wr.heap.size = rb at *
      go_loopg [6, 8, 23] k (fun g s6 s8 s23 wr => ∃ (j : Nat) (y : Bool), j ≤ k ∧ k - j ≤ g ∧ s23 = .int .i64 (j : Int) ∧ s6 = .bool (cb && !y) ∧ (∃ q, q = s8) ∧ Hid ((rs.take j).any (fun q => (chkR q == 0) && covR q (pm, (a, n), mn, mx)) = y) ∧ Hid (OwnU w.heap.size wr u out) ∧ Hid (Five wr rb (.bool pm) (.int .u32 (a : Int)) (.int .i64 n) (.int .i64 mn) (.int .i64 mx)) ∧ Hid (Below w.heap.size w wr))
      case atStart => exact ⟨0, false, by omega, by omega, rfl, by simp [hcb], ⟨_, rfl⟩, HA0, HO2, HF2, HB2⟩
      case round =>
        clear HA0 HO2 HF2 HB2
        obtain ⟨j, y, hj, hjg, rfl, rfl, ⟨u8, rfl⟩, HA, HO, HF, HW⟩ := hrel
        by_cases hjk : j < k
        · obtain ⟨x, hx⟩ : ∃ x, rs[j]? = some x := ⟨_, List.getElem?_eq_getElem (by rw [HL.out]; omega)⟩
          obtain ⟨b', off', e5, hb, e0, e1, e2, e3, e4⟩ := HC.out j x hx
          cases e5
          have c0 := carry HW.out e0
          have c1 := carry HW.out e1
          have c2 := carry HW.out e2
          have c3 := carry HW.out e3
          have c4 := carry HW.out e4
          have hxok := HOK.out x (List.mem_of_getElem? hx)
          have HN : Hid ((rs.take (j + 1)).any (fun q => (chkR q == 0) && covR q (pm, (a, n), mn, mx)) = (y || ((chkR x == 0) && covR x (pm, (a, n), mn, mx)))) := by unfold Hid; rw [HKA.out j x hx, HA.out]
          have HB1 : Hid (Below w.heap.size w (wr.alloc (ruC x))) := below_then HW.out (below_alloc _ _)
          have HO1 : Hid (OwnU w.heap.size (wr.alloc (ruC x)) u out) := HO.out.below (below_alloc _ _)
          have HF1 := Lib.hid (HF.out.below (below_alloc _ (ruC x)))
          have HG1 : Hid (Five (wr.alloc (ruC x)) wr.heap.size (.bool x.1) (.int .u32 (x.2.1.1 : Int)) (.int .i64 x.2.1.2) (.int .i64 x.2.2.1) (.int .i64 x.2.2.2)) := heap_alloc_new _ _
          have HK1 := Lib.hid (rcheck_any x hxok (wr.alloc (ruC x)))
          have HV1 := Lib.hid (HV.out x hxok)
          have j0 : (0 : Int) ≤ (j : Int) := by omega
          have j1 : (j : Int) < (k : Int) := by omega
          have j2 : (j : Int) < (L : Int) := by omega
          obtain ⟨d, hd⟩ : ∃ d, chkR x = d := ⟨_, rfl⟩
          obtain ⟨cv, hcv⟩ : ∃ cv, covR x (pm, (a, n), mn, mx) = cv := ⟨_, rfl⟩
          rw [hd] at HK1 HN
          rw [hcv] at HV1 HN
          obtain ⟨qm, ⟨qa, qn⟩, kn, kx⟩ := x
          dsimp only at *
          clear hx e0 e1 e2 e3 e4 hb hxok HO HW HA HF hd hcv
          cases y with
          | true =>
            rw [Bool.true_or] at HN
            have tb : (cb && !true) = false := by simp
            rw [tb]
            go_wp2_with fail
            go_roundg (k - (j + 1))
            case measure => omega
            case rel => exact ⟨j + 1, true, by omega, Nat.le_refl _, by go_num, by simp, ⟨_, rfl⟩, HN, HO1, HF1, HB1⟩
          | false =>
            rw [Bool.false_or] at HN
            have tb : (cb && !false) = cb := by simp
            rw [tb]
            cases cb with
            | false =>
              go_wp2_with fail
              go_roundg (k - (j + 1))
              case measure => omega
              case rel => exact ⟨j + 1, _, by omega, Nat.le_refl _, by go_num, by simp, ⟨_, rfl⟩, HN, HO1, HF1, HB1⟩
            | true =>
              cases d0 : (d == 0) with
              | false =>
                rw [d0, Bool.false_and] at HN
                go_wp2_with fail
                go_at_call 11
                refine HK1.out.mono ?_
                rintro e w4 ⟨rfl, hw4⟩
                have HB2 := Lib.hid (below_then HB1.out hw4)
                have HO2 := Lib.hid (HO1.out.below hw4)
                have HF2 := Lib.hid (HF1.out.below hw4)
                clear hw4
                go_wp2_with fail
                go_roundg (k - (j + 1))
                case measure => omega
                case rel => exact ⟨j + 1, false, by omega, Nat.le_refl _, by go_num, by simp, ⟨_, rfl⟩, HN, HO2, HF2, HB2⟩
              | true =>
                rw [d0, Bool.true_and] at HN
                go_wp2_with fail
                go_at_call 11
                refine HK1.out.mono ?_
                rintro e w4 ⟨rfl, hw4⟩
                have HB2 := Lib.hid (below_then HB1.out hw4)
                have HO2 := Lib.hid (HO1.out.below hw4)
                have HF2 := Lib.hid (HF1.out.below hw4)
                have HG2 := Lib.hid (HG1.out.below hw4)
                obtain ⟨f0, f1, f2, f3, f4⟩ := HF2.out.cells
                obtain ⟨g0, g1, g2, g3, g4⟩ := HG2.out.cells
                clear hw4
                go_wp2_with fail
                go_at_call 40
                refine (HV1.out _).mono ?_
                rintro e w5 ⟨rfl, hw5⟩
                have HB3 := Lib.hid (below_then HB2.out hw5)
                have HO3 := Lib.hid (HO2.out.below hw5)
                have HF3 := Lib.hid (HF2.out.below hw5)
                clear hw5 f0 f1 f2 f3 f4 g0 g1 g2 g3 g4
                go_wp2_with fail
                go_roundg (k - (j + 1))
                case measure => omega
                case rel => exact ⟨j + 1, cv, by omega, Nat.le_refl _, by go_num, by simp, ⟨_, rfl⟩, HN, HO3, HF3, HB3⟩
        · have k9 : decide ((j : Int) < (k : Int)) = false := decide_eq_false (by omega)
          have hjk' : j = k := by omega
          have HKF2 : Hid (keepF (rs.take k) (pm, (a, n), mn, mx) = (cb && !y)) := by unfold Hid; rw [HKF.out, ← hjk', HA.out]
          obtain ⟨kb, hkb⟩ : ∃ kb, (cb && !y) = kb := ⟨_, rfl⟩
          rw [hkb] at HKF2 ⊢
          obtain ⟨f0, f1, f2, f3, f4⟩ := HF.out.cells
          clear HA HKF hkb HV HKA
          cases kb with
          | false =>
            have HN : Hid (out ++ trimF (rs.take (k + 1)) (rs.drop (k + 1)) = Z) := by unfold Hid; rw [← HZ.out, HD.out.1, trimF_no HKF2.out, HD.out.2]
            clear HZ HD HKF2
            go_wp2_with fail
            go_roundg (L - (k + 1))
            case measure => omega
            case rel => exact ⟨k + 1, _, out, by omega, Nat.le_refl _, by omega, by go_num, rfl, ⟨_, rfl⟩, ⟨_, rfl⟩, ⟨_, rfl⟩, ⟨_, rfl⟩, HO, HN, HW⟩
          | true =>
            have HN : Hid ((out ++ [(pm, (a, n), mn, mx)]) ++ trimF (rs.take (k + 1)) (rs.drop (k + 1)) = Z) := by unfold Hid; rw [← HZ.out, HD.out.1, trimF_yes HKF2.out, HD.out.2, List.append_assoc]; rfl
            have HR3 := Lib.hid (rdU_one wr (pm, (a, n), mn, mx) HZOK.out)
            have HB3 : Hid (Below w.heap.size w (wr.alloc (ruC (pm, (a, n), mn, mx)))) := below_then HW.out (below_alloc _ _)
            have HO3 : Hid (OwnU w.heap.size (wr.alloc (ruC (pm, (a, n), mn, mx))) u out) := HO.out.below (below_alloc _ _)
            clear HZ HD HKF2 HO HF
            go_wp2_with (at_builtin; refine append_rules rfl (.tmp 41) (.tmp 43) rfl w.heap.size HO3.out.1.1 u out rfl HO3.out (.slice (some ⟨wr.heap.size, 0, none⟩) 1 1) [(pm, (a, n), mn, mx)] rfl HR3.out (fun c e => by cases e) (by simp; omega) ?_; intro v2 w2 hown hgrow hbl; have HO4 := Lib.hid hown; have HB4 : Hid (Below w.heap.size w w2) := HB3.out.trans hbl; clear hown hgrow hbl)
            go_roundg (L - (k + 1))
            case measure => omega
            case rel => exact ⟨k + 1, _, out ++ [(pm, (a, n), mn, mx)], by omega, Nat.le_refl _, by simp; omega, by go_num, rfl, ⟨_, rfl⟩, ⟨_, rfl⟩, ⟨_, rfl⟩, ⟨_, rfl⟩, HO4, HN, HB4⟩
    · have k1 : decide ((k : Int) < (L : Int)) = false := decide_eq_false (by omega)
      have HZ2 : Hid (out = Z) := by
        unfold Hid; rw [← HZ.out, List.drop_eq_nil_of_le (by rw [HL.out]; omega), trimF, List.append_nil]
      have HO2 : Hid (OwnU w.heap.size wr u Z) := HZ2.out ▸ HO.out
      clear HZ
      go_wp2
      go_ret
      exact ⟨_, rfl, HO2.out, HW.out⟩
end Go.Proofs.YtiiojkekcnmddaaDoor
