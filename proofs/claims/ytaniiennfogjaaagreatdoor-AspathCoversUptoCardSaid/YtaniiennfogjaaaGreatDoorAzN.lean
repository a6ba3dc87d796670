/-
  AvB AvC AwA AwB AwC AxA AxB AxC AxD AxE AyA AyB AyC in one text.
-/
import Derived.Test.YtaniiennfogjaaaGreatDoorAvA
import Derived.BigQuiet
import Derived.Test.YtaniiennfogjaaaGreatDoorAuA
import Derived.Test.YtaniiennfogjaaaGreatDoorAsF
import Derived.Test.YtaniiennfogjaaaGreatDoorAsG
import Derived.Test.YtaniiennfogjaaaGreatDoorAsH
import Derived.Test.YtaniiennfogjaaaGreatDoorAsR
import Derived.Deep.AppendLies
import Derived.Deep.RegionLaw
import Derived.Test.YtaniiennfogjaaaGreatDoorAtA
import Derived.Test.YtaniiennfogjaaaGreatDoorAtN
import Derived.Test.YtaniiennfogjaaaGreatDoorAtC
import Derived.Test.YtaniiennfogjaaaGreatDoorAtG
import Derived.Test.YtaniiennfogjaaaGreatDoorAuC
import Derived.Test.YtaniiennfogjaaaGreatDoorAtU
import Derived.Test.YtaniiennfogjaaaGreatDoorAsL
import Derived.Test.YtaniiennfogjaaaGreatDoorAuB
namespace Go.Proofs.YtaniiennfogjaaaGreatDoor
section
open Go.RowKit P
set_option linter.unusedSimpArgs false
set_option linter.unusedVariables false
set_option maxHeartbeats 1500000
set_option maxRecDepth 100000
theorem segR_any (p : List Sg) (i : Nat) (s : Sg) (v : Value) (w : World) (hv : RdS w v p) (hs : p[i]? = some s) :
    Calls Tryz.prog 41 #[v, .int .i64 (i : Int)] w fun e w' => e = .returned (.int .i64 (segR p i s)) ∧ Below w.heap.size w w' := by
  obtain ⟨ad, cap, rfl, h1, h2, hc⟩ := hv
  have hil := (List.getElem?_eq_some_iff.1 hs).1
  obtain ⟨b, off, u, rfl, hb, c0, c1, hu⟩ := hc i s hs
  obtain ⟨n, hn⟩ : ∃ n, p.length = n := ⟨_, rfl⟩
  rw [hn] at h1 hil ⊢
  have hcap := h2.1
  have HN := Lib.hid hn
  have HP : Hid (∀ k t, p[k]? = some t → ∃ u, w.cell? ⟨b, off + k * 2, none⟩ = some (.int .i64 t.k) ∧ w.cell? ⟨b, off + k * 2 + 1, none⟩ = some u ∧ RdI w u t.as) := fun k t hk => by
    obtain ⟨b', off', u', e, _, d0, d1, hu'⟩ := hc k t hk
    cases e
    exact ⟨u', d0, d1, hu'⟩
  obtain ⟨uad, ucap, rfl, l1, l2, hcc⟩ := hu
  have HCC := Lib.hid hcc
  have HNE : Hid (s.as = [] ↔ s.as.length = 0) := by show _ ↔ _; rw [List.length_eq_zero_iff]
  obtain ⟨L, hL⟩ : ∃ L, s.as.length = L := ⟨_, rfl⟩
  rw [hL] at c1 l1 HNE
  have HL := Lib.hid hL
  have hLc := l2.1
  have HSI := Lib.hid hs
  have i0 : (0 : Int) ≤ (i : Int) := by omega
  have i1 : (i : Int) < (n : Int) := by omega
  have HW0 : Hid (Below w.heap.size w (w.alloc (.cells #[.int .i64 s.k, .slice uad L ucap] 46))) := below_alloc _ _
  have g0 : (w.alloc (.cells #[.int .i64 s.k, .slice uad L ucap] 46)).cell? ⟨w.heap.size, 0, none⟩ = some (.int .i64 s.k) := cell_of (heap_alloc_new _ _) rfl
  have g1 : (w.alloc (.cells #[.int .i64 s.k, .slice uad L ucap] 46)).cell? ⟨w.heap.size, 1, none⟩ = some (.slice uad L ucap) := cell_of (heap_alloc_new _ _) rfl
  have HCS : Hid (∀ W, Calls Tryz.prog 61 #[.int .i64 s.k] W fun e w' => e = .returned (.bool (isSet s.k)) ∧ w' = W) := fun W => set61_same s.k W
  have HCF : Hid (∀ W, Calls Tryz.prog 51 #[.int .i64 s.k] W fun e w' => e = .returned (.bool (isConf s.k)) ∧ w' = W) := fun W => conf51_same s.k W
  clear hc hn hL hcc l1 l2 h2 hs
  have HRE : Hid (∀ e : Int, segE s = e → e ≠ 0 → segR p i s = e) := fun e h1 h2 => segR_err h1 h2
  by_cases hk : s.k < 1 ∨ 4 < s.k
  · have HR : Hid (segR p i s = 15) := HRE.out 15 (segE15 hk) (by omega)
    by_cases hk1 : s.k < 1
    · go_enter Tryz.func41, Tryz.ntmps41
      go_wp2
      go_ret
      exact ⟨by rw [HR.out] <;> rfl, HW0.out⟩
    · have e1 : decide (s.k < 1) = false := decide_eq_false hk1
      have e2 : decide ((4 : Int) < s.k) = true := decide_eq_true (by omega)
      go_enter Tryz.func41, Tryz.ntmps41
      go_wp2
      go_ret
      exact ⟨by rw [HR.out] <;> rfl, HW0.out⟩
  have HK := Lib.hid hk
  have e1 : decide (s.k < 1) = false := decide_eq_false (by omega)
  have e2 : decide ((4 : Int) < s.k) = false := decide_eq_false (by omega)
  clear hk
  by_cases hl0 : L = 0
  · have HR : Hid (segR p i s = 1) := HRE.out 1 (segE1 HK.out (HNE.out.2 hl0)) (by omega)
    subst hl0
    go_enter Tryz.func41, Tryz.ntmps41
    go_wp2
    go_ret
    exact ⟨by rw [HR.out] <;> rfl, HW0.out⟩
  have HNE2 : Hid (s.as ≠ []) := fun e => hl0 (HNE.out.1 e)
  have e3 : ((L : Int) == 0) = false := by simpa using hl0
  have e3' : decide ((L : Int) = 0) = false := decide_eq_false (by omega)
  by_cases hl2 : 255 < L
  · have HR : Hid (segR p i s = 4) := HRE.out 4 (segE4 HK.out HNE2.out (by rw [HL.out]; exact hl2)) (by omega)
    have e4 : decide ((255 : Int) < (L : Int)) = true := decide_eq_true (by omega)
    clear HNE
    go_enter Tryz.func41, Tryz.ntmps41
    go_wp2
    go_ret
    exact ⟨by rw [HR.out] <;> rfl, HW0.out⟩
  have HL2 : Hid (¬ 255 < s.as.length) := by show ¬ _; rw [HL.out]; exact hl2
  have e4 : decide ((255 : Int) < (L : Int)) = false := decide_eq_false (by omega)
  have hL1 : 1 ≤ L := by omega
  clear HNE hl0
  go_enter Tryz.func41, Tryz.ntmps41
  go_wp2_with fail
  have HP0 : Hid (∀ k t, p[k]? = some t → ∃ u, (w.alloc (.cells #[.int .i64 s.k, .slice uad L ucap] 46)).cell? ⟨b, off + k * 2, none⟩ = some (.int .i64 t.k) ∧ (w.alloc (.cells #[.int .i64 s.k, .slice uad L ucap] 46)).cell? ⟨b, off + k * 2 + 1, none⟩ = some u ∧ RdI w u t.as) := fun k t hk => by
    obtain ⟨u, a, b, c⟩ := HP.out k t hk
    exact ⟨u, carry HW0.out a, carry HW0.out b, c⟩
  have HCC0 : Hid (∀ k x, s.as[k]? = some x → ∃ b off, uad = some ⟨b, off, none⟩ ∧ (w.alloc (.cells #[.int .i64 s.k, .slice uad L ucap] 46)).cell? ⟨b, off + k, none⟩ = some (.int .i64 x)) := fun k x hk => by
    obtain ⟨b, off, e, _, c⟩ := HCC.out k x hk
    exact ⟨b, off, e, carry HW0.out c⟩
  clear c0 c1 HP HCC
  generalize hWW : w.alloc (.cells #[.int .i64 s.k, .slice uad L ucap] 46) = W0 at *
  have HN0 : Hid (∀ (j : Nat) (x : Int), j < 0 → s.as[j]? = some x → isNum x = true) := fun j x h => by omega
  have HS0 : Hid (Below W0.heap.size W0 W0) := Below.refl _ _
  clear hWW
  go_loopg [7, 34] (L + 1) (fun g s7 s34 wr => ∃ m : Nat, m ≤ L ∧ L + 1 - m ≤ g ∧ s34 = .int .i64 (m : Int) ∧ (∃ q, q = s7) ∧ Hid (∀ (j : Nat) (x : Int), j < m → s.as[j]? = some x → isNum x = true) ∧ Hid (Below W0.heap.size W0 wr))
  case atStart => exact ⟨0, by omega, by omega, rfl, ⟨_, rfl⟩, HN0, HS0⟩
  case round =>
    clear HN0 HS0
    obtain ⟨m, hm, hmg, rfl, ⟨u7, rfl⟩, HI, HS⟩ := hrel
    by_cases hml : m < L
    · obtain ⟨x, hx⟩ : ∃ x, s.as[m]? = some x := ⟨_, List.getElem?_eq_getElem (by have := HL.out; omega)⟩
      have HX := Lib.hid hx
      obtain ⟨b1, o1, rfl, d1⟩ := HCC0.out m x hx
      have d1 := carry HS.out d1
      have j0 : (0 : Int) ≤ (m : Int) := by omega
      have j1 : (m : Int) < (L : Int) := by omega
      clear hx
      by_cases hx1 : x < 1
      · have HR : Hid (segR p i s = 5) := HRE.out 5 (segE5 HK.out HNE2.out HL2.out HX.out (by unfold isNum; exact decide_eq_false (by omega))) (by omega)
        have f1 : decide (x < 1) = true := decide_eq_true hx1
        have HB2 := Lib.hid (HW0.out.trans (HS.out.mono HW0.out.size))
        clear HI HX
        go_wp2
        go_ret
        exact ⟨by rw [HR.out] <;> rfl, HB2.out⟩
      by_cases hx2 : 4294967295 < x
      · have HR : Hid (segR p i s = 5) := HRE.out 5 (segE5 HK.out HNE2.out HL2.out HX.out (by unfold isNum; exact decide_eq_false (by omega))) (by omega)
        have f1 : decide (x < 1) = false := decide_eq_false hx1
        have f2 : decide ((4294967295 : Int) < x) = true := decide_eq_true hx2
        have HB2 := Lib.hid (HW0.out.trans (HS.out.mono HW0.out.size))
        clear HI HX hx1
        go_wp2
        go_ret
        exact ⟨by rw [HR.out] <;> rfl, HB2.out⟩
      · have f1 : decide (x < 1) = false := decide_eq_false hx1
        have f2 : decide ((4294967295 : Int) < x) = false := decide_eq_false hx2
        have HI2 : Hid (∀ (j : Nat) (x : Int), j < m + 1 → s.as[j]? = some x → isNum x = true) := fun j y hj hy => by
          by_cases e : j = m
          · subst e
            have h := HX.out
            rw [hy] at h; cases h
            unfold isNum; exact decide_eq_true (by omega)
          · exact HI.out j y (by omega) hy
        clear HI HX hx1 hx2
        go_wp2_with fail
        go_roundg (L + 1 - (m + 1))
        case measure => omega
        case rel => exact ⟨m + 1, by omega, Nat.le_refl _, by go_num, ⟨_, rfl⟩, HI2, HS⟩
    have k1 : decide ((m : Int) < (L : Int)) = false := decide_eq_false (by omega)
    have HNUM : Hid (∀ (j : Nat) (x : Int), s.as[j]? = some x → isNum x = true) := fun j x hx => HI.out j x (by have := (List.getElem?_eq_some_iff.1 hx).1; have := HL.out; omega) hx
    have HA0 : Hid (isSet s.k = true → ∀ (j : Nat) (x y : Int), j + 1 < 1 → s.as[j]? = some x → s.as[j + 1]? = some y → x < y) := fun _ j x y h => by omega
    clear HI
    go_wp2_with fail
    go_loopg [8] (L + 1) (fun g s8 wr => ∃ m : Nat, 1 ≤ m ∧ m ≤ L ∧ L + 1 - m ≤ g ∧ s8 = .int .i64 (m : Int) ∧ Hid (isSet s.k = true → ∀ (j : Nat) (x y : Int), j + 1 < m → s.as[j]? = some x → s.as[j + 1]? = some y → x < y) ∧ Hid (Below W0.heap.size W0 wr))
    case atStart => exact ⟨1, by omega, by omega, by omega, rfl, HA0, HS⟩
    case round =>
      clear HA0 HS k1
      obtain ⟨m, hm1, hm, hmg, rfl, HA, HS⟩ := hrel
      have d0 := carry HS.out g0
      have d1 := carry HS.out g1
      by_cases hml : m < L
      · have j0 : (0 : Int) ≤ (m : Int) := by omega
        have j1 : (m : Int) < (L : Int) := by omega
        have j2 : (0 : Int) ≤ (m : Int) - 1 := by omega
        have j3 : (m : Int) - 1 < (L : Int) := by omega
        have j4 : IntKind.i64.wrap ((m : Int) - 1) = (m : Int) - 1 := IntWalk.i64_in _ (by omega)
        have j5 : ((m : Int) - 1).toNat = m - 1 := by omega
        have k1 : decide ((m : Int) < (L : Int)) = true := decide_eq_true (by omega)
        cases hset : isSet s.k with
        | false =>
          rw [hset] at HCS
          have HA2 : Hid (isSet s.k = true → ∀ (j : Nat) (x y : Int), j + 1 < m + 1 → s.as[j]? = some x → s.as[j + 1]? = some y → x < y) := fun h => by rw [hset] at h; cases h
          clear HA hset
          go_wp2_with fail
          go_quiet (first | (go_at_call 61; exact Calls.quiet_of_same (HCS.out _)))
          go_wp2_with fail
          go_roundg (L + 1 - (m + 1))
          case measure => omega
          case rel => exact ⟨m + 1, by omega, by omega, Nat.le_refl _, by go_num, HA2, below_drewN HS.out _⟩
        | true =>
          rw [hset] at HCS
          obtain ⟨x, hx⟩ : ∃ x, s.as[m - 1]? = some x := ⟨_, List.getElem?_eq_getElem (by have := HL.out; omega)⟩
          obtain ⟨y, hy⟩ : ∃ y, s.as[m]? = some y := ⟨_, List.getElem?_eq_getElem (by have := HL.out; omega)⟩
          have HXY := Lib.hid (And.intro hx hy)
          obtain ⟨b1, o1, rfl, d2⟩ := HCC0.out (m - 1) x hx
          obtain ⟨b1', o1', e', d3⟩ := HCC0.out m y hy
          cases e'
          have d2 := carry HS.out d2
          have d3 := carry HS.out d3
          clear hx hy
          by_cases hxy : x < y
          · have q1 : decide (y ≤ x) = false := decide_eq_false (by omega)
            have HA2 : Hid (isSet s.k = true → ∀ (j : Nat) (x y : Int), j + 1 < m + 1 → s.as[j]? = some x → s.as[j + 1]? = some y → x < y) := fun h j x' y' hj hx' hy' => by
              by_cases e : j + 1 = m
              · subst e
                have h1 := HXY.out.1; have h2 := HXY.out.2
                rw [show j + 1 - 1 = j by omega, hx'] at h1
                rw [hy'] at h2
                cases h1; cases h2; exact hxy
              · exact HA.out h j x' y' (by omega) hx' hy'
            clear HA hset hxy HXY
            go_wp2_with fail
            go_quiet (first | (go_at_call 61; exact Calls.quiet_of_same (HCS.out _)))
            go_wp2_with fail
            go_roundg (L + 1 - (m + 1))
            case measure => omega
            case rel => exact ⟨m + 1, by omega, by omega, Nat.le_refl _, by go_num, HA2, below_drewN HS.out _⟩
          · have q1 : decide (y ≤ x) = true := decide_eq_true (by omega)
            have HR : Hid (segR p i s = 16) := HRE.out 16 (segE16 HK.out HNE2.out HL2.out HNUM.out hset (j := m - 1) HXY.out.1 (by rw [show m - 1 + 1 = m by omega]; exact HXY.out.2) (by omega)) (by omega)
            have HB2 := Lib.hid (HW0.out.trans (HS.out.mono HW0.out.size))
            clear HA hset hxy HXY
            go_wp2_with fail
            go_quiet (first | (go_at_call 61; exact Calls.quiet_of_same (HCS.out _)))
            go_wp2
            go_ret
            exact ⟨by rw [HR.out] <;> rfl, below_drewN HB2.out _⟩
      have k1 : decide ((m : Int) < (L : Int)) = false := decide_eq_false (by omega)
      have HE0 : Hid (segE s = 0) := segE0 HK.out HNE2.out HL2.out HNUM.out (fun h j x y hx hy => HA.out h j x y (by have := (List.getElem?_eq_some_iff.1 hy).1; have := HL.out; omega) hx hy)
      clear HA HNUM HCC0 HRE HL2 HNE2 HK HL hm hmg hm1
      cases hcf : isConf s.k with
      | false =>
        rw [hcf] at HCF
        have HT : Hid (segR p i s = if tailB p i s = true then 1 else 0) := segR_tail HE0.out (fun h => by rw [hcf] at h; cases h)
        clear HE0 hcf
        go_wp2_with fail
        go_at_call 51
        refine (HCF.out _).mono ?_
        rintro e w2 ⟨rfl, rfl⟩
        go_wp2_with fail
        have HB2 := Lib.hid (HW0.out.trans (HS.out.mono HW0.out.size))
        by_cases hi0 : i = 0
        · have HR : Hid (segR p i s = 0) := by
            show _ = _; rw [HT.out, if_neg]; subst hi0; exact fun h => by cases h
          have k2 : decide ((0 : Int) < (i : Int)) = false := decide_eq_false (by omega)
          clear HT
          go_quiet (first | (go_at_call 61; exact Calls.quiet_of_same (HCS.out _)))
          go_wp2
          go_ret
          exact ⟨by rw [HR.out] <;> rfl, below_drewN HB2.out _⟩
        obtain ⟨y, hy⟩ : ∃ y, p[i - 1]? = some y := ⟨_, List.getElem?_eq_getElem (by have := HN.out; omega)⟩
        obtain ⟨uy, a0, a1, huy⟩ := HP0.out (i - 1) y hy
        obtain ⟨yad, ycap, hf⟩ := huy.form
        subst hf
        obtain ⟨ly, hly⟩ : ∃ ly, y.as.length = ly := ⟨_, rfl⟩
        rw [hly] at a1
        have hTB : tailB p i s = (!isSet s.k && decide (y.k = s.k) && decide (ly < 255)) := by
          unfold tailB
          have : prevO p i = some y := by
            cases hq : i with
            | zero => omega
            | succ z => rw [hq] at hy; exact hy
          rw [this, ← hly]
        have d2 := carry HS.out a0
        have d3 := carry HS.out a1
        have k2 : decide ((0 : Int) < (i : Int)) = true := decide_eq_true (by omega)
        have k2' : 0 < i := by omega
        have k3 : (0 : Int) ≤ (i : Int) - 1 := by omega
        have k4 : (i : Int) - 1 < (n : Int) := by omega
        have k5 : IntKind.i64.wrap ((i : Int) - 1) = (i : Int) - 1 := IntWalk.i64_in _ (by omega)
        have k6 : ((i : Int) - 1).toNat = i - 1 := by omega
        clear hy a0 a1 huy hly hi0
        cases hset : isSet s.k with
        | true =>
          rw [hset] at HCS
          have HR : Hid (segR p i s = 0) := by
            show _ = _; rw [HT.out, hTB, hset]; rfl
          clear HT hTB hset
          go_quiet (first | (go_at_call 61; exact Calls.quiet_of_same (HCS.out _)))
          go_wp2
          go_ret
          exact ⟨by rw [HR.out] <;> rfl, below_drewN HB2.out _⟩
        | false =>
          rw [hset] at HCS
          by_cases hkk : y.k = s.k
          · have q1 : (y.k == s.k) = true := by simpa using hkk
            by_cases hll : ly < 255
            · have HR : Hid (segR p i s = 1) := by
                show _ = _; rw [HT.out, hTB, hset, decide_eq_true hkk, decide_eq_true hll]; rfl
              have q2 : decide ((ly : Int) < 255) = true := decide_eq_true (by omega)
              clear HT hTB hset hkk hll
              go_quiet (first | (go_at_call 61; exact Calls.quiet_of_same (HCS.out _)))
              go_wp2
              go_ret
              exact ⟨by rw [HR.out] <;> rfl, below_drewN HB2.out _⟩
            · have HR : Hid (segR p i s = 0) := by
                show _ = _; rw [HT.out, hTB, hset, decide_eq_true hkk, decide_eq_false hll]; rfl
              have q2 : decide ((ly : Int) < 255) = false := decide_eq_false (by omega)
              clear HT hTB hset hkk hll
              go_quiet (first | (go_at_call 61; exact Calls.quiet_of_same (HCS.out _)))
              go_wp2
              go_ret
              exact ⟨by rw [HR.out] <;> rfl, below_drewN HB2.out _⟩
          · have q1 : (y.k == s.k) = false := by simpa using hkk
            have HR : Hid (segR p i s = 0) := by
              show _ = _; rw [HT.out, hTB, hset, decide_eq_false hkk]; rfl
            clear HT hTB hset hkk
            go_quiet (first | (go_at_call 61; exact Calls.quiet_of_same (HCS.out _)))
            go_wp2
            go_ret
            exact ⟨by rw [HR.out] <;> rfl, below_drewN HB2.out _⟩
      | true =>
        rw [hcf] at HCF
        have HS1 : Hid (Below W0.heap.size W0 wr) := HS
        have HT0 : Hid (∀ t ∈ p.take 0, isConf t.k = true) := fun t h => by simp at h
        have j1 : (0 : Int) ≤ (cap : Int) := by omega
        have j2 : (i : Int) ≤ (cap : Int) := by omega
        have j3 : (i : Int) ≤ (n : Int) := by omega
        go_wp2_with fail
        go_at_call 51
        refine (HCF.out _).mono ?_
        rintro e w2 ⟨rfl, rfl⟩
        go_wp2_with fail
        clear d0 d1 HCF k1
        go_loopg [10, 76] (i + 1) (fun g s10 s76 wr => ∃ m : Nat, m ≤ i ∧ i + 1 - m ≤ g ∧ s76 = .int .i64 (m : Int) ∧ (∃ q, q = s10) ∧ Hid (∀ t ∈ p.take m, isConf t.k = true) ∧ Hid (Below W0.heap.size W0 wr))
        case atStart => exact ⟨0, by omega, by omega, rfl, ⟨_, rfl⟩, HT0, HS1⟩
        case round =>
          clear HT0 HS1 HS
          obtain ⟨m, hm, hmg, rfl, ⟨u10, rfl⟩, HI, HS⟩ := hrel
          by_cases hml : m < i
          · obtain ⟨t, ht⟩ : ∃ t, p[m]? = some t := ⟨_, List.getElem?_eq_getElem (by have := HN.out; omega)⟩
            have HTT := Lib.hid ht
            obtain ⟨ut, a0, a1, hut⟩ := HP0.out m t ht
            have d2 := carry HS.out a0
            have d3 := carry HS.out a1
            obtain ⟨tad, tcap, hf⟩ := hut.form
            subst hf
            have k0 : (0 : Int) ≤ (m : Int) := by omega
            have k1 : (m : Int) < (i : Int) := by omega
            obtain ⟨tl, htl⟩ : ∃ tl, t.as.length = tl := ⟨_, rfl⟩
            rw [htl] at d3
            have HCT : Hid (∀ W, Calls Tryz.prog 51 #[.int .i64 t.k] W fun e w' => e = .returned (.bool (isConf t.k)) ∧ w' = W) := fun W => conf51_same t.k W
            have HS2 := Lib.hid (below_then HS.out (below_alloc wr (.cells #[.int .i64 t.k, .slice tad tl tcap] 46)))
            clear ht a0 a1 hut htl
            cases hct : isConf t.k with
            | false =>
              rw [hct] at HCT
              have HR : Hid (segR p i s = 1) := segR_conf HE0.out hcf (t := t) (by
                refine List.mem_iff_getElem?.2 ⟨m, ?_⟩
                rw [List.getElem?_take_of_lt hml]; exact HTT.out) hct
              have HB2 := Lib.hid (HW0.out.trans (HS2.out.mono HW0.out.size))
              clear HI HE0 hcf hct HTT
              go_wp2_with fail
              go_at_call 51
              refine (HCT.out _).mono ?_
              rintro e w3 ⟨rfl, rfl⟩
              go_wp2
              go_ret
              exact ⟨by rw [HR.out] <;> rfl, HB2.out⟩
            | true =>
              rw [hct] at HCT
              have HI2 : Hid (∀ y ∈ p.take (m + 1), isConf y.k = true) := fun y hy => by
                rw [List.take_add_one, HTT.out] at hy
                rcases List.mem_append.1 hy with h | h
                · exact HI.out y h
                · simp at h; subst h; exact hct
              clear HI hct HTT
              go_wp2_with fail
              go_at_call 51
              refine (HCT.out _).mono ?_
              rintro e w3 ⟨rfl, rfl⟩
              go_wp2_with fail
              go_roundg (i + 1 - (m + 1))
              case measure => omega
              case rel => exact ⟨m + 1, by omega, Nat.le_refl _, by go_num, ⟨_, rfl⟩, HI2, HS2⟩
          obtain rfl : m = i := by omega
          have k1 : decide ((m : Int) < (m : Int)) = false := decide_eq_false (by omega)
          have HT : Hid (segR p m s = if tailB p m s = true then 1 else 0) := segR_tail HE0.out (fun _ => HI.out)
          have d0 := carry HS.out g0
          have d1 := carry HS.out g1
          clear HI HE0 hcf hml hmg hm
          go_wp2_with fail
          have HB2 := Lib.hid (HW0.out.trans (HS.out.mono HW0.out.size))
          by_cases hi0 : m = 0
          · have HR : Hid (segR p m s = 0) := by
              show _ = _; rw [HT.out, if_neg]; subst hi0; exact fun h => by cases h
            have k2 : decide ((0 : Int) < (m : Int)) = false := decide_eq_false (by omega)
            clear HT
            go_quiet (first | (go_at_call 61; exact Calls.quiet_of_same (HCS.out _)))
            go_wp2
            go_ret
            exact ⟨by rw [HR.out] <;> rfl, below_drewN HB2.out _⟩
          obtain ⟨y, hy⟩ : ∃ y, p[m - 1]? = some y := ⟨_, List.getElem?_eq_getElem (by have := HN.out; omega)⟩
          obtain ⟨uy, a0, a1, huy⟩ := HP0.out (m - 1) y hy
          obtain ⟨yad, ycap, hf⟩ := huy.form
          subst hf
          obtain ⟨ly, hly⟩ : ∃ ly, y.as.length = ly := ⟨_, rfl⟩
          rw [hly] at a1
          have hTB : tailB p m s = (!isSet s.k && decide (y.k = s.k) && decide (ly < 255)) := by
            unfold tailB
            have : prevO p m = some y := by
              cases hq : m with
              | zero => omega
              | succ z => rw [hq] at hy; exact hy
            rw [this, ← hly]
          have d2 := carry HS.out a0
          have d3 := carry HS.out a1
          have k2 : decide ((0 : Int) < (m : Int)) = true := decide_eq_true (by omega)
          have k2' : 0 < m := by omega
          have k3 : (0 : Int) ≤ (m : Int) - 1 := by omega
          have k4 : (m : Int) - 1 < (n : Int) := by omega
          have k5 : IntKind.i64.wrap ((m : Int) - 1) = (m : Int) - 1 := IntWalk.i64_in _ (by omega)
          have k6 : ((m : Int) - 1).toNat = m - 1 := by omega
          clear hy a0 a1 huy hly hi0
          cases hset : isSet s.k with
          | true =>
            rw [hset] at HCS
            have HR : Hid (segR p m s = 0) := by
              show _ = _; rw [HT.out, hTB, hset]; rfl
            clear HT hTB hset
            go_quiet (first | (go_at_call 61; exact Calls.quiet_of_same (HCS.out _)))
            go_wp2
            go_ret
            exact ⟨by rw [HR.out] <;> rfl, below_drewN HB2.out _⟩
          | false =>
            rw [hset] at HCS
            by_cases hkk : y.k = s.k
            · have q1 : (y.k == s.k) = true := by simpa using hkk
              by_cases hll : ly < 255
              · have HR : Hid (segR p m s = 1) := by
                  show _ = _; rw [HT.out, hTB, hset, decide_eq_true hkk, decide_eq_true hll]; rfl
                have q2 : decide ((ly : Int) < 255) = true := decide_eq_true (by omega)
                clear HT hTB hset hkk hll
                go_quiet (first | (go_at_call 61; exact Calls.quiet_of_same (HCS.out _)))
                go_wp2
                go_ret
                exact ⟨by rw [HR.out] <;> rfl, below_drewN HB2.out _⟩
              · have HR : Hid (segR p m s = 0) := by
                  show _ = _; rw [HT.out, hTB, hset, decide_eq_true hkk, decide_eq_false hll]; rfl
                have q2 : decide ((ly : Int) < 255) = false := decide_eq_false (by omega)
                clear HT hTB hset hkk hll
                go_quiet (first | (go_at_call 61; exact Calls.quiet_of_same (HCS.out _)))
                go_wp2
                go_ret
                exact ⟨by rw [HR.out] <;> rfl, below_drewN HB2.out _⟩
            · have q1 : (y.k == s.k) = false := by simpa using hkk
              have HR : Hid (segR p m s = 0) := by
                show _ = _; rw [HT.out, hTB, hset, decide_eq_false hkk]; rfl
              clear HT hTB hset hkk
              go_quiet (first | (go_at_call 61; exact Calls.quiet_of_same (HCS.out _)))
              go_wp2
              go_ret
              exact ⟨by rw [HR.out] <;> rfl, below_drewN HB2.out _⟩
end
end Go.Proofs.YtaniiennfogjaaaGreatDoor
namespace Go.Proofs.YtaniiennfogjaaaGreatDoor
section
open Go.RowKit P
set_option linter.unusedSimpArgs false
set_option linter.unusedVariables false
set_option maxHeartbeats 1500000
set_option maxRecDepth 100000
theorem rcheck_any (p : List Sg) (v : Value) (w : World) (hv : RdS w v p) : Calls Tryz.prog 14 #[v] w fun e w' => e = .returned (.int .i64 (chk p)) ∧ Below w.heap.size w w' := by
  have HV := Lib.hid hv
  obtain ⟨ad, cap, hf⟩ := hv.form
  subst hf
  have hcap : p.length ≤ 9223372036854775807 := by obtain ⟨_, _, e, h1, h2, _⟩ := hv; have := h2.1; omega
  have HC : Hid (chk p = if 64 < p.length then 4 else scan none p) := rfl
  obtain ⟨n, hn⟩ : ∃ n, p.length = n := ⟨_, rfl⟩
  rw [hn] at HC HV hcap ⊢
  have HN := Lib.hid hn
  generalize chk p = q at *
  clear hv hn
  by_cases h64 : 64 < n
  · have HQ : Hid (q = 4) := by show _ = _; rw [HC.out, if_pos h64]
    have e1 : decide ((64 : Int) < (n : Int)) = true := decide_eq_true (by omega)
    clear HV
    go_enter Tryz.func14, Tryz.ntmps14
    go_wp2
    go_ret
    exact ⟨by rw [HQ.out] <;> rfl, Below.refl _ _⟩
  · have e1 : decide ((64 : Int) < (n : Int)) = false := decide_eq_false (by omega)
    have HQ0 : Hid (q = scan (prevO p 0) (p.drop 0)) := by show _ = _; rw [HC.out, if_neg h64]; rfl
    have HB0 : Hid (Bef p 0) := Bef.start p
    have HS0 : Hid (Below w.heap.size w w) := Below.refl _ _
    clear HC
    go_enter Tryz.func14, Tryz.ntmps14
    go_wp2_with fail
    go_loopg [3, 4, 10] (n + 1) (fun g s3 s4 s10 wr => ∃ k : Nat, k ≤ n ∧ n + 1 - k ≤ g ∧ s10 = .int .i64 (k : Int) ∧ (∃ z, z = s3) ∧ (∃ z, z = s4) ∧ Hid (q = scan (prevO p k) (p.drop k)) ∧ Hid (Bef p k) ∧ Hid (Below w.heap.size w wr))
    case atStart => exact ⟨0, by omega, by omega, rfl, ⟨_, rfl⟩, ⟨_, rfl⟩, HQ0, HB0, HS0⟩
    case round =>
      clear HQ0 HB0 HS0
      obtain ⟨k, hk, hkg, rfl, ⟨u3, rfl⟩, ⟨u4, rfl⟩, HQ, HB, HS⟩ := hrel
      by_cases hlt : k < n
      · obtain ⟨s, hs⟩ : ∃ s, p[k]? = some s := ⟨_, List.getElem?_eq_getElem (by have := HN.out; omega)⟩
        have HST := Lib.hid (HB.out.step hs)
        have HR := Lib.hid (segR_any p k s _ wr (HV.out.below HS.out) hs)
        have k1 : decide ((k : Int) < (n : Int)) = true := decide_eq_true (by omega)
        generalize segR p k s = r at *
        by_cases hr : r = 0
        · have HQ2 : Hid (q = scan (prevO p (k + 1)) (p.drop (k + 1))) := by
            show _ = _; rw [HQ.out, HST.out.1, if_neg (by simp [hr])]
          have HB2 : Hid (Bef p (k + 1)) := HST.out.2 hr
          subst hr
          clear HQ HB HST hs
          go_wp2_with fail
          go_at_call 41
          refine HR.out.mono ?_
          rintro e w1 ⟨rfl, hb⟩
          have HS2 := Lib.hid (below_then HS.out hb)
          clear hb HR HS
          go_wp2_with fail
          go_roundg (n + 1 - (k + 1))
          case measure => omega
          case rel => exact ⟨k + 1, by omega, Nat.le_refl _, by go_num, ⟨_, rfl⟩, ⟨_, rfl⟩, HQ2, HB2, HS2⟩
        · have HQ2 : Hid (q = r) := by
            show _ = _; rw [HQ.out, HST.out.1, if_pos hr]
          have e2 : (r == 0) = false := by simpa using hr
          have e3 : (r != 0) = true := by simpa using hr
          clear HQ HB HST hs
          go_wp2_with fail
          go_at_call 41
          refine HR.out.mono ?_
          rintro e w1 ⟨rfl, hb⟩
          have HS2 := Lib.hid (below_then HS.out hb)
          clear hb HR HS
          go_wp2
          go_ret
          exact ⟨by rw [HQ2.out] <;> rfl, HS2.out⟩
      · have k1 : decide ((k : Int) < (n : Int)) = false := decide_eq_false (by omega)
        have HQ2 : Hid (q = 0) := by
          show _ = _
          rw [HQ.out, List.drop_of_length_le (by rw [HN.out]; omega)]
          cases prevO p k <;> rfl
        clear HQ HB
        go_wp2
        go_ret
        exact ⟨by rw [HQ2.out] <;> rfl, HS.out⟩
end
end Go.Proofs.YtaniiennfogjaaaGreatDoor
namespace Go.Proofs.YtaniiennfogjaaaGreatDoor
section
open Go.RowKit P
set_option linter.unusedSimpArgs false
set_option linter.unusedVariables false
set_option maxHeartbeats 1500000
set_option maxRecDepth 100000
theorem lsame_any (a b : List Int) (v u : Value) (w : World) (hv : RdI w v a) (hu : RdI w u b) :
    Calls Tryz.prog 26 #[v, u] w fun e w' => e = .returned (.bool (decide (a = b))) ∧ Below w.heap.size w w' := by
  obtain ⟨va, vc, rfl, v1, v2, hvc⟩ := hv
  obtain ⟨ua, uc, rfl, u1, u2, huc⟩ := hu
  obtain ⟨M, hM⟩ : ∃ M, a.length = M := ⟨_, rfl⟩
  obtain ⟨N, hN⟩ : ∃ N, b.length = N := ⟨_, rfl⟩
  rw [hM] at v1 ⊢
  rw [hN] at u1 ⊢
  have HM := Lib.hid hM
  have HN := Lib.hid hN
  have HVC := Lib.hid hvc
  have HUC := Lib.hid huc
  have hLm : M ≤ 9223372036854775807 := by have := v2.1; omega
  have HA0 : Hid (∀ j, j < 0 → a[j]? = b[j]?) := fun j h => by omega
  have HS0 : Hid (Below w.heap.size w w) := Below.refl _ _
  clear v1 v2 u1 u2 hvc huc hM hN
  by_cases hmn : M = N
  · subst hmn
    go_enter Tryz.func26, Tryz.ntmps26
    go_wp2_with fail
    go_loopg [5, 13] (M + 1) (fun g s5 s13 wr => ∃ k : Nat, k ≤ M ∧ M + 1 - k ≤ g ∧ s13 = .int .i64 (k : Int) ∧ (∃ q, q = s5) ∧ Hid (∀ j, j < k → a[j]? = b[j]?) ∧ Hid (Below w.heap.size w wr))
    case atStart => exact ⟨0, by omega, by omega, rfl, ⟨_, rfl⟩, HA0, HS0⟩
    case round =>
      clear HA0 HS0
      obtain ⟨k, hk, hkg, rfl, ⟨u5, rfl⟩, HA, HS⟩ := hrel
      by_cases hlt : k < M
      · obtain ⟨x, hx⟩ : ∃ x, a[k]? = some x := ⟨_, List.getElem?_eq_getElem (by have := HM.out; omega)⟩
        obtain ⟨y, hy⟩ : ∃ y, b[k]? = some y := ⟨_, List.getElem?_eq_getElem (by have := HN.out; omega)⟩
        have HXY := Lib.hid (And.intro hx hy)
        obtain ⟨p1, o1, rfl, q1, c1⟩ := HVC.out k x hx
        obtain ⟨p2, o2, rfl, q2, c2⟩ := HUC.out k y hy
        have d1 := carry HS.out c1
        have d2 := carry HS.out c2
        have k0 : (0 : Int) ≤ (k : Int) := by omega
        have k1 : decide ((k : Int) < (M : Int)) = true := decide_eq_true (by omega)
        have k2 : (k : Int) < (M : Int) := by omega
        clear hx hy c1 c2
        by_cases hxy : x = y
        · have e1 : (x == y) = true := by simpa using hxy
          have HA2 : Hid (∀ j, j < k + 1 → a[j]? = b[j]?) := fun j hj => by
            by_cases e : j = k
            · subst e; rw [HXY.out.1, HXY.out.2, hxy]
            · exact HA.out j (by omega)
          clear HA HXY hxy
          go_wp2_with fail
          go_quiet (fail)
          go_wp2_with fail
          go_roundg (M + 1 - (k + 1))
          case measure => omega
          case rel => exact ⟨k + 1, by omega, Nat.le_refl _, by go_num, ⟨_, rfl⟩, HA2, below_drewN HS.out _⟩
        · have e1 : (x == y) = false := by simpa using hxy
          have HZ : Hid (decide (a = b) = false) := by
            refine decide_eq_false fun e => hxy ?_
            have h1 := HXY.out.1; have h2 := HXY.out.2
            rw [e, h2] at h1; cases h1; rfl
          clear HA HXY hxy
          go_wp2_with fail
          go_quiet (fail)
          go_wp2
          go_ret
          exact ⟨by rw [HZ.out] <;> rfl, below_drewN HS.out _⟩
      · have k1 : decide ((k : Int) < (M : Int)) = false := decide_eq_false (by omega)
        have HZ : Hid (decide (a = b) = true) := decide_eq_true (eq_upto (by rw [HM.out, HN.out]) (fun j hj => HA.out j (by have := HM.out; omega)))
        go_wp2
        go_ret
        exact ⟨by rw [HZ.out] <;> rfl, HS.out⟩
  · have HZ : Hid (decide (a = b) = false) := decide_eq_false fun e => hmn (by rw [← HM.out, ← HN.out, e])
    have k1 : ((M : Int) == (N : Int)) = false := by simpa using (by omega : ¬ (M : Int) = (N : Int))
    go_enter Tryz.func26, Tryz.ntmps26
    go_wp2
    go_ret
    exact ⟨by rw [HZ.out] <;> rfl, HS0.out⟩
theorem rlength_any (p : List Sg) (v : Value) (w : World) (hv : RdS w v p) (hl : (flat p).length ≤ 2000000) (hp : p.length ≤ 2000000) : Calls Tryz.prog 20 #[v] w fun e w' => e = .returned (.int .i64 (len p : Int)) ∧ Below w.heap.size w w' := by
  obtain ⟨ad, cap, rfl, h1, h2, hc⟩ := hv
  have HC := Lib.hid hc
  obtain ⟨n, hn⟩ : ∃ n, p.length = n := ⟨_, rfl⟩
  have HTL : Hid (∀ k, len (p.take k) ≤ 4000000) := fun k => Nat.le_trans (len_take_le p k) (by omega)
  rw [hn] at h1 hp ⊢
  have HN := Lib.hid hn
  have HS0 : Hid (Below w.heap.size w w) := Below.refl _ _
  have HE0 : Hid (len (p.take 0) = 0) := by unfold Hid; simp [len]
  clear hc hn hl
  go_enter Tryz.func20, Tryz.ntmps20
  go_wp2_with fail
  go_loopg [3, 5, 8] n (fun g s3 s5 s8 wr => ∃ (k z : Nat), k ≤ n ∧ n - k ≤ g ∧ s3 = .int .i64 (z : Int) ∧ (∃ q, q = s5) ∧ s8 = .int .i64 (k : Int) ∧ Hid (len (p.take k) = z) ∧ Hid (Below w.heap.size w wr))
  case atStart => exact ⟨0, 0, by omega, by omega, rfl, ⟨_, rfl⟩, rfl, HE0, HS0⟩
  case round =>
    clear HS0 HE0
    obtain ⟨k, z, hk, hkg, rfl, ⟨u5, rfl⟩, rfl, HE, HS⟩ := hrel
    by_cases hlt : k < n
    · obtain ⟨s, hs⟩ : ∃ s, p[k]? = some s := ⟨_, List.getElem?_eq_getElem (by have := HN.out; omega)⟩
      have HLT := Lib.hid (len_take hs)
      have hle := HTL.out (k + 1)
      rw [HLT.out, HE.out] at hle
      obtain ⟨b, off, u, rfl, hb, c0, c1, hu⟩ := HC.out k s hs
      have d0 := carry HS.out c0
      have d1 := carry HS.out c1
      obtain ⟨uad, ucap, hf⟩ := hu.form
      have k0 : (0 : Int) ≤ (k : Int) := by omega
      have k1 : (k : Int) < (n : Int) := by omega
      subst hf
      have HL1 : Hid (len1 s = if s.k = 2 then s.as.length else if s.k = 1 then 1 else 0) := rfl
      have HS1 : Hid (∀ o, Below w.heap.size w (wr.alloc o)) := fun o => below_then HS.out (below_alloc _ o)
      generalize s.as.length = L at *
      obtain ⟨kd, hkd⟩ : ∃ kd, s.k = kd := ⟨_, rfl⟩
      rw [hkd] at d0 HL1
      clear hs c0 c1 hu HS hkd
      by_cases h2 : kd = 2
      · subst h2
        have e1 : len1 s = L := by rw [HL1.out]; rfl
        have HE2 : Hid (len (p.take (k + 1)) = z + L) := by unfold Hid; rw [HLT.out, HE.out, e1]
        rw [e1] at hle
        have e2 : IntKind.i64.wrap ((z : Int) + (L : Int)) = (z : Int) + (L : Int) := IntWalk.i64_in _ (by omega)
        clear HL1 HE HLT e1
        go_wp2_with fail
        go_roundg (n - (k + 1))
        case measure => omega
        case rel => exact ⟨k + 1, z + L, by omega, Nat.le_refl _, by go_num, ⟨_, rfl⟩, by go_num, HE2, HS1.out _⟩
      · have n2 : (kd == 2) = false := by simpa using h2
        by_cases h3 : kd = 1
        · subst h3
          have e1 : len1 s = 1 := by rw [HL1.out]; rfl
          have HE2 : Hid (len (p.take (k + 1)) = z + 1) := by unfold Hid; rw [HLT.out, HE.out, e1]
          rw [e1] at hle
          clear HL1 HE HLT e1
          go_wp2_with fail
          go_roundg (n - (k + 1))
          case measure => omega
          case rel => exact ⟨k + 1, z + 1, by omega, Nat.le_refl _, by go_num, ⟨_, rfl⟩, by go_num, HE2, HS1.out _⟩
        · have n3 : (kd == 1) = false := by simpa using h3
          have e1 : len1 s = 0 := by rw [HL1.out, if_neg h2, if_neg h3]
          have HE2 : Hid (len (p.take (k + 1)) = z) := by unfold Hid; rw [HLT.out, HE.out, e1]; omega
          clear HL1 HE HLT e1
          go_wp2_with fail
          go_roundg (n - (k + 1))
          case measure => omega
          case rel => exact ⟨k + 1, z, by omega, Nat.le_refl _, rfl, ⟨_, rfl⟩, by go_num, HE2, HS1.out _⟩
    · have k1 : decide ((k : Int) < (n : Int)) = false := decide_eq_false (by omega)
      have HZ : Hid (len p = z) := by unfold Hid; rw [← HE.out, List.take_of_length_le (by rw [HN.out]; omega)]
      go_wp2
      go_ret
      exact ⟨by rw [HZ.out] <;> rfl, HS.out⟩
theorem rhas_any (p : List Sg) (v : Value) (x : Int) (w : World) (hv : RdS w v p) (hl : (flat p).length ≤ 2000000) : Calls Tryz.prog 22 #[v, .int .i64 x] w fun e w' => e = .returned (.bool (has p x)) ∧ Below w.heap.size w w' := by
  have HF := Lib.hid (rflat_any p v w hv hl)
  obtain ⟨ad, cap, rfl⟩ := hv.form
  have HH : Hid (has p x = decide (x ∈ flat p)) := rfl
  generalize has p x = q at *
  generalize flat p = l at *
  generalize p.length = n at *
  clear hv
  go_enter Tryz.func22, Tryz.ntmps22
  go_wp2_with fail
  go_at_call 28
  refine HF.out.mono ?_
  rintro e w1 ⟨v1, rfl, hi⟩
  have HB1 := Lib.hid hi.2
  obtain ⟨a1, c1, rfl, r1, r2, hc⟩ := hi.1.rd
  obtain ⟨L, hL⟩ : ∃ L, l.length = L := ⟨_, rfl⟩
  rw [hL] at r1 hl
  have HL := Lib.hid hL
  have HC := Lib.hid hc
  have HA0 : Hid (∀ (j : Nat) (y : Int), j < 0 → l[j]? = some y → y ≠ x) := fun j y h => by omega
  have HS0 : Hid (Below w1.heap.size w1 w1) := Below.refl _ _
  clear hi hc HF r1 r2
  rw [hL]
  clear hL
  go_wp2_with fail
  go_loopg [6, 10] (L + 1) (fun g s6 s10 wr => ∃ k : Nat, k ≤ L ∧ L + 1 - k ≤ g ∧ s10 = .int .i64 (k : Int) ∧ (∃ q, q = s6) ∧ Hid (∀ (j : Nat) (y : Int), j < k → l[j]? = some y → y ≠ x) ∧ Hid (Below w1.heap.size w1 wr))
  case atStart => exact ⟨0, by omega, by omega, rfl, ⟨_, rfl⟩, HA0, HS0⟩
  case round =>
    clear HA0 HS0
    obtain ⟨k, hk, hkg, rfl, ⟨u6, rfl⟩, HA, HS⟩ := hrel
    by_cases hlt : k < L
    · obtain ⟨y, hy⟩ : ∃ y, l[k]? = some y := ⟨_, List.getElem?_eq_getElem (by have := HL.out; omega)⟩
      have HY := Lib.hid hy
      obtain ⟨b, off, rfl, hb, c⟩ := HC.out k y hy
      have d := carry HS.out c
      have k0 : (0 : Int) ≤ (k : Int) := by omega
      have k1 : (k : Int) < (L : Int) := by omega
      clear hy c
      by_cases hxy : y = x
      · have HQ : Hid (q = true) := by show _ = _; rw [HH.out]; exact decide_eq_true (by rw [← hxy]; exact List.mem_of_getElem? HY.out)
        have HB2 := Lib.hid (below_then HB1.out HS.out)
        have e1 : (y == x) = true := by simpa using hxy
        clear HA HY hxy
        go_wp2
        go_ret
        exact ⟨by rw [HQ.out] <;> rfl, HB2.out⟩
      · have e1 : (y == x) = false := by simpa using hxy
        have HA2 : Hid (∀ (j : Nat) (y : Int), j < k + 1 → l[j]? = some y → y ≠ x) := fun j z hj hz => by
          by_cases e : j = k
          · subst e; have := HY.out; rw [hz] at this; cases this; exact hxy
          · exact HA.out j z (by omega) hz
        clear HA HY hxy
        go_wp2_with fail
        go_roundg (L + 1 - (k + 1))
        case measure => omega
        case rel => exact ⟨k + 1, by omega, Nat.le_refl _, by go_num, ⟨_, rfl⟩, HA2, HS⟩
    · have k1 : decide ((k : Int) < (L : Int)) = false := decide_eq_false (by omega)
      have HQ : Hid (q = false) := by
        show _ = _; rw [HH.out]
        refine decide_eq_false fun hm => ?_
        obtain ⟨j, hj⟩ := List.getElem?_of_mem hm
        exact HA.out j x (by have := (List.getElem?_eq_some_iff.1 hj).1; have := HL.out; omega) hj rfl
      have HB2 := Lib.hid (below_then HB1.out HS.out)
      clear HA
      go_wp2
      go_ret
      exact ⟨by rw [HQ.out] <;> rfl, HB2.out⟩
theorem rfirst_any (p : List Sg) (v : Value) (w : World) (hv : RdS w v p) : Calls Tryz.prog 16 #[v] w fun e w' => e = .returned (.tuple #[.int .i64 (fst p).1, .bool (fst p).2]) ∧ Below w.heap.size w w' := by
  obtain ⟨ad, cap, rfl, h1, h2, hc⟩ := hv
  have HC := Lib.hid hc
  have HF : Hid (fst p = match p.find? (fun s => decide (s.k = 2)) with | some s => (match s.as with | x :: _ => (x, true) | [] => (0, false)) | none => (0, false)) := rfl
  generalize fst p = z at *
  obtain ⟨n, hn⟩ : ∃ n, p.length = n := ⟨_, rfl⟩
  rw [hn] at h1 ⊢
  have HN := Lib.hid hn
  have hcap := h2.1
  have HA0 : Hid (∀ (j : Nat) (y : Sg), j < 0 → p[j]? = some y → decide (y.k = 2) = false) := fun j y h => by omega
  have HS0 : Hid (Below w.heap.size w w) := Below.refl _ _
  clear hc hn h2
  go_enter Tryz.func16, Tryz.ntmps16
  go_wp2_with fail
  go_loopg [5, 8] (n + 1) (fun g s5 s8 wr => ∃ k : Nat, k ≤ n ∧ n + 1 - k ≤ g ∧ s8 = .int .i64 (k : Int) ∧ (∃ q, q = s5) ∧ Hid (∀ (j : Nat) (y : Sg), j < k → p[j]? = some y → decide (y.k = 2) = false) ∧ Hid (Below w.heap.size w wr))
  case atStart => exact ⟨0, by omega, by omega, rfl, ⟨_, rfl⟩, HA0, HS0⟩
  case round =>
    clear HA0 HS0
    obtain ⟨k, hk, hkg, rfl, ⟨u5, rfl⟩, HA, HS⟩ := hrel
    by_cases hlt : k < n
    · obtain ⟨s, hs⟩ : ∃ s, p[k]? = some s := ⟨_, List.getElem?_eq_getElem (by have := HN.out; omega)⟩
      have HSS := Lib.hid hs
      obtain ⟨b, off, u, rfl, hbb, c0, c1, hu⟩ := HC.out k s hs
      have d0 := carry HS.out c0
      have d1 := carry HS.out c1
      obtain ⟨uad, ucap, rfl, u1, u2, hcs⟩ := hu
      have HCS := Lib.hid hcs
      have k0 : (0 : Int) ≤ (k : Int) := by omega
      have k1 : (k : Int) < (n : Int) := by omega
      obtain ⟨L, hL⟩ : ∃ L, s.as.length = L := ⟨_, rfl⟩
      rw [hL] at d1 u1
      have HL := Lib.hid hL
      have HS2 := Lib.hid (below_then HS.out (below_alloc wr (.cells #[.int .i64 s.k, .slice uad L ucap] 46)))
      clear hs c0 c1 hcs hL
      by_cases hkd : s.k = 2
      · have HFF := Lib.hid (find_at HSS.out (decide_eq_true hkd) HA.out)
        have HZ : Hid (z = match s.as with | x :: _ => (x, true) | [] => (0, false)) := by show _ = _; rw [HF.out, HFF.out]
        rw [hkd] at d0 HS2
        clear HF HFF HA HSS hkd
        by_cases hl0 : L = 0
        · have hnil : s.as = [] := List.length_eq_zero_iff.1 (by rw [HL.out]; exact hl0)
          have HE : Hid (z = (0, false)) := by show _ = _; rw [HZ.out, hnil]
          subst hl0
          clear HZ hnil
          go_wp2
          go_ret2
          exact ⟨by rw [HE.out] <;> rfl, HS2.out⟩
        · obtain ⟨x, hx⟩ : ∃ x, s.as[0]? = some x := ⟨_, List.getElem?_eq_getElem (by have := HL.out; omega)⟩
          obtain ⟨ub, uo, rfl, hub, x0⟩ := HCS.out 0 x hx
          have x1 : wr.cell? ⟨ub, uo, none⟩ = some (.int .i64 x) := carry HS.out x0
          have HE : Hid (z = (x, true)) := by
            show _ = _; rw [HZ.out]
            cases hq : s.as with
            | nil => rw [hq] at hx; cases hx
            | cons y r => rw [hq] at hx; cases hx; rfl
          have n1 : ((L : Int) == 0) = false := by simpa using hl0
          have n2 : (0 : Int) < (L : Int) := by omega
          have n3 : (L == 0) = false := by simpa using hl0
          have x2 := carry (below_alloc wr (.cells #[.int .i64 2, .slice (some ⟨ub, uo, none⟩) L ucap] 46)) x1
          clear HZ hx x0
          go_wp2
          go_ret2
          exact ⟨by rw [HE.out] <;> rfl, HS2.out⟩
      · have e1 : (s.k == 2) = false := by simpa using hkd
        have HA2 : Hid (∀ (j : Nat) (y : Sg), j < k + 1 → p[j]? = some y → decide (y.k = 2) = false) := fun j y hj hy => by
          by_cases e : j = k
          · subst e; have := HSS.out; rw [hy] at this; cases this; exact decide_eq_false hkd
          · exact HA.out j y (by omega) hy
        clear HA HSS hkd
        go_wp2_with fail
        go_roundg (n + 1 - (k + 1))
        case measure => omega
        case rel => exact ⟨k + 1, by omega, Nat.le_refl _, by go_num, ⟨_, rfl⟩, HA2, HS2⟩
    · have k1 : decide ((k : Int) < (n : Int)) = false := decide_eq_false (by omega)
      have HE : Hid (z = (0, false)) := by
        show _ = _; rw [HF.out, find_none (fun y hy => by
          obtain ⟨j, hj⟩ := List.getElem?_of_mem hy
          exact HA.out j y (by have := (List.getElem?_eq_some_iff.1 hj).1; have := HN.out; omega) hj)]
      clear HA HF
      go_wp2
      go_ret2
      exact ⟨by rw [HE.out] <;> rfl, HS.out⟩
theorem rorigin_any (p : List Sg) (v : Value) (w : World) (hv : RdS w v p) : Calls Tryz.prog 18 #[v] w fun e w' => e = .returned (.tuple #[.int .i64 (org p).1, .bool (org p).2]) ∧ Below w.heap.size w w' := by
  obtain ⟨ad, cap, rfl, h1, h2, hc⟩ := hv
  have HF : Hid (org p = match p.getLast? with | some s => (if s.k = 2 then (match s.as.getLast? with | some x => (x, true) | none => (0, false)) else (0, false)) | none => (0, false)) := rfl
  generalize org p = z at *
  obtain ⟨n, hn⟩ : ∃ n, p.length = n := ⟨_, rfl⟩
  rw [hn] at h1 ⊢
  have h63 := h2.1
  by_cases h0 : n = 0
  · have hp : p = [] := List.length_eq_zero_iff.1 (by omega)
    have HE : Hid (z = (0, false)) := by show _ = _; rw [HF.out, hp]; rfl
    subst h0
    clear HF hc hn hp
    go_enter Tryz.func18, Tryz.ntmps18
    go_wp2
    go_ret2
    exact ⟨by rw [HE.out] <;> rfl, Below.refl _ _⟩
  · obtain ⟨s, hs⟩ : ∃ s, p[n - 1]? = some s := ⟨_, List.getElem?_eq_getElem (by omega)⟩
    have HL : Hid (p.getLast? = some s) := by show _ = _; rw [List.getLast?_eq_getElem?, hn]; exact hs
    obtain ⟨b, off, u, rfl, hbb, c0, c1, hu⟩ := hc (n - 1) s hs
    obtain ⟨uad, ucap, rfl, u1, u2, hcs⟩ := hu
    have k0 : (0 : Int) ≤ (n : Int) - 1 := by omega
    have k1 : (n : Int) - 1 < (n : Int) := by omega
    have k2 : (1 : Int) ≤ (n : Int) := by omega
    have k3 : IntKind.i64.wrap ((n : Int) - 1) = (n : Int) - 1 := IntWalk.i64_in _ (by omega)
    have k4 : ((n : Int) - 1).toNat = n - 1 := by omega
    have k5 : ((n : Int) == 0) = false := by simp; omega
    have k6 : (n == 0) = false := by simp; omega
    have HE0 : Hid (z = if s.k = 2 then (match s.as.getLast? with | some x => (x, true) | none => (0, false)) else (0, false)) := by show _ = _; rw [HF.out, HL.out]
    obtain ⟨L, hL⟩ : ∃ L, s.as.length = L := ⟨_, rfl⟩
    rw [hL] at c1 u1
    have HC := Lib.hid hcs
    have hL63 : L ≤ 9223372036854775807 := by have := u2.1; omega
    have HLn := Lib.hid hL
    have HB1 : Hid (Below w.heap.size w (w.alloc (.cells #[.int .i64 s.k, .slice uad L ucap] 46))) := below_alloc _ _
    clear HF HL hc hn hs hcs hL u2 h2
    by_cases hk2 : s.k = 2
    · have e1 : (s.k != 2) = false := by simpa using hk2
      by_cases hl0 : L = 0
      · have hnil : s.as = [] := List.length_eq_zero_iff.1 (by rw [HLn.out]; exact hl0)
        have HE : Hid (z = (0, false)) := by show _ = _; rw [HE0.out, if_pos hk2, hnil]; rfl
        subst hl0
        clear HE0 hnil
        rw [hk2] at c0 HB1
        go_enter Tryz.func18, Tryz.ntmps18
        go_wp2
        go_ret2
        exact ⟨by rw [HE.out] <;> rfl, HB1.out⟩
      · obtain ⟨x, hx⟩ : ∃ x, s.as[L - 1]? = some x := ⟨_, List.getElem?_eq_getElem (by have := HLn.out; omega)⟩
        obtain ⟨ub, uo, rfl, hub, x0⟩ := HC.out (L - 1) x hx
        have HE : Hid (z = (x, true)) := by show _ = _; rw [HE0.out, if_pos hk2, List.getLast?_eq_getElem?, HLn.out, hx]
        have x1 := carry HB1.out x0
        rw [hk2] at c0 HB1 x1
        have j0 : (0 : Int) ≤ (L : Int) - 1 := by omega
        have j1 : (L : Int) - 1 < (L : Int) := by omega
        have j2 : (1 : Int) ≤ (L : Int) := by omega
        have j3 : IntKind.i64.wrap ((L : Int) - 1) = (L : Int) - 1 := IntWalk.i64_in _ (by omega)
        have j4 : ((L : Int) - 1).toNat = L - 1 := by omega
        have j5 : ((L : Int) == 0) = false := by simp; omega
        have j6 : (L == 0) = false := by simp; omega
        clear HE0 hx hk2 e1
        go_enter Tryz.func18, Tryz.ntmps18
        go_wp2
        go_ret2
        exact ⟨by rw [HE.out] <;> rfl, HB1.out⟩
    · have e1 : (s.k != 2) = true := by simpa using hk2
      have e2 : (s.k == 2) = false := by simpa using hk2
      have HE : Hid (z = (0, false)) := by show _ = _; rw [HE0.out, if_neg hk2]
      clear HE0 hk2
      go_enter Tryz.func18, Tryz.ntmps18
      go_wp2
      go_ret2
      exact ⟨by rw [HE.out] <;> rfl, HB1.out⟩
end
end Go.Proofs.YtaniiennfogjaaaGreatDoor
namespace Go.Proofs.YtaniiennfogjaaaGreatDoor
section
open Go.RowKit P
set_option linter.unusedSimpArgs false
set_option linter.unusedVariables false
set_option maxHeartbeats 1500000
set_option maxRecDepth 100000
/-- 'append(s, x...)' at a step of a region that draws: s the call's own and not nil, numbers -/
theorem step_ints {w : World} {ops : Array Oper} {o : Oper} {a : Act} {K : Act → World → Prop} {Q : Exit → Act → World → Prop} {E : Prop} (hgd : o.guard = none) (s x : Operand)
    (ho : o.op = .call { callee := .builtin .append, args := #[s, x], argTypes := #[34, 34] }) (B : Nat) (hB : B ≤ w.heap.size)
    (g0 c0 : Nat) (hs : a.eval s = .slice (some ⟨g0, 0, none⟩) 0 c0) (hown : w.ownsRow B 3 1 (.slice (some ⟨g0, 0, none⟩) 0 c0) 0 []) (vx : Value) (m : List Int) (hx : a.eval x = vx) (hr : RdI w vx m) (hlen : m.length ≤ 2000000)
    (h : ∀ g cap w', OwnI B w' (.slice (some ⟨g, 0, none⟩) m.length cap) m → Below B w w' → K (a.put o.dst (.slice (some ⟨g, 0, none⟩) m.length cap)) w') : if Region.wanted o (yielded ops a.tmps) = true then Oper.wp Tryz.prog o a w K Q else E := by
  obtain ⟨i0, hi, hz0, hz1, hz2⟩ := infoE_parts info3
  obtain ⟨ad, cap, e, hcap, ⟨h63, hnil⟩, hc⟩ := id hr
  subst e
  have hw : Region.wanted o (yielded ops a.tmps) = true := by simp [Region.wanted, hgd]
  have hown0 : OwnI B w (.slice (some ⟨g0, 0, none⟩) 0 c0) [] := ⟨hB, hown⟩
  cases ad with
  | none =>
    have h0 : m = [] := by
      cases m with
      | nil => rfl
      | cons y r => obtain ⟨b, off, e, _⟩ := hc 0 y rfl; cases e
    subst h0
    have hcap : cap = 0 := hnil rfl
    subst hcap
    have hrun := run_append_owned_none (P := Tryz.prog) (w := w) B 34 o.type 3 i0 1 Tryz.underlying34 hi _ 0 [] hown
    rw [if_pos hw]
    unfold Oper.wp
    have hx' : a.eval x = .slice none 0 0 := hx
    simp [execOp, ho, resolve, invoke, builtin, hs, hx', hrun, Result.andThen]
    exact h g0 c0 w hown0 (Below.refl _ _)
  | some A =>
    by_cases h0 : m.length = 0
    · have hm0 : m = [] := List.length_eq_zero_iff.1 h0
      subst hm0
      have hrun := run_append_owned_zero (P := Tryz.prog) (w := w) B 34 o.type 3 i0 1 Tryz.underlying34 hi _ 0 [] hown A cap
      rw [if_pos hw]
      unfold Oper.wp
      have hx' : a.eval x = .slice (some A) 0 cap := hx
      simp [execOp, ho, resolve, invoke, builtin, hs, hx', hrun, Result.andThen]
      exact h g0 c0 w hown0 (Below.refl _ _)
    · have hsp : ∀ j u, (ints m)[j]? = some u → w.cell? (A.add j) = some u := fun j u hj => by
        unfold ints at hj
        rw [List.getElem?_map] at hj
        cases hx : m[j]? with
        | none => rw [hx] at hj; cases hj
        | some y =>
          rw [hx] at hj
          obtain rfl := Option.some.inj hj
          obtain ⟨b, off, e, _, hcell⟩ := hc j y hx
          injection e with e
          subst e
          rw [Addr.add_lit]; exact hcell
      refine step_append_lies w hgd s x 34 ho B 3 i0 (.int .i64 0) 1 8 Tryz.underlying34 hi hz0 hz1 hz2 rfl (by decide) _ 0 [] hs hown A m.length cap (ints m) hx (by simp [ints]) hsp (ints_one m) (by omega) (by unfold maxLen; omega) (by omega) hB w.heap.size rfl fun g' cap' w' h1 h2 _ _ => ?_
      have hb := (Below.refl _ w).grown h2 hB (fun k hk => (row_lt hown hk).1)
      rw [Nat.zero_add] at h1 ⊢
      exact h g' cap' w' ⟨Nat.le_trans hB hb.size, by simpa using h1⟩ hb
/-- a segment behind a row of the call's own, at a step of a region that draws -/
theorem step_seg {w : World} {ops : Array Oper} {o : Oper} {a : Act} {K : Act → World → Prop} {Q : Exit → Act → World → Prop} {E : Prop} (hgd : o.guard = none) (s x : Operand)
    (ho : o.op = .call { callee := .builtin .append, args := #[s, x], argTypes := #[22, 22] }) (B : Nat) (hB : B ≤ w.heap.size)
    (v : Value) (p : List Sg) (hs : a.eval s = v) (hown : OwnP B w v p) (c : Nat) (kd : Int) (u : Value) (ns : List Int) (hx : a.eval x = .slice (some ⟨c, 0, none⟩) 1 1) (hc0 : w.cell? ⟨c, 0, none⟩ = some (.int .i64 kd)) (hc1 : w.cell? ⟨c, 1, none⟩ = some u)
    (hu : ∀ g, (v.ownBlock = some g ∨ (v.ownBlock = none ∧ g = w.heap.size)) → RdN g w u ns) (hlen : p.length ≤ 2000000)
    (h : ∀ g cap w', OwnP B w' (.slice (some ⟨g, 0, none⟩) (p.length + 1) cap) (p ++ [⟨kd, ns⟩]) → Below B w w' → K (a.put o.dst (.slice (some ⟨g, 0, none⟩) (p.length + 1) cap)) w') : if Region.wanted o (yielded ops a.tmps) = true then Oper.wp Tryz.prog o a w K Q else E := by
  obtain ⟨i0, hi, hz0, hz1, hz2⟩ := infoE_parts info46
  obtain ⟨g, q, hq, hrow, hgq⟩ : ∃ g q, Prs g w q p ∧ w.ownsRow B 46 2 v p.length (flatQ q) ∧ (v.ownBlock = some g ∨ (v.ownBlock = none ∧ g = w.heap.size)) := by
    rcases hown.2 with ⟨rfl, rfl⟩ | ⟨g, cap, q, rfl, ho', hp⟩
    · exact ⟨w.heap.size, [], ⟨rfl, fun k s hk => by simp at hk⟩, World.ownsRow_nil _ _ _ _, .inr ⟨rfl, rfl⟩⟩
    · exact ⟨g, q, hp, ho', .inl rfl⟩
  have hug := hu g hgq
  have hone : ∀ x ∈ [Value.int .i64 kd, u], x.oneCell' = true := by
    intro x hx
    obtain ⟨ad, cap, e, _⟩ := hug
    simp at hx
    rcases hx with rfl | rfl
    · rfl
    · subst e; rfl
  have hcell : ∀ j x, [Value.int .i64 kd, u][j]? = some x → w.cell? ((⟨c, 0, none⟩ : Addr).add j) = some x := by
    intro j x hj
    match j, hj with
    | 0, hj => simp at hj; subst hj; rw [Addr.add_lit]; exact hc0
    | 1, hj => simp at hj; subst hj; rw [Addr.add_lit]; exact hc1
    | j + 2, hj => simp at hj
  refine step_append_lies _ hgd s x 22 ho B 46 i0 (.agg #[.int .i64 0, .slice none 0 0]) 2 32 Tryz.underlying22 hi hz0 hz1 hz2 rfl (by decide) v p.length (flatQ q) hs hrow ⟨c, 0, none⟩ 1 1 [.int .i64 kd, u] hx rfl hcell hone (by decide) (by unfold maxLen; omega) (by omega) hB w.heap.size rfl fun g' cap' w' h1 h2 h3 h4 => ?_
  have hb : Below B w w' := (Below.refl _ w).grown h2 hB (fun k hk => (row_lt hrow hk).1)
  have hgg : g' = g ∨ g' = w.heap.size := by
    rcases h3 with e | e
    · rcases hgq with e2 | ⟨e2, _⟩
      · rw [e] at e2; cases e2; exact .inl rfl
      · rw [e] at e2; cases e2
    · exact .inr e
  have hrk : ∀ k, v.ownBlock = some k → k = g ∨ False := fun k hk => by
    rcases hgq with e2 | ⟨e2, _⟩
    · rw [hk] at e2; cases e2; exact .inl rfl
    · rw [hk] at e2; cases e2
  refine h _ _ _ ⟨Nat.le_trans hB hb.size, .inr ⟨g', cap', q ++ [(kd, u)], by rw [List.length_append]; rfl, ?_, ?_⟩⟩ hb
  · rw [flatQ_app, List.length_append]; exact h1
  · refine ⟨by rw [List.length_append, List.length_append, hq.1]; rfl, fun k s hk => ?_⟩
    by_cases hkl : k < p.length
    · rw [List.getElem?_append_left hkl] at hk
      obtain ⟨u', e1, e2⟩ := hq.2 k s hk
      exact ⟨u', by rw [List.getElem?_append_left (by rw [hq.1]; exact hkl)]; exact e1, e2.grown h2 (fun j hj => (hrk j hj).elim id False.elim) hgg⟩
    · have hk2 := (List.getElem?_eq_some_iff.1 hk).1
      rw [List.length_append] at hk2
      have e : k = p.length := by simp at hk2; omega
      subst e
      rw [List.getElem?_append_right (Nat.le_refl _), Nat.sub_self] at hk
      cases hk
      exact ⟨u, by rw [List.getElem?_append_right (by rw [hq.1]; exact Nat.le_refl _), hq.1, Nat.sub_self]; rfl, hug.grown h2 (fun j hj => (hrk j hj).elim id False.elim) hgg⟩
end
end Go.Proofs.YtaniiennfogjaaaGreatDoor
namespace Go.Proofs.YtaniiennfogjaaaGreatDoor
section
open Go.RowKit P
set_option linter.unusedSimpArgs false
set_option linter.unusedVariables false
set_option maxHeartbeats 1500000
set_option maxRecDepth 100000
theorem rclone_any (p : List Sg) (v : Value) (w : World) (hl : p.length ≤ 2000000) (hf : (flat p).length ≤ 2000000) (hv : RdS w v p) :
    Calls Tryz.prog 52 #[v] w fun e w' => ∃ v', e = .returned v' ∧ OwnP w.heap.size w' v' p ∧ Below w.heap.size w w' := by
  obtain ⟨ad, cap, rfl, h1, h2, hc⟩ := hv
  have HC := Lib.hid hc
  obtain ⟨n, hn⟩ : ∃ n, p.length = n := ⟨_, rfl⟩
  rw [hn] at h1 hl ⊢
  have HN := Lib.hid hn
  have HLE := Lib.hid (flat_all_le hf)
  have HO0 : Hid (OwnP w.heap.size w (.slice none 0 0) (p.take 0)) := by show OwnP _ _ _ _; rw [List.take_zero]; exact OwnP.nil _ _ (Nat.le_refl _)
  have HS0 : Hid (Below w.heap.size w w) := Below.refl _ _
  clear hc hn hf h2
  go_enter Tryz.func52, Tryz.ntmps52
  go_wp2_with fail
  go_loopg [3, 5, 8] (n + 1) (fun g s3 s5 s8 wr => ∃ (k : Nat) (v3 : Value), k ≤ n ∧ n + 1 - k ≤ g ∧ v3 = s3 ∧ (∃ q, q = s5) ∧ s8 = .int .i64 (k : Int) ∧ Hid (OwnP w.heap.size wr v3 (p.take k)) ∧ Hid (Below w.heap.size w wr))
  case atStart => exact ⟨0, _, by omega, by omega, rfl, ⟨_, rfl⟩, rfl, HO0, HS0⟩
  case round =>
    clear HO0 HS0
    obtain ⟨k, v3, hk, hkg, rfl, ⟨u5, rfl⟩, rfl, HO, HS⟩ := hrel
    by_cases hlt : k < n
    · obtain ⟨s, hs⟩ : ∃ s, p[k]? = some s := ⟨_, List.getElem?_eq_getElem (by have := HN.out; omega)⟩
      have HTK : Hid (p.take (k + 1) = p.take k ++ [s]) := by show _ = _; rw [List.take_add_one, hs]; rfl
      have hsl := HLE.out k s hs
      obtain ⟨b, off, u, rfl, hbb, c0, c1, hu⟩ := HC.out k s hs
      have d0 := carry HS.out c0
      have d1 := carry HS.out c1
      have k0 : (0 : Int) ≤ (k : Int) := by omega
      have k1 : (k : Int) < (n : Int) := by omega
      obtain ⟨uad, ucap, hff⟩ := hu.form
      subst hff
      obtain ⟨ns, hns⟩ : ∃ ns, s.as = ns := ⟨_, rfl⟩
      obtain ⟨kd, hkd⟩ : ∃ kd, s.k = kd := ⟨_, rfl⟩
      have hse : s = ⟨kd, ns⟩ := by rw [← hns, ← hkd]
      rw [hns] at hu d1 hsl
      rw [hkd] at d0
      have HSE := Lib.hid hse
      obtain ⟨pre, hpre⟩ : ∃ pre, p.take k = pre := ⟨_, rfl⟩
      rw [hpre] at HO HTK
      have hpl : pre.length ≤ 2000000 := by rw [← hpre, List.length_take]; have := HN.out; omega
      obtain ⟨L, hL⟩ : ∃ L, ns.length = L := ⟨_, rfl⟩
      rw [hL] at d1 hu hsl
      have HL := Lib.hid hL
      have HUw := Lib.hid hu
      clear hu c0 c1 hs hns hkd hse hpre hL
      go_wp2_with fail
      have hbw : Below wr.heap.size wr (wr.alloc (.cells #[.int .i64 kd, .slice uad L ucap] 46)) := below_alloc _ _
      have f0 : (wr.alloc (.cells #[.int .i64 kd, .slice uad L ucap] 46)).cell? ⟨wr.heap.size, 0, none⟩ = some (.int .i64 kd) := cell_of (heap_alloc_new _ _) rfl
      have f1 : (wr.alloc (.cells #[.int .i64 kd, .slice uad L ucap] 46)).cell? ⟨wr.heap.size, 1, none⟩ = some (.slice uad L ucap) := cell_of (heap_alloc_new _ _) rfl
      have hbz : wr.heap.size < (wr.alloc (.cells #[.int .i64 kd, .slice uad L ucap] 46)).heap.size := by simp
      have HOW := Lib.hid (HO.out.below hbw)
      have HBW := Lib.hid (below_then HS.out hbw)
      clear HO d0 d1
      generalize hWb : wr.alloc (.cells #[.int .i64 kd, .slice uad L ucap] 46) = Wb at *
      have hX : Below Wb.heap.size Wb (Wb.drew.alloc (.cells #[] 3)) := (Below.refl _ Wb).drew.alloc (Nat.le_refl _) _
      have a0 := carry hX f0
      have a1 := carry hX f1
      have HO1 : Hid ((Wb.drew.alloc (.cells #[] 3)).ownsRow Wb.heap.size 3 1 (.slice (some ⟨Wb.heap.size, 0, none⟩) 0 0) 0 []) := World.ownsRow_made Wb.drew #[] 0 (Nat.le_refl _) (Nat.zero_le _) (by simp)
      have HR1 : Hid (RdI (Wb.drew.alloc (.cells #[] 3)) (.slice uad L ucap) ns) := HUw.out.below (HBW.out.trans (hX.mono HBW.out.size))
      have HB1 : Hid (Wb.heap.size ≤ (Wb.drew.alloc (.cells #[] 3)).heap.size) := hX.size
      have HLL : Hid (ns.length ≤ 2000000) := by show _ ≤ _; rw [HL.out]; exact hsl
      have HP1 : Hid (∀ (w1 : World) (g1 e1 : Nat), OwnI Wb.heap.size w1 (.slice (some ⟨g1, 0, none⟩) ns.length e1) ns → Below Wb.heap.size (Wb.drew.alloc (.cells #[] 3)) w1 →
          OwnP w.heap.size (w1.alloc (.cells #[.int .i64 kd, .slice (some ⟨g1, 0, none⟩) ns.length e1] 46)) v3 pre ∧ Below w.heap.size w (w1.alloc (.cells #[.int .i64 kd, .slice (some ⟨g1, 0, none⟩) ns.length e1] 46)) ∧
          (w1.alloc (.cells #[.int .i64 kd, .slice (some ⟨g1, 0, none⟩) ns.length e1] 46)).cell? ⟨w1.heap.size, 0, none⟩ = some (.int .i64 kd) ∧ (w1.alloc (.cells #[.int .i64 kd, .slice (some ⟨g1, 0, none⟩) ns.length e1] 46)).cell? ⟨w1.heap.size, 1, none⟩ = some (.slice (some ⟨g1, 0, none⟩) ns.length e1) ∧
          (∀ g, (v3.ownBlock = some g ∨ (v3.ownBlock = none ∧ g = (w1.alloc (.cells #[.int .i64 kd, .slice (some ⟨g1, 0, none⟩) ns.length e1] 46)).heap.size)) → RdN g (w1.alloc (.cells #[.int .i64 kd, .slice (some ⟨g1, 0, none⟩) ns.length e1] 46)) (.slice (some ⟨g1, 0, none⟩) ns.length e1) ns) ∧
          w1.cell? ⟨wr.heap.size, 0, none⟩ = some (.int .i64 kd)) := fun w1 g1 e1 h1 h2 => by
        have hbb : Below Wb.heap.size Wb w1 := hX.trans h2
        have hba : Below Wb.heap.size Wb (w1.alloc (.cells #[.int .i64 kd, .slice (some ⟨g1, 0, none⟩) ns.length e1] 46)) := hbb.alloc hbb.size _
        refine ⟨HOW.out.below hba, HBW.out.trans (hba.mono HBW.out.size), cell_of (heap_alloc_new _ _) rfl, cell_of (heap_alloc_new _ _) rfl, fun g hg => ?_, carry hbb f0⟩
        rcases hg with e | ⟨_, e⟩
        · have hgl : g < Wb.heap.size := by
            rcases HOW.out.2 with ⟨e2, _⟩ | ⟨g', cap', q', e2, ho', _⟩
            · rw [e2] at e; cases e
            · rw [e2] at e; cases e; exact (ownsRow_lt (e2 ▸ ho')).2
          exact (h1.away hgl).below (below_alloc _ _)
        · rw [e]
          exact h1.rd.away (by simp) (below_alloc _ _)
      clear hX HOW HBW HUw hWb
      go_region_law (first
        | (refine step_ints (by rfl) (.tmp 15) (.tmp 17) (by rfl) Wb.heap.size HB1.out Wb.heap.size 0 (by rfl) HO1.out (.slice uad L ucap) ns (by rfl) HR1.out HLL.out ?_; intro g1 e1 w1 hx1 hx2; have P1 := Lib.hid (HP1.out w1 g1 e1 hx1 hx2); have q0 := P1.out.2.2.2.2.2; clear hx1 hx2)
        | (refine step_seg (by rfl) (.tmp 12) (.tmp 20) (by rfl) w.heap.size P1.out.2.1.size v3 pre (by rfl) P1.out.1 w1.heap.size kd _ ns (by rfl) P1.out.2.2.1 P1.out.2.2.2.1 P1.out.2.2.2.2.1 hpl ?_; intro g2 e2 w2 hy1 hy2; have P2 := Lib.hid (And.intro hy1 (P1.out.2.1.trans hy2)); clear hy1 hy2))
      all_goals (
        have HO3 : Hid (OwnP w.heap.size w2 (.slice (some ⟨g2, 0, none⟩) (pre.length + 1) e2) (p.take (k + 1))) := by
          show OwnP _ _ _ _; rw [HTK.out, HSE.out]; exact P2.out.1
        go_wp2_with fail
        go_roundg (n + 1 - (k + 1))
        case measure => omega
        case rel => exact ⟨k + 1, _, by omega, Nat.le_refl _, rfl, ⟨_, rfl⟩, by go_num, HO3, P2.out.2⟩)
    · have k1 : decide ((k : Int) < (n : Int)) = false := decide_eq_false (by omega)
      have HE : Hid (p.take k = p) := by show _ = _; rw [List.take_of_length_le (by rw [HN.out]; omega)]
      have HO2 : Hid (OwnP w.heap.size wr v3 p) := HE.out ▸ HO.out
      clear HO
      go_wp2
      go_ret
      exact ⟨_, rfl, HO2.out, HS.out⟩
theorem P.strip_len (p : List Sg) : (strip p).length ≤ p.length := List.length_filter_le _ _
theorem P.strip_flat : ∀ p : List Sg, (flat (strip p)).length ≤ (flat p).length
  | [] => Nat.le_refl _
  | s :: p => by
    have ih := strip_flat p
    unfold strip at *
    rw [List.filter_cons]
    split
    · rw [flat_cons, flat_cons, List.length_append, List.length_append]; omega
    · rw [flat_cons, List.length_append]; omega
theorem rstrip_any (p : List Sg) (v : Value) (w : World) (hl : p.length ≤ 2000000) (hf : (flat p).length ≤ 2000000) (hv : RdS w v p) :
    Calls Tryz.prog 25 #[v] w fun e w' => ∃ v', e = .returned v' ∧ RdS w' v' (strip p) ∧ Below w.heap.size w w' := by
  have HCL : Hid (∀ (W : World) (u : Value), RdS W u (strip p) → Calls Tryz.prog 52 #[u] W fun e w' => ∃ v', e = .returned v' ∧ OwnP W.heap.size w' v' (strip p) ∧ Below W.heap.size W w') := fun W u h => rclone_any _ u W (Nat.le_trans (strip_len p) hl) (Nat.le_trans (strip_flat p) hf) h
  obtain ⟨ad, cap, rfl, h1, h2, hc⟩ := hv
  have HC := Lib.hid hc
  obtain ⟨n, hn⟩ : ∃ n, p.length = n := ⟨_, rfl⟩
  rw [hn] at h1 hl ⊢
  have HN := Lib.hid hn
  have HO0 : Hid (OwnP w.heap.size w (.slice none 0 0) (strip (p.take 0))) := by show OwnP _ _ _ _; rw [List.take_zero]; exact OwnP.nil _ _ (Nat.le_refl _)
  have HS0 : Hid (Below w.heap.size w w) := Below.refl _ _
  clear hc hn hf h2
  go_enter Tryz.func25, Tryz.ntmps25
  go_wp2_with fail
  go_loopg [3, 5, 8] (n + 1) (fun g s3 s5 s8 wr => ∃ (k : Nat) (v3 : Value), k ≤ n ∧ n + 1 - k ≤ g ∧ v3 = s3 ∧ (∃ q, q = s5) ∧ s8 = .int .i64 (k : Int) ∧ Hid (OwnP w.heap.size wr v3 (strip (p.take k))) ∧ Hid (Below w.heap.size w wr))
  case atStart => exact ⟨0, _, by omega, by omega, rfl, ⟨_, rfl⟩, rfl, HO0, HS0⟩
  case round =>
    clear HO0 HS0
    obtain ⟨k, v3, hk, hkg, rfl, ⟨u5, rfl⟩, rfl, HO, HS⟩ := hrel
    by_cases hlt : k < n
    · obtain ⟨s, hs⟩ : ∃ s, p[k]? = some s := ⟨_, List.getElem?_eq_getElem (by have := HN.out; omega)⟩
      have HTK := Lib.hid (strip_snoc hs)
      obtain ⟨b, off, u, rfl, hbb, c0, c1, hu⟩ := HC.out k s hs
      have d0 := carry HS.out c0
      have d1 := carry HS.out c1
      have k0 : (0 : Int) ≤ (k : Int) := by omega
      have k1 : (k : Int) < (n : Int) := by omega
      have HUw := Lib.hid hu
      obtain ⟨uad, ucap, hff⟩ := hu.form
      subst hff
      obtain ⟨ns, hns⟩ : ∃ ns, s.as = ns := ⟨_, rfl⟩
      obtain ⟨kd, hkd⟩ : ∃ kd, s.k = kd := ⟨_, rfl⟩
      have hse : s = ⟨kd, ns⟩ := by rw [← hns, ← hkd]
      rw [hns] at d1 HUw
      rw [hkd] at d0 HTK
      have HSE := Lib.hid hse
      obtain ⟨pre, hpre⟩ : ∃ pre, strip (p.take k) = pre := ⟨_, rfl⟩
      have hpl : pre.length ≤ 2000000 := by
        rw [← hpre]; refine Nat.le_trans (strip_len _) ?_; rw [List.length_take]; have := HN.out; omega
      rw [hpre] at HO HTK
      have HCF : Hid (∀ W, Calls Tryz.prog 51 #[.int .i64 kd] W fun e w' => e = .returned (.bool (isConf kd)) ∧ w' = W) := fun W => conf51_same kd W
      obtain ⟨L, hL⟩ : ∃ L, ns.length = L := ⟨_, rfl⟩
      rw [hL] at d1 HUw
      have HB1 : Hid (∀ o, OwnP w.heap.size (wr.alloc o) v3 pre ∧ Below w.heap.size w (wr.alloc o)) := fun o => ⟨HO.out.below (below_alloc _ _), below_then HS.out (below_alloc _ _)⟩
      clear hu c0 c1 hs hns hkd hse hpre hL HO HS
      cases hcf : isConf kd with
      | true =>
        rw [hcf] at HCF HTK
        have HO2 : Hid (OwnP w.heap.size (wr.alloc (.cells #[.int .i64 kd, .slice uad L ucap] 46)) v3 (strip (p.take (k + 1)))) := by
          show OwnP _ _ _ _; rw [HTK.out]; simpa using (HB1.out _).1
        have HS2 := Lib.hid (HB1.out (.cells #[.int .i64 kd, .slice uad L ucap] 46)).2
        clear HB1 HTK hcf
        go_wp2_with fail
        go_at_call 51
        refine (HCF.out _).mono ?_
        rintro e w2 ⟨rfl, rfl⟩
        go_wp2_with fail
        go_roundg (n + 1 - (k + 1))
        case measure => omega
        case rel => exact ⟨k + 1, _, by omega, Nat.le_refl _, rfl, ⟨_, rfl⟩, by go_num, HO2, HS2⟩
      | false =>
        rw [hcf] at HCF HTK
        have HTK2 : Hid (strip (p.take (k + 1)) = pre ++ [⟨kd, ns⟩]) := by
          show _ = _; rw [HTK.out, HSE.out]; rfl
        clear HTK hcf HSE
        have H0 := Lib.hid (HB1.out (.cells #[.int .i64 kd, .slice uad L ucap] 46))
        have f0 : (wr.alloc (.cells #[.int .i64 kd, .slice uad L ucap] 46)).cell? ⟨wr.heap.size, 0, none⟩ = some (.int .i64 kd) := cell_of (heap_alloc_new _ _) rfl
        have f1 : (wr.alloc (.cells #[.int .i64 kd, .slice uad L ucap] 46)).cell? ⟨wr.heap.size, 1, none⟩ = some (.slice uad L ucap) := cell_of (heap_alloc_new _ _) rfl
        clear HB1
        go_wp2_with fail
        go_at_call 51
        refine (HCF.out _).mono ?_
        rintro e w2 ⟨rfl, rfl⟩
        clear HCF
        generalize hWb : wr.alloc (.cells #[.int .i64 kd, .slice uad L ucap] 46) = Wb at *
        have H1 : Hid (OwnP w.heap.size (Wb.alloc (.cells #[.int .i64 kd, .slice uad L ucap] 46)) v3 pre ∧ Below w.heap.size w (Wb.alloc (.cells #[.int .i64 kd, .slice uad L ucap] 46))) := ⟨H0.out.1.below (below_alloc _ _), below_then H0.out.2 (below_alloc _ _)⟩
        have H2 : Hid (∀ g, (v3.ownBlock = some g ∨ (v3.ownBlock = none ∧ g = (Wb.alloc (.cells #[.int .i64 kd, .slice uad L ucap] 46)).heap.size)) → RdN g (Wb.alloc (.cells #[.int .i64 kd, .slice uad L ucap] 46)) (.slice uad L ucap) ns) := (fun g hg => HUw.out.away (hg.elim (fun e => H1.out.1.lt e) (fun e => by have h2 := e.2; have := H1.out.2.size; omega)) H1.out.2)
        have H3 : Hid ((Wb.alloc (.cells #[.int .i64 kd, .slice uad L ucap] 46)).cell? ⟨Wb.heap.size, 0, none⟩ = some (.int .i64 kd) ∧ (Wb.alloc (.cells #[.int .i64 kd, .slice uad L ucap] 46)).cell? ⟨Wb.heap.size, 1, none⟩ = some (.slice uad L ucap)) := ⟨cell_of (heap_alloc_new _ _) rfl, cell_of (heap_alloc_new _ _) rfl⟩
        clear hWb HUw H0 d0 d1
        go_wp2_with (at_builtin; refine append_seg rfl (.tmp 16) (.tmp 18) rfl w.heap.size H1.out.2.size v3 pre rfl H1.out.1 Wb.heap.size kd (.slice uad L ucap) ns rfl H3.out.1 H3.out.2 H2.out hpl ?_; intro v2 w2 hown hgrow hbl hbk; have S2 : Hid (OwnP w.heap.size w2 v2 (strip (p.take (k + 1)))) := (by show OwnP _ _ _ _; rw [HTK2.out]; exact hown); have B2 : Hid (Below w.heap.size w w2) := H1.out.2.trans hbl; clear hown hgrow hbl hbk)
        go_roundg (n + 1 - (k + 1))
        case measure => omega
        case rel => exact ⟨k + 1, _, by omega, Nat.le_refl _, rfl, ⟨_, rfl⟩, by go_num, S2, B2⟩
    · have k1 : decide ((k : Int) < (n : Int)) = false := decide_eq_false (by omega)
      have HE : Hid (p.take k = p) := by show _ = _; rw [List.take_of_length_le (by rw [HN.out]; omega)]
      have HO2 : Hid (OwnP w.heap.size wr v3 (strip p)) := HE.out ▸ HO.out
      have HK := Lib.hid (HCL.out wr v3 HO2.out.rd)
      obtain ⟨va, vc, hvf⟩ := HO2.out.rd.form
      subst hvf
      clear HO HCL HO2
      go_wp2_with fail
      go_at_call 52
      refine HK.out.mono ?_
      rintro e w2 ⟨v2, rfl, ho, hb⟩
      have HR : Hid (RdS w2 v2 (strip p) ∧ Below w.heap.size w w2) := ⟨ho.rd, below_then HS.out hb⟩
      obtain ⟨va2, vc2, hvf2⟩ := ho.rd.form
      subst hvf2
      clear ho hb HK
      go_wp2
      go_ret
      exact ⟨_, rfl, HR.out.1, HR.out.2⟩
end
end Go.Proofs.YtaniiennfogjaaaGreatDoor
namespace Go.Proofs.YtaniiennfogjaaaGreatDoor
section
open Go.RowKit P
set_option linter.unusedSimpArgs false
set_option linter.unusedVariables false
set_option maxHeartbeats 1500000
set_option maxRecDepth 100000
theorem rseqs_any (kd : Int) (l : List Int) (v : Value) (w : World) (hr : RdI w v l) (hl : l.length ≤ 2000000) :
    Calls Tryz.prog 58 #[.int .i64 kd, v] w fun e w' => ∃ v', e = .returned v' ∧ OwnP w.heap.size w' v' (seqs kd l) ∧ Below w.heap.size w w' := by
  have HR0 := Lib.hid hr
  have HO0 : Hid (OwnP w.heap.size w (.slice none 0 0) []) := OwnP.nil _ _ (Nat.le_refl _)
  obtain ⟨Z, hZ⟩ : ∃ Z, seqs kd l = Z := ⟨_, rfl⟩
  have HE0 : Hid (([] : List Sg) ++ seqs kd l = Z) := hZ
  rw [hZ]
  have HB0 : Hid (Below w.heap.size w w) := Below.refl _ _
  obtain ⟨ad0, cap0, hf0⟩ := hr.form
  subst hf0
  clear hr hZ
  go_enter Tryz.func58, Tryz.ntmps58
  go_wp2_with fail
  go_loopg [1, 5, 6] (l.length + 1) (fun g s1 s5 s6 wr => ∃ (r : List Int) (o : List Sg) (v1 v5 : Value), o.length + r.length ≤ 2000000 ∧ r.length + 1 ≤ g ∧ v1 = s1 ∧ v5 = s5 ∧ (∃ q, q = s6) ∧ Hid (RdI w v1 r) ∧ Hid (OwnP w.heap.size wr v5 o) ∧ Hid (o ++ seqs kd r = Z) ∧ Hid (Below w.heap.size w wr))
  case atStart => exact ⟨l, [], _, _, by simpa using hl, by omega, rfl, rfl, ⟨_, rfl⟩, HR0, HO0, HE0, HB0⟩
  case round =>
    clear HR0 HO0 HE0 HB0 hl
    obtain ⟨r, o, v1, v5, hlen, hg, rfl, rfl, ⟨u6, rfl⟩, HR, HO, HE, HB⟩ := hrel
    obtain ⟨ad, cap, rfl, h1, h2, hc⟩ := HR.out
    obtain ⟨R, hR⟩ : ∃ R, r.length = R := ⟨_, rfl⟩
    have HRl := Lib.hid hR
    have hcap := h2.1
    rw [hR] at h1 hlen HR hg ⊢
    obtain ⟨oad, ocap, hof⟩ := HO.out.rd.form
    by_cases h0 : R = 0
    · have hr0 : r = [] := List.length_eq_zero_iff.1 (by rw [hR]; exact h0)
      subst hr0
      have HZ : Hid (o = Z) := by show _ = _; rw [← HE.out, seqs_nil, List.append_nil]
      have k1 : decide ((0 : Int) < ((List.length ([] : List Int) : Nat) : Int)) = false := rfl
      have HO2 : Hid (OwnP w.heap.size wr v5 Z) := HZ.out ▸ HO.out
      clear hof
      clear HR HO HE hc h2 hR h1
      go_wp2
      go_ret
      exact ⟨_, rfl, HO2.out, HB.out⟩
    · have hne : r ≠ [] := fun e => h0 (by rw [← hR, e]; rfl)
      obtain ⟨x, hx⟩ : ∃ x, r[0]? = some x := ⟨_, List.getElem?_eq_getElem (by omega)⟩
      obtain ⟨b, off, rfl, hb, hcell⟩ := hc 0 x hx
      have HSC := Lib.hid (seqs_cons kd hne)
      obtain ⟨n, hn⟩ : ∃ n, n = min R 255 := ⟨_, rfl⟩
      have HT : Hid (r.take 255 = r.take n ∧ r.drop 255 = r.drop n) := by
        by_cases h255 : R ≤ 255
        · have e : n = R := by omega
          have : r.length ≤ 255 := by omega
          rw [List.take_of_length_le this, List.drop_eq_nil_of_le this, List.take_of_length_le (by omega), List.drop_eq_nil_of_le (by omega)]
          exact ⟨rfl, rfl⟩
        · have e : n = 255 := by omega
          rw [e]; exact ⟨rfl, rfl⟩
      have hnR : n ≤ R := by omega
      have hn0 : 0 < n := by omega
      have hmi : min (R : Int) 255 = (n : Int) := by omega
      have hmi2 : (if (255 : Int) < (R : Int) then (255 : Int) else (R : Int)) = (n : Int) := by split <;> omega
      have HU : Hid (RdI w (.slice (some ⟨b, off, none⟩) n cap) (r.take 255)) := by
        have := HR.out.part 0 n cap (by omega) (by omega) (by omega)
        show RdI _ _ _
        rw [HT.out.1]; simpa using this
      have HD1 : Hid (RdI w (.slice (some ⟨b, off + n, none⟩) (R - n) (cap - n)) (r.drop 255)) := by
        have := HR.out.part n (R - n) (cap - n) (by omega) (by omega) (by omega)
        show RdI _ _ _
        rw [HT.out.2]
        rw [List.take_of_length_le (by rw [List.length_drop]; omega)] at this
        exact this
      have HD2 : Hid (R = n → ∀ c, c ≤ 9223372036854775807 → RdI w (.slice (some ⟨b, off, none⟩) 0 c) (r.drop 255)) := fun e c hc => by
        rw [HT.out.2, List.drop_eq_nil_of_le (by omega)]; exact rdi_empty ⟨hc, fun e => by cases e⟩
      have HE2 : Hid (o ++ [⟨kd, r.take 255⟩] ++ seqs kd (r.drop 255) = Z) := by show _ = _; rw [← HE.out, HSC.out, List.append_assoc]; rfl
      have hdl : (r.drop 255).length + n = R := by rw [HT.out.2, List.length_drop]; omega
      have hral : (r.take 255).length ≤ 255 := by rw [List.length_take]; omega
      generalize r.take 255 = ra at *
      generalize r.drop 255 = rb at *
      have kp : decide ((0 : Int) < (R : Int)) = true := decide_eq_true (by omega)
      have kp2 : decide (0 < R) = true := decide_eq_true (by omega)
      have k2 : (0 : Int) ≤ (n : Int) := by omega
      have k3 : (n : Int) ≤ (R : Int) := by omega
      have k4 : (n : Int) ≤ (cap : Int) := by omega
      have k5 : (R : Int) ≤ (cap : Int) := by omega
      have hol : o.length ≤ 2000000 := by omega
      have hX : Below wr.heap.size wr (wr.alloc (.cells #[] 3)) := below_alloc _ _
      have HX : Hid (wr.heap.size ≤ (wr.alloc (.cells #[] 3)).heap.size ∧ OwnI wr.heap.size (wr.alloc (.cells #[] 3)) (.slice (some ⟨wr.heap.size, 0, none⟩) 0 0) []) := ⟨hX.size, hX.size, World.ownsRow_made wr #[] 0 (Nat.le_refl _) (Nat.zero_le _) (by simp)⟩
      have HUX : Hid (RdI (wr.alloc (.cells #[] 3)) (.slice (some ⟨b, off, none⟩) n cap) ra) := HU.out.below (below_then HB.out hX)
      have hlen1 : ([] : List Int).length + ra.length ≤ 2000000 := by simp; omega
      have HP1 : Hid (∀ (w1 : World) (a1 : Option Addr) (e1 : Nat), OwnI wr.heap.size w1 (.slice a1 ra.length e1) ra → Below wr.heap.size (wr.alloc (.cells #[] 3)) w1 →
          OwnP w.heap.size (w1.alloc (.cells #[.int .i64 kd, .slice a1 ra.length e1] 46)) v5 o ∧ Below w.heap.size w (w1.alloc (.cells #[.int .i64 kd, .slice a1 ra.length e1] 46)) ∧
          (w1.alloc (.cells #[.int .i64 kd, .slice a1 ra.length e1] 46)).cell? ⟨w1.heap.size, 0, none⟩ = some (.int .i64 kd) ∧ (w1.alloc (.cells #[.int .i64 kd, .slice a1 ra.length e1] 46)).cell? ⟨w1.heap.size, 1, none⟩ = some (.slice a1 ra.length e1) ∧
          (∀ g, (v5.ownBlock = some g ∨ (v5.ownBlock = none ∧ g = (w1.alloc (.cells #[.int .i64 kd, .slice a1 ra.length e1] 46)).heap.size)) → RdN g (w1.alloc (.cells #[.int .i64 kd, .slice a1 ra.length e1] 46)) (.slice a1 ra.length e1) ra)) := fun w1 a1 e1 h1 h2 => by
        have hbb : Below wr.heap.size wr w1 := hX.trans h2
        have hba : Below wr.heap.size wr (w1.alloc (.cells #[.int .i64 kd, .slice a1 ra.length e1] 46)) := hbb.alloc hbb.size _
        refine ⟨HO.out.below hba, below_then HB.out hba, cell_of (heap_alloc_new _ _) rfl, cell_of (heap_alloc_new _ _) rfl, fun g hg => ?_⟩
        rcases hg with e | ⟨_, e⟩
        · have hgl : g < wr.heap.size := by
            rcases HO.out.2 with ⟨e2, _⟩ | ⟨g', cap', q', e2, ho', _⟩
            · rw [e2] at e; cases e
            · rw [e2] at e; cases e; exact (ownsRow_lt (e2 ▸ ho')).2
          exact (h1.away hgl).below (below_alloc _ _)
        · rw [e]
          exact h1.rd.away (by simp) (below_alloc _ _)
      clear hof
      clear HR HO HE HSC HT hc h2 hx hcell hne hR h1 HRl HU hX HB
      clear hn
      by_cases hcn : cap = n
      · have hRn : R = n := by omega
        have HD3 : Hid (∀ c, c ≤ 9223372036854775807 → RdI w (.slice (some ⟨b, off, none⟩) 0 c) rb) := HD2.out hRn
        clear HD2
        subst hcn
        subst hRn
        go_wp2_with (first
          | (at_builtin; refine append_rdI rfl (.tmp 15) (.tmp 18) rfl wr.heap.size HX.out.1 (.slice (some ⟨wr.heap.size, 0, none⟩) 0 0) [] rfl HX.out.2 (.slice (some ⟨b, off, none⟩) R R) ra rfl HUX.out hlen1 ?_; intro w1v w1 hown1 hb1; rw [List.nil_append] at hown1; obtain ⟨a1, e1, hf1⟩ := hown1.rd.form; subst hf1; have P1 := Lib.hid (HP1.out w1 a1 e1 hown1 hb1); clear hown1 hb1)
          | (at_builtin; refine append_seg rfl (.tmp 13) (.tmp 21) rfl w.heap.size P1.out.2.1.size v5 o rfl P1.out.1 w1.heap.size kd _ ra rfl P1.out.2.2.1 P1.out.2.2.2.1 P1.out.2.2.2.2 hol ?_; intro v2 w2 hown hgrow hbl hbk; have S2 := Lib.hid hown; have B2 : Hid (Below w.heap.size w w2) := P1.out.2.1.trans hbl; clear hown hgrow hbl hbk))
        go_roundg (rb.length + 1)
        case measure => omega
        case rel => exact ⟨rb, o ++ [⟨kd, ra⟩], _, _, by rw [List.length_append]; simp; omega, Nat.le_refl _, rfl, rfl, ⟨_, rfl⟩, HD3.out _ (by omega), S2, HE2, B2⟩
      · have k6 : ¬ (cap : Int) = (n : Int) := by omega
        have k7 : (n : Int) < (cap : Int) := by omega
        have k8 : 0 < cap - n := by omega
        go_wp2_with (first
          | (at_builtin; refine append_rdI rfl (.tmp 15) (.tmp 18) rfl wr.heap.size HX.out.1 (.slice (some ⟨wr.heap.size, 0, none⟩) 0 0) [] rfl HX.out.2 (.slice (some ⟨b, off, none⟩) n cap) ra rfl HUX.out hlen1 ?_; intro w1v w1 hown1 hb1; rw [List.nil_append] at hown1; obtain ⟨a1, e1, hf1⟩ := hown1.rd.form; subst hf1; have P1 := Lib.hid (HP1.out w1 a1 e1 hown1 hb1); clear hown1 hb1)
          | (at_builtin; refine append_seg rfl (.tmp 13) (.tmp 21) rfl w.heap.size P1.out.2.1.size v5 o rfl P1.out.1 w1.heap.size kd _ ra rfl P1.out.2.2.1 P1.out.2.2.2.1 P1.out.2.2.2.2 hol ?_; intro v2 w2 hown hgrow hbl hbk; have S2 := Lib.hid hown; have B2 : Hid (Below w.heap.size w w2) := P1.out.2.1.trans hbl; clear hown hgrow hbl hbk))
        go_roundg (rb.length + 1)
        case measure => omega
        case rel => exact ⟨rb, o ++ [⟨kd, ra⟩], _, _, by rw [List.length_append]; simp; omega, Nat.le_refl _, rfl, rfl, ⟨_, rfl⟩, HD1, S2, HE2, B2⟩
end
end Go.Proofs.YtaniiennfogjaaaGreatDoor
namespace Go.Proofs.YtaniiennfogjaaaGreatDoor
section
open Go.RowKit P
set_option linter.unusedSimpArgs false
set_option linter.unusedVariables false
set_option maxHeartbeats 1500000
set_option maxRecDepth 100000
theorem P.takeWhile_take : ∀ {p : List Sg} {q : Sg → Bool} {k : Nat}, (∀ (j : Nat) (y : Sg), j < k → p[j]? = some y → q y = true) → (∀ y, p[k]? = some y → q y = false) → p.takeWhile q = p.take k
  | [], q, k, _, _ => by simp
  | a :: p, q, 0, _, h => by
    have := h a rfl
    simp [this]
  | a :: p, q, k + 1, h1, h2 => by
    have h0 := h1 0 a (by omega) rfl
    rw [List.takeWhile_cons_of_pos h0, List.take_succ_cons, takeWhile_take (k := k) (fun j y hj hy => h1 (j + 1) y (by omega) (by simpa using hy)) (fun y hy => h2 y (by simpa using hy))]
theorem rlead_any (p : List Sg) (v : Value) (w : World) (hv : RdS w v p) (hl : (flat p).length ≤ 2000000) : Calls Tryz.prog 70 #[v] w fun e w' => ∃ v', e = .returned v' ∧ InsI w v' (lead p) w' := by
  obtain ⟨ad, cap, rfl, h1, h2, hc⟩ := hv
  have HC := Lib.hid hc
  obtain ⟨n, hn⟩ : ∃ n, p.length = n := ⟨_, rfl⟩
  rw [hn] at h1 ⊢
  have HN := Lib.hid hn
  have HS0 : Hid (InsI w (.slice none 0 0) (flat (p.take 0)) w) := InsI.start w
  have HA0 : Hid (∀ (j : Nat) (y : Sg), j < 0 → p[j]? = some y → decide (2 = y.k) = true) := fun j y h => by omega
  have HTL : Hid (∀ k, (flat (p.take k)).length ≤ 2000000) := fun k => Nat.le_trans (flat_take_le p k) hl
  have HLD : Hid (∀ k, (∀ (j : Nat) (y : Sg), j < k → p[j]? = some y → decide (2 = y.k) = true) → (∀ y, p[k]? = some y → decide (2 = y.k) = false) → lead p = flat (p.take k)) := fun k h1 h2 => by
    unfold lead; rw [takeWhile_take h1 h2]
  generalize lead p = ld at *
  clear hc hn hl
  go_enter Tryz.func70, Tryz.ntmps70
  go_wp2_with fail
  go_loopg [3, 5, 8] n (fun g s3 s5 s8 wr => ∃ k : Nat, k ≤ n ∧ n - k ≤ g ∧ (∃ q, q = s5) ∧ s8 = .int .i64 (k : Int) ∧ Hid (∀ (j : Nat) (y : Sg), j < k → p[j]? = some y → decide (2 = y.k) = true) ∧ Hid (InsI w s3 (flat (p.take k)) wr))
  case atStart => exact ⟨0, by omega, by omega, ⟨_, rfl⟩, rfl, HA0, HS0⟩
  case round =>
    clear HS0 HA0
    obtain ⟨k, hk, hkg, ⟨u5, rfl⟩, rfl, HW, HS⟩ := hrel
    by_cases hlt : k < n
    · obtain ⟨s, hs⟩ : ∃ s, p[k]? = some s := ⟨_, List.getElem?_eq_getElem (by have := HN.out; omega)⟩
      have HSS := Lib.hid hs
      have HFT := Lib.hid (flat_take hs)
      have hle := HTL.out (k + 1)
      rw [HFT.out, List.length_append] at hle
      obtain ⟨b, off, u, rfl, hb, c0, c1, hu⟩ := HC.out k s hs
      have d0 := carry HS.out.2 c0
      have d1 := carry HS.out.2 c1
      have HU : Hid (∀ W, Below w.heap.size w W → RdI W u s.as) := fun W hW => hu.below hW
      obtain ⟨uad, ucap, hf⟩ := hu.form
      have k0 : (0 : Int) ≤ (k : Int) := by omega
      have k1 : (k : Int) < (n : Int) := by omega
      subst hf
      obtain ⟨pre, hpre⟩ : ∃ pre, flat (p.take k) = pre := ⟨_, rfl⟩
      have HPRE := Lib.hid hpre
      rw [hpre] at HFT hle HS
      obtain ⟨ns, hns⟩ : ∃ ns, s.as = ns := ⟨_, rfl⟩
      rw [hns] at HFT HU hle d1
      obtain ⟨L, hL⟩ : ∃ L, ns.length = L := ⟨_, rfl⟩
      rw [hL] at HU d1
      have HA : Hid (InsI w _ pre (wr.alloc (.cells #[.int .i64 s.k, .slice uad L ucap] 46))) := HS.out.below (below_alloc _ _)
      have HUA := Lib.hid (HU.out _ HA.out.2)
      clear hs c0 c1 hu HU hpre hns hL
      by_cases hkd : s.k = 2
      · have e1 : (s.k == 2) = true := by simpa using hkd
        have e2 : (s.k != 2) = false := by simpa using hkd
        have HW2 : Hid (∀ (j : Nat) (y : Sg), j < k + 1 → p[j]? = some y → decide (2 = y.k) = true) := fun j y hj hy => by
          by_cases e : j = k
          · subst e; have := HSS.out; rw [hy] at this; cases this; exact decide_eq_true hkd.symm
          · exact HW.out j y (by omega) hy
        clear HS HW HSS hkd
        go_wp2_with (at_builtin; refine append_rdI rfl (.tmp 15) (.tmp 17) rfl w.heap.size HA.out.2.size _ pre rfl HA.out.1 _ ns rfl HUA.out hle ?_; intro v2 w2 hown hb; have S2 : Hid (InsI w v2 (pre ++ ns) w2) := ⟨hown, HA.out.2.trans hb⟩; clear hown hb)
        go_roundg (n - (k + 1))
        case measure => omega
        case rel => exact ⟨k + 1, by omega, Nat.le_refl _, ⟨_, rfl⟩, by go_num, HW2, by unfold Hid; rw [HFT.out]; exact S2.out⟩
      · have e1 : (s.k == 2) = false := by simpa using hkd
        have e2 : (s.k != 2) = true := by simpa using hkd
        have HE : Hid (ld = pre) := by
          show _ = _; rw [← HPRE.out]
          exact HLD.out k HW.out (fun y hy => by have := HSS.out; rw [hy] at this; cases this; exact decide_eq_false (fun e => hkd e.symm))
        have HA2 : Hid (InsI w _ ld (wr.alloc (.cells #[.int .i64 s.k, .slice uad L ucap] 46))) := HE.out ▸ HA.out
        clear HS HW HSS hkd HA HE
        go_wp2
        go_ret
        exact ⟨_, rfl, HA2.out⟩
    · have k1 : decide ((k : Int) < (n : Int)) = false := decide_eq_false (by omega)
      have HE : Hid (ld = flat (p.take k)) := HLD.out k HW.out (fun y hy => by have := (List.getElem?_eq_some_iff.1 hy).1; have := HN.out; omega)
      have HS2 : Hid (InsI w _ ld wr) := HE.out ▸ HS.out
      clear HS HW
      go_wp2
      go_ret
      exact ⟨_, rfl, HS2.out⟩
namespace P
/-- above all that stands in a list -/
def gtB (s : List Int) (x : Int) : Bool := s.all (fun y => decide (y < x))
theorem gtB_iff {s : List Int} {x : Int} : gtB s x = true ↔ ∀ y ∈ s, y < x := by unfold gtB; simp
theorem gtB_snoc (s : List Int) (b x : Int) : gtB (s ++ [b]) x = (gtB s x && decide (b < x)) := by unfold gtB; simp
theorem gtB_last {s : List Int} (h : s.Pairwise (· < ·)) {z x : Int} (hz : s[s.length - 1]? = some z) : gtB s x = decide (z < x) := by
  by_cases hx : z < x
  · rw [decide_eq_true hx, gtB_iff]
    intro y hy
    obtain ⟨j, hj⟩ := List.getElem?_of_mem hy
    have hjl := (List.getElem?_eq_some_iff.1 hj).1
    by_cases e : j = s.length - 1
    · rw [e, hz] at hj; cases hj; exact hx
    · obtain ⟨h1, e1⟩ := List.getElem?_eq_some_iff.1 hj
      obtain ⟨h2, e2⟩ := List.getElem?_eq_some_iff.1 hz
      have := List.pairwise_iff_getElem.1 h j (s.length - 1) h1 h2 (by omega)
      omega
  · rw [decide_eq_false hx, Bool.eq_false_iff]
    intro h2
    exact hx (gtB_iff.1 h2 z (List.mem_of_getElem? hz))
def InB (s l : List Int) (k : Nat) (b : Int) : Prop := (b = -1 ∧ ∀ (j : Nat) (x : Int), j < k → l[j]? = some x → gtB s x = false) ∨ (0 ≤ b ∧ b ∈ l ∧ gtB s b = true ∧ ∀ (j : Nat) (x : Int), j < k → l[j]? = some x → gtB s x = true → b ≤ x)
theorem InB.start (s l : List Int) : InB s l 0 (-1) := .inl ⟨rfl, fun j x h => by omega⟩
theorem InB.skip {s l : List Int} {k : Nat} {b x : Int} (h : InB s l k b) (hx : l[k]? = some x) (hn : gtB s x = false ∨ (0 ≤ b ∧ b ≤ x)) : InB s l (k + 1) b := by
  rcases h with ⟨h1, h2⟩ | ⟨h1, h2, h3, h4⟩
  · refine .inl ⟨h1, fun j y hj hy => ?_⟩
    by_cases e : j = k
    · subst e; rw [hx] at hy; cases hy
      rcases hn with h | h
      · exact h
      · omega
    · exact h2 j y (by omega) hy
  · refine .inr ⟨h1, h2, h3, fun j y hj hy hg => ?_⟩
    by_cases e : j = k
    · subst e; rw [hx] at hy; cases hy
      rcases hn with h | h
      · rw [h] at hg; cases hg
      · exact h.2
    · exact h4 j y (by omega) hy hg
theorem InB.take {s l : List Int} {k : Nat} {b x : Int} (h : InB s l k b) (hx : l[k]? = some x) (h0 : 0 ≤ x) (hg : gtB s x = true) (hb : b < 0 ∨ x < b) : InB s l (k + 1) x := by
  refine .inr ⟨h0, List.mem_of_getElem? hx, hg, fun j y hj hy hgy => ?_⟩
  by_cases e : j = k
  · subst e; rw [hx] at hy; cases hy; exact Int.le_refl _
  · rcases h with ⟨h1, h2⟩ | ⟨h1, h2, h3, h4⟩
    · rw [h2 j y (by omega) hy] at hgy; cases hgy
    · have := h4 j y (by omega) hy hgy
      omega
structure OuB (s l : List Int) : Prop where
  up : s.Pairwise (· < ·)
  sub : ∀ x ∈ s, x ∈ l
  all : ∀ x ∈ l, x ∈ s ∨ gtB s x = true
  len : s.length + (l.filter (gtB s)).length ≤ l.length
theorem OuB.start (l : List Int) : OuB [] l := ⟨List.Pairwise.nil, (fun x h => by cases h), (fun x h => .inr rfl), by simpa using List.length_filter_le _ _⟩
theorem OuB.fin {s l : List Int} (h : OuB s l) (hi : InB s l l.length (-1)) : IsS l s := by
  refine ⟨h.up, fun x => ⟨h.sub x, fun hx => ?_⟩⟩
  rcases hi with ⟨_, h2⟩ | ⟨h1, _⟩
  · rcases h.all x hx with e | e
    · exact e
    · obtain ⟨j, hj⟩ := List.getElem?_of_mem hx
      rw [h2 j x (List.getElem?_eq_some_iff.1 hj).1 hj] at e; cases e
  · omega
theorem OuB.step {s l : List Int} (h : OuB s l) {b : Int} (hb : 0 ≤ b) (hi : InB s l l.length b) : OuB (s ++ [b]) l ∧ (l.filter (gtB (s ++ [b]))).length < (l.filter (gtB s)).length := by
  rcases hi with ⟨h1, _⟩ | ⟨_, h2, h3, h4⟩
  · omega
  · have hlt : (l.filter (gtB (s ++ [b]))).length < (l.filter (gtB s)).length := by
      have e : l.filter (gtB (s ++ [b])) = (l.filter (gtB s)).filter (fun x => decide (b < x)) := by
        rw [List.filter_filter]
        refine List.filter_congr fun x _ => ?_
        rw [gtB_snoc, Bool.and_comm]
      rw [e, List.length_filter_lt_length_iff_exists]
      exact ⟨b, List.mem_filter.2 ⟨h2, h3⟩, by simp⟩
    refine ⟨⟨?_, fun x hx => ?_, fun x hx => ?_, ?_⟩, hlt⟩
    · rw [List.pairwise_append]
      exact ⟨h.up, List.pairwise_singleton _ _, fun y hy z hz => by simp at hz; subst hz; exact gtB_iff.1 h3 y hy⟩
    · rcases List.mem_append.1 hx with e | e
      · exact h.sub x e
      · simp at e; subst e; exact h2
    · rcases h.all x hx with e | e
      · exact .inl (List.mem_append_left _ e)
      · obtain ⟨j, hj⟩ := List.getElem?_of_mem hx
        have hle := h4 j x (List.getElem?_eq_some_iff.1 hj).1 hj e
        by_cases e2 : b = x
        · subst e2; exact .inl (by simp)
        · refine .inr ?_
          rw [gtB_snoc, e, decide_eq_true (by omega)]; rfl
    · have := h.len
      rw [List.length_append, List.length_singleton]; omega
end P
end
end Go.Proofs.YtaniiennfogjaaaGreatDoor
namespace Go.Proofs.YtaniiennfogjaaaGreatDoor
section
open Go.RowKit P
set_option linter.unusedSimpArgs false
set_option linter.unusedVariables false
set_option maxHeartbeats 1500000
set_option maxRecDepth 100000
theorem rasc_any (l : List Int) (v : Value) (w : World) (hr : RdI w v l) (h0 : ∀ x ∈ l, 0 ≤ x) (hl : l.length ≤ 2000000) :
    Calls Tryz.prog 71 #[v] w fun e w' => ∃ v' s, e = .returned v' ∧ IsS l s ∧ InsI w v' s w' := by
  obtain ⟨ad, cap, rfl, h1, h2, hc⟩ := hr
  have HC := Lib.hid hc
  have HPOS0 := Lib.hid h0
  have HFL : Hid (∀ s, (l.filter (gtB s)).length ≤ l.length) := fun s => List.length_filter_le _ _
  have HO0 : Hid (OuB [] l) := OuB.start l
  have HS0 : Hid (InsI w (.slice none 0 0) [] w) := InsI.start w
  obtain ⟨L, hL⟩ : ∃ L, l.length = L := ⟨_, rfl⟩
  rw [hL] at h1 hl ⊢
  have HL := Lib.hid hL
  clear hc h0 hL h2
  go_enter Tryz.func71, Tryz.ntmps71
  go_wp2_with fail
  go_loopg [3, 4, 6, 9] (L + 1) (fun g s3 s4 s6 s9 wr => ∃ (s : List Int) (v3 : Value), (l.filter (gtB s)).length + 1 ≤ g ∧ v3 = s3 ∧ (∃ q, q = s4) ∧ (∃ q, q = s6) ∧ (∃ q, q = s9) ∧ Hid (OuB s l) ∧ Hid (InsI w v3 s wr))
  case atStart => exact ⟨[], _, by have := HFL.out []; have := HL.out; omega, rfl, ⟨_, rfl⟩, ⟨_, rfl⟩, ⟨_, rfl⟩, HO0, HS0⟩
  case round =>
    clear HO0 HS0
    obtain ⟨s, v3, hg, rfl, ⟨u4, rfl⟩, ⟨u6, rfl⟩, ⟨u9, rfl⟩, HO, HS⟩ := hrel
    have HR3 := Lib.hid HS.out.1.rd
    obtain ⟨a3, c3, rfl, r1, r2, hc3⟩ := HR3.out
    have hsl : s.length ≤ 2000000 := by have := HO.out.len; have := HL.out; omega
    obtain ⟨N, hN⟩ : ∃ N, s.length = N := ⟨_, rfl⟩
    rw [hN] at r1 HS HR3 hsl ⊢
    have HNN := Lib.hid hN
    have HC3 := Lib.hid hc3
    have HI0 : Hid (InB s l 0 (-1)) := InB.start s l
    have HB0 : Hid (Below wr.heap.size wr wr) := Below.refl _ _
    clear hc3 hN r2
    go_wp2_with fail
    go_loopg [4, 6, 9] (L + 1) (fun g2 s4 s6 s9 w2 => ∃ (k : Nat) (b : Int), k ≤ L ∧ L + 1 - k ≤ g2 ∧ s4 = .int .i64 b ∧ (∃ q, q = s6) ∧ s9 = .int .i64 (k : Int) ∧ Hid (InB s l k b) ∧ Hid (Below wr.heap.size wr w2))
    case atStart => exact ⟨0, -1, by omega, by omega, rfl, ⟨_, rfl⟩, rfl, HI0, HB0⟩
    case round =>
      clear HI0 HB0
      obtain ⟨k, b, hk, hkg, rfl, ⟨u6, rfl⟩, rfl, HI, HB⟩ := hrel
      by_cases hkl : k < L
      · obtain ⟨x, hx⟩ : ∃ x, l[k]? = some x := ⟨_, List.getElem?_eq_getElem (by have := HL.out; omega)⟩
        obtain ⟨b1, o1, rfl, hb1, cx⟩ := HC.out k x hx
        have dx := carry (HS.out.2) cx
        have dx := carry HB.out dx
        have HX := Lib.hid hx
        have HPOS := HPOS0
        have k0 : (0 : Int) ≤ (k : Int) := by omega
        have k1 : (k : Int) < (L : Int) := by omega
        clear hx cx
        by_cases hN0 : N = 0
        · have HG : Hid (gtB s x = true) := by
            have e : s = [] := List.length_eq_zero_iff.1 (by rw [HNN.out]; exact hN0)
            show _ = _; rw [e]; rfl
          subst hN0
          by_cases hb0 : b < 0
          · have m1 : decide (b < 0) = true := decide_eq_true hb0
            have HI2 : Hid (InB s l (k + 1) x) := HI.out.take HX.out (HPOS.out x (List.mem_of_getElem? HX.out)) HG.out (by omega)
            clear HI HX HG HPOS
            go_wp2_with fail
            go_roundg (L + 1 - (k + 1))
            case measure => omega
            case rel => exact ⟨k + 1, x, by omega, Nat.le_refl _, rfl, ⟨_, rfl⟩, by go_num, HI2, HB⟩
          · have m1 : decide (b < 0) = false := decide_eq_false hb0
            by_cases hxb : x < b
            · have m2 : decide (x < b) = true := decide_eq_true hxb
              have HI2 : Hid (InB s l (k + 1) x) := HI.out.take HX.out (HPOS.out x (List.mem_of_getElem? HX.out)) HG.out (by omega)
              clear HI HX HG HPOS
              go_wp2_with fail
              go_roundg (L + 1 - (k + 1))
              case measure => omega
              case rel => exact ⟨k + 1, x, by omega, Nat.le_refl _, rfl, ⟨_, rfl⟩, by go_num, HI2, HB⟩
            · have m2 : decide (x < b) = false := decide_eq_false hxb
              have HI2 : Hid (InB s l (k + 1) b) := HI.out.skip HX.out (.inr (by omega))
              clear HI HX HG HPOS
              go_wp2_with fail
              go_roundg (L + 1 - (k + 1))
              case measure => omega
              case rel => exact ⟨k + 1, b, by omega, Nat.le_refl _, rfl, ⟨_, rfl⟩, by go_num, HI2, HB⟩
        · obtain ⟨z, hz⟩ : ∃ z, s[N - 1]? = some z := ⟨_, List.getElem?_eq_getElem (by have := HNN.out; omega)⟩
          have HGL : Hid (gtB s x = decide (z < x)) := gtB_last HO.out.up (by rw [HNN.out]; exact hz)
          obtain ⟨b3, o3, rfl, hb3, cz⟩ := HC3.out (N - 1) z hz
          have dz := carry HB.out cz
          have j0 : (0 : Int) ≤ (N : Int) - 1 := by omega
          have j1 : (N : Int) - 1 < (N : Int) := by omega
          have j2 : (1 : Int) ≤ (N : Int) := by omega
          have j3 : IntKind.i64.wrap ((N : Int) - 1) = (N : Int) - 1 := IntWalk.i64_in _ (by omega)
          have j4 : ((N : Int) - 1).toNat = N - 1 := by omega
          have j5 : ((N : Int) == 0) = false := by simp; omega
          have j6 : (N == 0) = false := by simp; omega
          clear hz cz
          by_cases hzx : z < x
          · have HG : Hid (gtB s x = true) := by show _ = _; rw [HGL.out, decide_eq_true hzx]
            have m0 : decide (z < x) = true := decide_eq_true hzx
            clear HGL
            by_cases hb0 : b < 0
            · have m1 : decide (b < 0) = true := decide_eq_true hb0
              have HI2 : Hid (InB s l (k + 1) x) := HI.out.take HX.out (HPOS.out x (List.mem_of_getElem? HX.out)) HG.out (by omega)
              clear HI HX HG HPOS
              go_wp2_with fail
              go_roundg (L + 1 - (k + 1))
              case measure => omega
              case rel => exact ⟨k + 1, x, by omega, Nat.le_refl _, rfl, ⟨_, rfl⟩, by go_num, HI2, HB⟩
            · have m1 : decide (b < 0) = false := decide_eq_false hb0
              by_cases hxb : x < b
              · have m2 : decide (x < b) = true := decide_eq_true hxb
                have HI2 : Hid (InB s l (k + 1) x) := HI.out.take HX.out (HPOS.out x (List.mem_of_getElem? HX.out)) HG.out (by omega)
                clear HI HX HG HPOS
                go_wp2_with fail
                go_roundg (L + 1 - (k + 1))
                case measure => omega
                case rel => exact ⟨k + 1, x, by omega, Nat.le_refl _, rfl, ⟨_, rfl⟩, by go_num, HI2, HB⟩
              · have m2 : decide (x < b) = false := decide_eq_false hxb
                have HI2 : Hid (InB s l (k + 1) b) := HI.out.skip HX.out (.inr (by omega))
                clear HI HX HG HPOS
                go_wp2_with fail
                go_roundg (L + 1 - (k + 1))
                case measure => omega
                case rel => exact ⟨k + 1, b, by omega, Nat.le_refl _, rfl, ⟨_, rfl⟩, by go_num, HI2, HB⟩
          · have HG : Hid (gtB s x = false) := by show _ = _; rw [HGL.out, decide_eq_false hzx]
            have m0 : decide (z < x) = false := decide_eq_false hzx
            clear HGL
            have HI2 : Hid (InB s l (k + 1) b) := HI.out.skip HX.out (.inl HG.out)
            clear HI HX HG HPOS
            go_wp2_with fail
            go_roundg (L + 1 - (k + 1))
            case measure => omega
            case rel => exact ⟨k + 1, b, by omega, Nat.le_refl _, rfl, ⟨_, rfl⟩, by go_num, HI2, HB⟩
      · have k1 : decide ((k : Int) < (L : Int)) = false := decide_eq_false (by omega)
        have HIL : Hid (InB s l l.length b) := by
          have e : k = L := by omega
          show InB _ _ _ _; rw [HL.out, ← e]; exact HI.out
        have HSB : Hid (InsI w (.slice a3 N c3) s wr) := HS.out.below HB.out
        clear HI HR3 HC3 HC
        by_cases hb0 : b < 0
        · have m1 : decide (b < 0) = true := decide_eq_true hb0
          have HF : Hid (IsS l s) := HO.out.fin (by
            rcases HIL.out with ⟨e, _⟩ | ⟨h, _⟩
            · rw [← e]; exact HIL.out
            · omega)
          clear HO HIL HPOS0
          go_wp2
          go_ret
          exact ⟨_, s, rfl, HF.out, HSB.out⟩
        · have m1 : decide (b < 0) = false := decide_eq_false hb0
          have HST := Lib.hid (HO.out.step (by omega) HIL.out)
          have hlt := HST.out.2
          have HA : Hid (InsI w (.slice a3 N c3) s (wr.alloc (.cells #[.int .i64 b] 3))) := HSB.out.below (below_alloc _ _)
          have HUA : Hid (RdI (wr.alloc (.cells #[.int .i64 b] 3)) (.slice (some ⟨wr.heap.size, 0, none⟩) 1 1) [b]) := rdi_at _ [b] 3 _ rfl _ rfl _ rfl (by simp)
          have hle : s.length + [b].length ≤ 2000000 := by
            have := HST.out.1.len
            rw [List.length_append] at this
            have := HL.out
            omega
          clear HO HIL HSB HS
          go_wp2_with (at_builtin; refine append_rdI rfl (.tmp 40) (.tmp 42) rfl w.heap.size HA.out.2.size _ s rfl HA.out.1 _ [b] rfl HUA.out hle ?_; intro v5 w5 hown hb; have S2 : Hid (InsI w v5 (s ++ [b]) w5) := ⟨hown, HA.out.2.trans hb⟩; clear hown hb)
          go_roundg ((l.filter (gtB (s ++ [b]))).length + 1)
          case measure => omega
          case rel => exact ⟨s ++ [b], _, Nat.le_refl _, rfl, ⟨_, rfl⟩, ⟨_, rfl⟩, ⟨_, rfl⟩, HST.out.1, S2⟩
end
end Go.Proofs.YtaniiennfogjaaaGreatDoor
namespace Go.Proofs.YtaniiennfogjaaaGreatDoor
section
open Go.RowKit P
set_option linter.unusedSimpArgs false
set_option linter.unusedVariables false
set_option maxHeartbeats 1500000
set_option maxRecDepth 100000
theorem P.flat_strip_pos {p : List Sg} (h : chk p = 0) : ∀ x ∈ flat (strip p), 0 ≤ x := fun x hx => by
  unfold flat at hx
  rw [List.mem_flatten] at hx
  obtain ⟨l, hl, hxl⟩ := hx
  obtain ⟨s, hs, rfl⟩ := List.mem_map.1 hl
  have hsp : s ∈ p := (List.mem_filter.1 hs).1
  have := (segE_ok ((chk_ok h).2 s hsp)).2.2.2.1 x hxl
  omega
theorem P.restM_pos {p r : List Sg} (h1 : chk p = 0) (h2 : chk r = 0) : ∀ x ∈ restM p r, 0 ≤ x := fun x hx => by
  unfold restM at hx
  rcases List.mem_append.1 hx with h | h
  · exact flat_strip_pos h1 x (List.mem_of_mem_drop h)
  · exact flat_strip_pos h2 x (List.mem_of_mem_drop h)
theorem rmerge_any (p r : List Sg) (v u : Value) (w : World) (hv : RdS w v p) (hu : RdS w u r) (hl : p.length ≤ 900000) (hf : (flat p).length ≤ 900000) (hl' : r.length ≤ 900000) (hf' : (flat r).length ≤ 900000) :
    Calls Tryz.prog 36 #[v, u] w fun e w' => ∃ v' o x, e = .returned (.tuple #[v', .int .i64 x]) ∧ MrgR p r o x ∧ RdS w' v' o ∧ Below w.heap.size w w' := by
  have HC1 := Lib.hid (rcheck_any p v w hv)
  have HC2 : Hid (∀ W, Below w.heap.size w W → Calls Tryz.prog 14 #[u] W fun e w' => e = .returned (.int .i64 (chk r)) ∧ Below W.heap.size W w') := fun W hW => rcheck_any r u W (hu.below hW)
  have HS1 : Hid (∀ W, Below w.heap.size w W → Calls Tryz.prog 25 #[v] W fun e w' => ∃ v', e = .returned v' ∧ RdS w' v' (strip p) ∧ Below W.heap.size W w') := fun W hW => rstrip_any p v W (by omega) (by omega) (hv.below hW)
  have HS2 : Hid (∀ W, Below w.heap.size w W → Calls Tryz.prog 25 #[u] W fun e w' => ∃ v', e = .returned v' ∧ RdS w' v' (strip r) ∧ Below W.heap.size W w') := fun W hW => rstrip_any r u W (by omega) (by omega) (hu.below hW)
  have HN1 : Hid ((flat (strip p)).length ≤ 900000 ∧ (flat (strip r)).length ≤ 900000) := ⟨Nat.le_trans (strip_flat p) hf, Nat.le_trans (strip_flat r) hf'⟩
  have HE1 := Lib.hid (fun (h : chk p ≠ 0) => mrg_err1 (a := p) (b := r) h)
  have HE2 := Lib.hid (fun (h1 : chk p = 0) (h : chk r ≠ 0) => mrg_err2 (a := p) (b := r) h1 h)
  have HOK := Lib.hid (fun (h1 : chk p = 0) (h2 : chk r = 0) => And.intro (restM_pos h1 h2) (fun (s : List Int) (hs : IsS (restM p r) s) => mrg_ok (a := p) (b := r) h1 h2 hs))
  obtain ⟨va, vc, rfl⟩ := hv.form
  obtain ⟨ua, uc, rfl⟩ := hu.form
  generalize p.length = N1 at *
  generalize r.length = N2 at *
  obtain ⟨x, hx⟩ : ∃ x, chk p = x := ⟨_, rfl⟩
  obtain ⟨y, hy⟩ : ∃ y, chk r = y := ⟨_, rfl⟩
  rw [hx] at HC1 HE1 HE2 HOK
  rw [hy] at HC2 HE2 HOK
  clear hv hu hl hf hl' hf' hx hy
  go_enter Tryz.func36, Tryz.ntmps36
  go_wp2_with fail
  go_at_call 14
  refine HC1.out.mono ?_
  rintro e w1 ⟨rfl, hb⟩
  have HB1 := Lib.hid hb
  clear hb HC1
  by_cases hx0 : x = 0
  · subst hx0
    clear HE1
    go_wp2_with fail
    go_at_call 14
    refine (HC2.out _ HB1.out).mono ?_
    rintro e w2 ⟨rfl, hb⟩
    have HB2 := Lib.hid (below_then HB1.out hb)
    clear hb HC2 HB1
    by_cases hy0 : y = 0
    · subst hy0
      clear HE2
      have HOK2 := Lib.hid (HOK.out (by first | rfl | trivial) (by first | rfl | trivial))
      clear HOK
      go_wp2_with fail
      go_at_call 25
      refine (HS1.out _ HB2.out).mono ?_
      rintro e w3 ⟨v3, rfl, hr3, hb⟩
      have HB3 := Lib.hid (below_then HB2.out hb)
      have HR3 : Hid (∀ W, Below w3.heap.size w3 W → RdS W v3 (strip p)) := fun W hW => hr3.below hW
      clear hb HS1 hr3
      go_wp2_with fail
      go_at_call 25
      refine (HS2.out _ HB3.out).mono ?_
      rintro e w4 ⟨v4, rfl, hr4, hb⟩
      have HB4 := Lib.hid (below_then HB3.out hb)
      have HR4 : Hid (∀ W, Below w4.heap.size w4 W → RdS W v4 (strip r)) := fun W hW => hr4.below hW
      have HR3' : Hid (∀ W, Below w4.heap.size w4 W → RdS W v3 (strip p)) := fun W hW => HR3.out W (below_then hb hW)
      have HD1 := Lib.hid (rlead_any (strip p) v3 w4 (HR3'.out _ (Below.refl _ _)) (by have := HN1.out; omega))
      clear hb HS2 hr4 HR3 HB2 HB3
      go_wp2_with fail
      go_at_call 70
      refine HD1.out.mono ?_
      rintro e w5 ⟨v5, rfl, hi5⟩
      have HB5 := Lib.hid hi5.2
      have HI5 : Hid (∀ W, Below w5.heap.size w5 W → RdI W v5 (lead (strip p))) := fun W hW => hi5.1.rd.below hW
      have HD2 := Lib.hid (rlead_any (strip r) v4 w5 (HR4.out _ hi5.2) (by have := HN1.out; omega))
      clear hi5 HD1
      go_wp2_with fail
      go_at_call 70
      refine HD2.out.mono ?_
      rintro e w6 ⟨v6, rfl, hi6⟩
      have HB6 := Lib.hid (below_then HB5.out hi6.2)
      have HI6 := Lib.hid hi6.1.rd
      have HX5 := Lib.hid (HI5.out w6 hi6.2)
      have hll : (lead (strip p)).length ≤ (flat (strip p)).length ∧ (lead (strip r)).length ≤ (flat (strip r)).length := ⟨lead_le _, lead_le _⟩
      obtain ⟨X, hX⟩ : ∃ X, lead (strip p) = X := ⟨_, rfl⟩
      obtain ⟨Y, hY⟩ : ∃ Y, lead (strip r) = Y := ⟨_, rfl⟩
      have HBO : Hid (both p r = cpre X Y) := by show _ = _; unfold both; rw [hX, hY]
      rw [hX] at HX5 hll
      rw [hY] at HI6 hll
      clear hi6 HD2 HI5 HB5 hX hY
      obtain ⟨va5, vc5, rfl, q1, q2, hc5⟩ := HX5.out
      obtain ⟨va6, vc6, rfl, q3, q4, hc6⟩ := HI6.out
      have HC5 := Lib.hid hc5
      have HC6 := Lib.hid hc6
      obtain ⟨LX, hLX⟩ : ∃ LX, X.length = LX := ⟨_, rfl⟩
      obtain ⟨LY, hLY⟩ : ∃ LY, Y.length = LY := ⟨_, rfl⟩
      rw [hLX] at q1 hll HX5 ⊢
      rw [hLY] at q3 hll ⊢
      have HLX := Lib.hid hLX
      have HLY := Lib.hid hLY
      have HLL := Lib.hid hll
      have hlx : LX ≤ 900000 := by have := HN1.out; omega
      have HA0 : Hid (∀ j, j < 0 → ∃ x, X[j]? = some x ∧ Y[j]? = some x) := fun j h => by omega
      have HW0 : Hid (Below w6.heap.size w6 w6) := Below.refl _ _
      have qc := q2.1
      clear hc5 hc6 q2 q4 hLX hLY HI6 hll
      go_wp2_with fail
      go_loopg [10] (LX + 1) (fun g s10 wr => ∃ k : Nat, k ≤ LX ∧ k ≤ LY ∧ LX + 1 - k ≤ g ∧ s10 = .int .i64 (k : Int) ∧ Hid (∀ j, j < k → ∃ x, X[j]? = some x ∧ Y[j]? = some x) ∧ Hid (Below w6.heap.size w6 wr))
      case atStart => exact ⟨0, by omega, by omega, by omega, rfl, HA0, HW0⟩
      case round =>
        clear HA0 HW0
        obtain ⟨k, hkx, hky, hkg, rfl, HA, HW⟩ := hrel
        have HEND : Hid ((∀ x y, X[k]? = some x → Y[k]? = some y → x ≠ y) → both p r = X.take k) := fun h => by rw [HBO.out]; exact cpre_take HA.out h
        by_cases hx1 : k < LX
        · obtain ⟨x, hx⟩ : ∃ x, X[k]? = some x := ⟨_, List.getElem?_eq_getElem (by have := HLX.out; omega)⟩
          obtain ⟨b5, o5, rfl, hb5, cx⟩ := HC5.out k x hx
          have dx := carry HW.out cx
          have i0 : (0 : Int) ≤ (k : Int) := by omega
          have i1 : (k : Int) < (LX : Int) := by omega
          have i2 : decide ((k : Int) < (LX : Int)) = true := decide_eq_true (by omega)
          by_cases hy1 : k < LY
          · obtain ⟨y, hy⟩ : ∃ y, Y[k]? = some y := ⟨_, List.getElem?_eq_getElem (by have := HLY.out; omega)⟩
            obtain ⟨b6, o6, rfl, hb6, cy⟩ := HC6.out k y hy
            have dy := carry HW.out cy
            have i3 : (k : Int) < (LY : Int) := by omega
            have i4 : decide ((k : Int) < (LY : Int)) = true := decide_eq_true (by omega)
            have HXY := Lib.hid (And.intro hx hy)
            clear hx hy cx cy
            by_cases hxy : x = y
            · have i5 : (x == y) = true := by simpa using hxy
              have HA2 : Hid (∀ j, j < k + 1 → ∃ x, X[j]? = some x ∧ Y[j]? = some x) := fun j hj => by
                by_cases e : j = k
                · subst e; exact ⟨x, HXY.out.1, by rw [hxy]; exact HXY.out.2⟩
                · exact HA.out j (by omega)
              clear HA HEND HXY hxy
              go_wp2_with fail
              go_quiet (fail)
              go_wp2_with fail
              go_roundg (LX + 1 - (k + 1))
              case measure => omega
              case rel => exact ⟨k + 1, by omega, by omega, Nat.le_refl _, by go_num, HA2, below_drewN HW.out _⟩
            · have i5 : (x == y) = false := by simpa using hxy
              have HBK : Hid (both p r = X.take k) := HEND.out fun x' y' hx' hy' => by
                have h1 := HXY.out.1; have h2 := HXY.out.2
                rw [hx'] at h1; rw [hy'] at h2
                cases h1; cases h2; exact hxy
              clear HXY hxy
              go_wp2_with fail
              go_quiet (fail)
              have HW2 : Hid (Below w6.heap.size w6 (wr.drewN nq)) := below_drewN HW.out _
              generalize wr.drewN nq = wz at *
              have hkm : k ≤ (flat (strip p)).length ∧ k ≤ (flat (strip r)).length := by have := HLL.out; omega
              have hbl : (both p r).length = k := by rw [HBK.out, List.length_take]; have := HLX.out; omega
              have hxk : RdI wz (.slice (some ⟨b5, o5, none⟩) k vc5) (both p r) := by
                rw [HBK.out]; exact (HX5.out.below HW2.out).take k (by rw [HLX.out]; exact hkx)
              have HSQ := Lib.hid (rseqs_any 2 (both p r) _ wz hxk (by omega))
              have HBL := Lib.hid hbl
              have HKM := Lib.hid hkm
              have j1 : (0 : Int) ≤ (k : Int) := by omega
              have j2 : (k : Int) ≤ (vc5 : Int) := by omega
              have j3 : (k : Int) ≤ (LX : Int) := by omega
              clear HA HEND HW hxk HX5 HC5 HC6 HBO HLL HLX HLY HBK hbl
              go_wp2_with fail
              go_at_call 58
              refine HSQ.out.mono ?_
              rintro e w7 ⟨v7, rfl, ho7, hb7⟩
              have HO7 := Lib.hid ho7
              have HB7 := Lib.hid (below_then (below_then HB6.out HW2.out) hb7)
              have HZ7 := Lib.hid hb7
              have HB7b := Lib.hid HB7.out
              have HBQ := Lib.hid (below_then HB4.out (below_then HB6.out HW2.out))
              obtain ⟨a7, c7, hf7⟩ := ho7.rd.form
              clear ho7 hb7 HSQ HW2 HB6
              obtain ⟨M1, hM1⟩ : ∃ M1, (flat (strip p)).length = M1 := ⟨_, rfl⟩
              obtain ⟨M2, hM2⟩ : ∃ M2, (flat (strip r)).length = M2 := ⟨_, rfl⟩
              have HFA : Hid (∀ W, Below w7.heap.size w7 W → Calls Tryz.prog 28 #[v3] W fun e w' => ∃ a c, e = .returned (.slice a M1 c) ∧ RdI w' (.slice a M1 c) (flat (strip p)) ∧ Below W.heap.size W w') := fun W hW => (rflat_any (strip p) v3 W (HR3'.out W (below_then HB7.out hW)) (by have := HN1.out; omega)).mono fun e w' ⟨v', he, hi⟩ => by
                obtain ⟨a, c, e1⟩ := hi.1.rd.form
                rw [hM1] at e1
                exact ⟨a, c, by rw [he, e1], e1 ▸ hi.1.rd, hi.2⟩
              have HFB : Hid (∀ W, Below w7.heap.size w7 W → Calls Tryz.prog 28 #[v4] W fun e w' => ∃ a c, e = .returned (.slice a M2 c) ∧ RdI w' (.slice a M2 c) (flat (strip r)) ∧ Below W.heap.size W w') := fun W hW => (rflat_any (strip r) v4 W (HR4.out W (below_then HB7.out hW)) (by have := HN1.out; omega)).mono fun e w' ⟨v', he, hi⟩ => by
                obtain ⟨a, c, e1⟩ := hi.1.rd.form
                rw [hM2] at e1
                exact ⟨a, c, by rw [he, e1], e1 ▸ hi.1.rd, hi.2⟩
              have HRM : Hid (restM p r = (flat (strip p)).drop k ++ (flat (strip r)).drop k) := by show _ = _; unfold restM; rw [HBL.out]
              have HL1 : Hid (([] : List Int).length + ((flat (strip p)).drop k).length ≤ 2000000) := by show _ ≤ _; rw [List.length_drop]; have := HN1.out; simp; omega
              have HL2 : Hid (((flat (strip p)).drop k).length + ((flat (strip r)).drop k).length ≤ 2000000) := by show _ ≤ _; rw [List.length_drop, List.length_drop]; have := HN1.out; omega
              have m0 : (0 : Int) ≤ (k : Int) := by omega
              have m1 : (k : Int) ≤ (M1 : Int) := by have := HKM.out; omega
              have m2 : (k : Int) ≤ (M2 : Int) := by have := HKM.out; omega
              have HSL : Hid ((seqs 2 (both p r)).length ≤ 1000000) := Nat.le_trans (seqs_len0 2 _ _ rfl) (by rw [HBL.out]; omega)
              have HKM1 := Lib.hid (show k ≤ (flat (strip p)).length from HKM.out.1)
              have HKM2 := Lib.hid (show k ≤ (flat (strip r)).length from HKM.out.2)
              have hX8 : Below w7.heap.size w7 (w7.alloc (.cells #[] 3)) := below_alloc _ _
              have HX8 := Lib.hid hX8
              have HO8 : Hid (OwnI w7.heap.size (w7.alloc (.cells #[] 3)) (.slice (some ⟨w7.heap.size, 0, none⟩) 0 0) []) := ⟨hX8.size, World.ownsRow_made w7 #[] 0 (Nat.le_refl _) (Nat.zero_le _) (by simp)⟩
              clear hM1 hM2 hX8 hkm HKM HR3' HR4 HN1 HB7 hf7
              go_wp2_with (first
                | (go_at_call 28; refine (HFA.out _ HX8.out).mono ?_; rintro e w9 ⟨A1, C1, rfl, hA, hb⟩; have HB9 := Lib.hid (below_then HX8.out hb); have HO9 := Lib.hid (HO8.out.below hb); obtain ⟨B1, hif1⟩ : ∃ B1, (if C1 = k then A1 else Option.map (fun x => Addr.add x k) A1) = B1 := ⟨_, rfl⟩; have HR9 : Hid (RdI w9 (.slice B1 (M1 - k) (C1 - k)) ((flat (strip p)).drop k)) := (by have := hA.dropIf HKM1.out; rw [hif1] at this; exact this); clear hA hb HFA HO8 HX8)
                | (at_builtin; refine append_rdI rfl (.tmp 58) (.tmp 62) rfl w7.heap.size HB9.out.size _ [] rfl HO9.out _ _ rfl HR9.out HL1.out ?_; intro v10 w10 hown hb; rw [List.nil_append] at hown; have HO10 := Lib.hid hown; have HB10 := Lib.hid (HB9.out.trans hb); clear hown hb HO9 HR9 HB9 HL1)
                | (go_at_call 28; refine (HFB.out _ HB10.out).mono ?_; rintro e w11 ⟨A2, C2, rfl, hA, hb⟩; have HB11 := Lib.hid (below_then HB10.out hb); have HO11 := Lib.hid (HO10.out.below hb); obtain ⟨B2, hif2⟩ : ∃ B2, (if C2 = k then A2 else Option.map (fun x => Addr.add x k) A2) = B2 := ⟨_, rfl⟩; have HR11 : Hid (RdI w11 (.slice B2 (M2 - k) (C2 - k)) ((flat (strip r)).drop k)) := (by have := hA.dropIf HKM2.out; rw [hif2] at this; exact this); clear hA hb HFB HO10 HB10)
                | (at_builtin; refine append_rdI rfl (.tmp 63) (.tmp 67) rfl w7.heap.size HB11.out.size _ _ rfl HO11.out _ _ rfl HR11.out HL2.out ?_; intro v12 w12 hown hb; have HO12 : Hid (OwnI w7.heap.size w12 v12 (restM p r)) := (by show OwnI _ _ _ _; rw [HRM.out]; exact hown); have HB12 := Lib.hid (HB11.out.trans hb); clear hown hb HO11 HR11 HB11))
              go_at_call 71
              refine (rasc_any (restM p r) v12 w12 HO12.out.rd HOK2.out.1 (by rw [HRM.out, List.length_append]; exact HL2.out)).mono ?_
              rintro e w13 ⟨v13, s, rfl, hs, hi⟩
              have HS13 := Lib.hid (HOK2.out.2 s hs)
              have HI13 := Lib.hid hi
              have HB13 := Lib.hid (below_then HB12.out hi.2)
              obtain ⟨a13, c13, hf13⟩ := hi.1.rd.form
              subst hf13
              clear hs hi HO12
              have HBW : Hid (∀ W, Below w7.heap.size w7 W → Below w.heap.size w W) := fun W hW => below_then (below_then HB4.out HB7b.out) hW
              have HO : Hid (outM p r s = seqs 2 (both p r) ++ if s = [] then [] else [⟨1, s⟩]) := rfl
              obtain ⟨SQ, hSQ⟩ : ∃ SQ, seqs 2 (both p r) = SQ := ⟨_, rfl⟩
              rw [hSQ] at HO7 HO HSL
              generalize outM p r s = O at *
              obtain ⟨S, hS⟩ : ∃ S, s.length = S := ⟨_, rfl⟩
              rw [hS] at HS13 HI13 ⊢
              have HSS := Lib.hid hS
              obtain ⟨K, hK⟩ : ∃ K, SQ.length = K := ⟨_, rfl⟩
              have HKK := Lib.hid hK
              have hKl : K ≤ 1000000 := by have := HSL.out; omega
              have HZB := Lib.hid (And.intro HB12.out.size HB13.out)
              clear hS hK hSQ HOK2 HRM HL2 HKM1 HKM2 HBL HB12 HB7b
              by_cases h255 : 255 < S
              · have e1 : decide ((255 : Int) < (S : Int)) = true := decide_eq_true (by omega)
                have HZ := Lib.hid (HS13.out.1 (.inl h255))
                have HF := Lib.hid (HBW.out _ HB13.out)
                clear HS13 HBW HZB HB13 HI13 HO7
                go_wp2
                go_ret2
                exact ⟨_, [], 4, rfl, HZ.out, rds_nil _, HF.out⟩
              have e1 : decide ((255 : Int) < (S : Int)) = false := decide_eq_false (by omega)
              have e1' : ¬ (255 : Int) < (S : Int) := by omega
              by_cases hS0 : S = 0
              · have hs0 : s = [] := List.length_eq_zero_iff.1 (by rw [HSS.out]; exact hS0)
                have HOO : Hid (O = SQ) := by show _ = _; rw [HO.out, if_pos hs0]; simp
                have hol : O.length = K := by rw [HOO.out]; exact HKK.out
                have HOW := Lib.hid (HO7.out.below HB13.out)
                obtain ⟨a15, c15, hf15⟩ := HOW.out.rd.form
                rw [HKK.out] at hf15
                have HRD : Hid (RdS w13 v7 O) := by rw [HOO.out]; exact HOW.out.rd
                have HF := Lib.hid (HBW.out _ HB13.out)
                subst hf15
                rw [hol] at HS13
                subst hS0
                clear HO HO7 HOW HBW HZB HB13 HI13 hol hs0 h255
                by_cases h64 : 64 < K
                · have k1 : decide ((64 : Int) < (K : Int)) = true := decide_eq_true (by omega)
                  have k2 : (64 : Int) < (K : Int) := by omega
                  have HZ := Lib.hid (HS13.out.1 (.inr h64))
                  clear HS13
                  go_wp2
                  go_ret2
                  exact ⟨_, [], 4, rfl, HZ.out, rds_nil _, HF.out⟩
                · have k1 : decide ((64 : Int) < (K : Int)) = false := decide_eq_false (by omega)
                  have k2 : ¬ (64 : Int) < (K : Int) := by omega
                  have HZ := Lib.hid (HS13.out.2 (fun h => h.elim (fun h => by omega) h64))
                  clear HS13
                  go_wp2
                  go_ret2
                  exact ⟨_, O, 0, rfl, HZ.out, HRD.out, HF.out⟩
              have hs0 : s ≠ [] := fun e => hS0 (by rw [← HSS.out, e]; rfl)
              have HOO : Hid (O = SQ ++ [⟨1, s⟩]) := by show _ = _; rw [HO.out, if_neg hs0]
              have hol : O.length = K + 1 := by rw [HOO.out, List.length_append, HKK.out]; rfl
              have HOL := Lib.hid hol
              rw [hol] at HS13
              have e2 : decide ((0 : Int) < (S : Int)) = true := decide_eq_true (by omega)
              have e2' : (0 : Int) < (S : Int) := by omega
              have hbx : Below w13.heap.size w13 (w13.alloc (.cells #[.int .i64 1, .slice a13 S c13] 46)) := below_alloc _ _
              have HX : Hid (OwnP wz.heap.size (w13.alloc (.cells #[.int .i64 1, .slice a13 S c13] 46)) v7 SQ) := HO7.out.below (below_then HB13.out hbx)
              have HU : Hid (∀ g, (v7.ownBlock = some g ∨ (v7.ownBlock = none ∧ g = (w13.alloc (.cells #[.int .i64 1, .slice a13 S c13] 46)).heap.size)) → RdN g (w13.alloc (.cells #[.int .i64 1, .slice a13 S c13] 46)) (.slice a13 S c13) s) := fun g hg => by
                rcases hg with e | ⟨_, e⟩
                · have hgl : g < w7.heap.size := by
                    rcases HO7.out.2 with ⟨e2, _⟩ | ⟨g', cap', q', e2, ho', _⟩
                    · rw [e2] at e; cases e
                    · rw [e2] at e; cases e; exact (ownsRow_lt (e2 ▸ ho')).2
                  exact (HI13.out.1.away (by have := HZB.out.1; omega)).below hbx
                · rw [e]; exact HI13.out.1.rd.away (by simp) hbx
              have H3 : Hid ((w13.alloc (.cells #[.int .i64 1, .slice a13 S c13] 46)).cell? ⟨w13.heap.size, 0, none⟩ = some (.int .i64 1) ∧ (w13.alloc (.cells #[.int .i64 1, .slice a13 S c13] 46)).cell? ⟨w13.heap.size, 1, none⟩ = some (.slice a13 S c13)) := ⟨cell_of (heap_alloc_new _ _) rfl, cell_of (heap_alloc_new _ _) rfl⟩
              have H4 : Hid (SQ.length ≤ 2000000) := by show _ ≤ _; have := HKK.out; omega
              have HBZ : Hid (wz.heap.size ≤ (w13.alloc (.cells #[.int .i64 1, .slice a13 S c13] 46)).heap.size ∧ Below wz.heap.size wz (w13.alloc (.cells #[.int .i64 1, .slice a13 S c13] 46))) := by
                have h := below_then HZ7.out (below_then HB13.out hbx)
                exact ⟨h.size, h⟩
              have HBF : Hid (∀ W, Below wz.heap.size wz W → Below w.heap.size w W) := fun W hW => below_then HBQ.out hW
              clear HO HO7 HI13 hol hs0 hbx HB13 HZB HBW h255
              by_cases h64 : 64 < K + 1
              · have HZ := Lib.hid (HS13.out.1 (.inr h64))
                have k3 : decide ((64 : Int) < ((K + 1 : Nat) : Int)) = true := decide_eq_true (by omega)
                have k4 : decide ((64 : Int) < (K : Int) + 1) = true := decide_eq_true (by omega)
                have k5 : (64 : Int) < (K : Int) + 1 := by omega
                clear HS13
                go_wp2_with (at_builtin; refine append_seg rfl (.tmp 76) (.tmp 79) rfl wz.heap.size HBZ.out.1 v7 SQ rfl HX.out w13.heap.size 1 (.slice a13 S c13) s rfl H3.out.1 H3.out.2 HU.out H4.out ?_; intro v16 w16 hown hgrow hbl hbk; have HRD : Hid (RdS w16 v16 O) := (by show RdS _ _ _; rw [HOO.out]; exact hown.rd); have B2 : Hid (Below wz.heap.size wz w16) := HBZ.out.2.trans hbl; obtain ⟨a16, c16, hf16⟩ := HRD.out.form; rw [HOL.out] at hf16; subst hf16; clear hown hgrow hbl hbk)
                go_ret2
                exact ⟨_, [], 4, rfl, HZ.out, rds_nil _, HBF.out _ B2.out⟩
              · have HZ := Lib.hid (HS13.out.2 (fun h => h.elim (fun h => by omega) h64))
                have k3 : decide ((64 : Int) < ((K + 1 : Nat) : Int)) = false := decide_eq_false (by omega)
                have k4 : decide ((64 : Int) < (K : Int) + 1) = false := decide_eq_false (by omega)
                have k5 : ¬ (64 : Int) < (K : Int) + 1 := by omega
                clear HS13
                go_wp2_with (at_builtin; refine append_seg rfl (.tmp 76) (.tmp 79) rfl wz.heap.size HBZ.out.1 v7 SQ rfl HX.out w13.heap.size 1 (.slice a13 S c13) s rfl H3.out.1 H3.out.2 HU.out H4.out ?_; intro v16 w16 hown hgrow hbl hbk; have HRD : Hid (RdS w16 v16 O) := (by show RdS _ _ _; rw [HOO.out]; exact hown.rd); have B2 : Hid (Below wz.heap.size wz w16) := HBZ.out.2.trans hbl; obtain ⟨a16, c16, hf16⟩ := HRD.out.form; rw [HOL.out] at hf16; subst hf16; clear hown hgrow hbl hbk)
                go_ret2
                exact ⟨_, O, 0, rfl, HZ.out, HRD.out, HBF.out _ B2.out⟩
          · have i4 : decide ((k : Int) < (LY : Int)) = false := decide_eq_false (by omega)
            have HBK : Hid (both p r = X.take k) := HEND.out fun x' y' hx' hy' => by
              have := (List.getElem?_eq_some_iff.1 hy').1
              have := HLY.out
              omega
            clear hx cx
            go_wp2_with fail
            go_quiet (fail)
            have HW2 : Hid (Below w6.heap.size w6 (wr.drewN nq)) := below_drewN HW.out _
            generalize wr.drewN nq = wz at *
            have hkm : k ≤ (flat (strip p)).length ∧ k ≤ (flat (strip r)).length := by have := HLL.out; omega
            have hbl : (both p r).length = k := by rw [HBK.out, List.length_take]; have := HLX.out; omega
            have hxk : RdI wz (.slice (some ⟨b5, o5, none⟩) k vc5) (both p r) := by
              rw [HBK.out]; exact (HX5.out.below HW2.out).take k (by rw [HLX.out]; exact hkx)
            have HSQ := Lib.hid (rseqs_any 2 (both p r) _ wz hxk (by omega))
            have HBL := Lib.hid hbl
            have HKM := Lib.hid hkm
            have j1 : (0 : Int) ≤ (k : Int) := by omega
            have j2 : (k : Int) ≤ (vc5 : Int) := by omega
            have j3 : (k : Int) ≤ (LX : Int) := by omega
            clear HA HEND HW hxk HX5 HC5 HC6 HBO HLL HLX HLY HBK hbl
            go_wp2_with fail
            go_at_call 58
            refine HSQ.out.mono ?_
            rintro e w7 ⟨v7, rfl, ho7, hb7⟩
            have HO7 := Lib.hid ho7
            have HB7 := Lib.hid (below_then (below_then HB6.out HW2.out) hb7)
            have HZ7 := Lib.hid hb7
            have HB7b := Lib.hid HB7.out
            have HBQ := Lib.hid (below_then HB4.out (below_then HB6.out HW2.out))
            obtain ⟨a7, c7, hf7⟩ := ho7.rd.form
            clear ho7 hb7 HSQ HW2 HB6
            obtain ⟨M1, hM1⟩ : ∃ M1, (flat (strip p)).length = M1 := ⟨_, rfl⟩
            obtain ⟨M2, hM2⟩ : ∃ M2, (flat (strip r)).length = M2 := ⟨_, rfl⟩
            have HFA : Hid (∀ W, Below w7.heap.size w7 W → Calls Tryz.prog 28 #[v3] W fun e w' => ∃ a c, e = .returned (.slice a M1 c) ∧ RdI w' (.slice a M1 c) (flat (strip p)) ∧ Below W.heap.size W w') := fun W hW => (rflat_any (strip p) v3 W (HR3'.out W (below_then HB7.out hW)) (by have := HN1.out; omega)).mono fun e w' ⟨v', he, hi⟩ => by
              obtain ⟨a, c, e1⟩ := hi.1.rd.form
              rw [hM1] at e1
              exact ⟨a, c, by rw [he, e1], e1 ▸ hi.1.rd, hi.2⟩
            have HFB : Hid (∀ W, Below w7.heap.size w7 W → Calls Tryz.prog 28 #[v4] W fun e w' => ∃ a c, e = .returned (.slice a M2 c) ∧ RdI w' (.slice a M2 c) (flat (strip r)) ∧ Below W.heap.size W w') := fun W hW => (rflat_any (strip r) v4 W (HR4.out W (below_then HB7.out hW)) (by have := HN1.out; omega)).mono fun e w' ⟨v', he, hi⟩ => by
              obtain ⟨a, c, e1⟩ := hi.1.rd.form
              rw [hM2] at e1
              exact ⟨a, c, by rw [he, e1], e1 ▸ hi.1.rd, hi.2⟩
            have HRM : Hid (restM p r = (flat (strip p)).drop k ++ (flat (strip r)).drop k) := by show _ = _; unfold restM; rw [HBL.out]
            have HL1 : Hid (([] : List Int).length + ((flat (strip p)).drop k).length ≤ 2000000) := by show _ ≤ _; rw [List.length_drop]; have := HN1.out; simp; omega
            have HL2 : Hid (((flat (strip p)).drop k).length + ((flat (strip r)).drop k).length ≤ 2000000) := by show _ ≤ _; rw [List.length_drop, List.length_drop]; have := HN1.out; omega
            have m0 : (0 : Int) ≤ (k : Int) := by omega
            have m1 : (k : Int) ≤ (M1 : Int) := by have := HKM.out; omega
            have m2 : (k : Int) ≤ (M2 : Int) := by have := HKM.out; omega
            have HSL : Hid ((seqs 2 (both p r)).length ≤ 1000000) := Nat.le_trans (seqs_len0 2 _ _ rfl) (by rw [HBL.out]; omega)
            have HKM1 := Lib.hid (show k ≤ (flat (strip p)).length from HKM.out.1)
            have HKM2 := Lib.hid (show k ≤ (flat (strip r)).length from HKM.out.2)
            have hX8 : Below w7.heap.size w7 (w7.alloc (.cells #[] 3)) := below_alloc _ _
            have HX8 := Lib.hid hX8
            have HO8 : Hid (OwnI w7.heap.size (w7.alloc (.cells #[] 3)) (.slice (some ⟨w7.heap.size, 0, none⟩) 0 0) []) := ⟨hX8.size, World.ownsRow_made w7 #[] 0 (Nat.le_refl _) (Nat.zero_le _) (by simp)⟩
            clear hM1 hM2 hX8 hkm HKM HR3' HR4 HN1 HB7 hf7
            go_wp2_with (first
              | (go_at_call 28; refine (HFA.out _ HX8.out).mono ?_; rintro e w9 ⟨A1, C1, rfl, hA, hb⟩; have HB9 := Lib.hid (below_then HX8.out hb); have HO9 := Lib.hid (HO8.out.below hb); obtain ⟨B1, hif1⟩ : ∃ B1, (if C1 = k then A1 else Option.map (fun x => Addr.add x k) A1) = B1 := ⟨_, rfl⟩; have HR9 : Hid (RdI w9 (.slice B1 (M1 - k) (C1 - k)) ((flat (strip p)).drop k)) := (by have := hA.dropIf HKM1.out; rw [hif1] at this; exact this); clear hA hb HFA HO8 HX8)
              | (at_builtin; refine append_rdI rfl (.tmp 58) (.tmp 62) rfl w7.heap.size HB9.out.size _ [] rfl HO9.out _ _ rfl HR9.out HL1.out ?_; intro v10 w10 hown hb; rw [List.nil_append] at hown; have HO10 := Lib.hid hown; have HB10 := Lib.hid (HB9.out.trans hb); clear hown hb HO9 HR9 HB9 HL1)
              | (go_at_call 28; refine (HFB.out _ HB10.out).mono ?_; rintro e w11 ⟨A2, C2, rfl, hA, hb⟩; have HB11 := Lib.hid (below_then HB10.out hb); have HO11 := Lib.hid (HO10.out.below hb); obtain ⟨B2, hif2⟩ : ∃ B2, (if C2 = k then A2 else Option.map (fun x => Addr.add x k) A2) = B2 := ⟨_, rfl⟩; have HR11 : Hid (RdI w11 (.slice B2 (M2 - k) (C2 - k)) ((flat (strip r)).drop k)) := (by have := hA.dropIf HKM2.out; rw [hif2] at this; exact this); clear hA hb HFB HO10 HB10)
              | (at_builtin; refine append_rdI rfl (.tmp 63) (.tmp 67) rfl w7.heap.size HB11.out.size _ _ rfl HO11.out _ _ rfl HR11.out HL2.out ?_; intro v12 w12 hown hb; have HO12 : Hid (OwnI w7.heap.size w12 v12 (restM p r)) := (by show OwnI _ _ _ _; rw [HRM.out]; exact hown); have HB12 := Lib.hid (HB11.out.trans hb); clear hown hb HO11 HR11 HB11))
            go_at_call 71
            refine (rasc_any (restM p r) v12 w12 HO12.out.rd HOK2.out.1 (by rw [HRM.out, List.length_append]; exact HL2.out)).mono ?_
            rintro e w13 ⟨v13, s, rfl, hs, hi⟩
            have HS13 := Lib.hid (HOK2.out.2 s hs)
            have HI13 := Lib.hid hi
            have HB13 := Lib.hid (below_then HB12.out hi.2)
            obtain ⟨a13, c13, hf13⟩ := hi.1.rd.form
            subst hf13
            clear hs hi HO12
            have HBW : Hid (∀ W, Below w7.heap.size w7 W → Below w.heap.size w W) := fun W hW => below_then (below_then HB4.out HB7b.out) hW
            have HO : Hid (outM p r s = seqs 2 (both p r) ++ if s = [] then [] else [⟨1, s⟩]) := rfl
            obtain ⟨SQ, hSQ⟩ : ∃ SQ, seqs 2 (both p r) = SQ := ⟨_, rfl⟩
            rw [hSQ] at HO7 HO HSL
            generalize outM p r s = O at *
            obtain ⟨S, hS⟩ : ∃ S, s.length = S := ⟨_, rfl⟩
            rw [hS] at HS13 HI13 ⊢
            have HSS := Lib.hid hS
            obtain ⟨K, hK⟩ : ∃ K, SQ.length = K := ⟨_, rfl⟩
            have HKK := Lib.hid hK
            have hKl : K ≤ 1000000 := by have := HSL.out; omega
            have HZB := Lib.hid (And.intro HB12.out.size HB13.out)
            clear hS hK hSQ HOK2 HRM HL2 HKM1 HKM2 HBL HB12 HB7b
            by_cases h255 : 255 < S
            · have e1 : decide ((255 : Int) < (S : Int)) = true := decide_eq_true (by omega)
              have HZ := Lib.hid (HS13.out.1 (.inl h255))
              have HF := Lib.hid (HBW.out _ HB13.out)
              clear HS13 HBW HZB HB13 HI13 HO7
              go_wp2
              go_ret2
              exact ⟨_, [], 4, rfl, HZ.out, rds_nil _, HF.out⟩
            have e1 : decide ((255 : Int) < (S : Int)) = false := decide_eq_false (by omega)
            have e1' : ¬ (255 : Int) < (S : Int) := by omega
            by_cases hS0 : S = 0
            · have hs0 : s = [] := List.length_eq_zero_iff.1 (by rw [HSS.out]; exact hS0)
              have HOO : Hid (O = SQ) := by show _ = _; rw [HO.out, if_pos hs0]; simp
              have hol : O.length = K := by rw [HOO.out]; exact HKK.out
              have HOW := Lib.hid (HO7.out.below HB13.out)
              obtain ⟨a15, c15, hf15⟩ := HOW.out.rd.form
              rw [HKK.out] at hf15
              have HRD : Hid (RdS w13 v7 O) := by rw [HOO.out]; exact HOW.out.rd
              have HF := Lib.hid (HBW.out _ HB13.out)
              subst hf15
              rw [hol] at HS13
              subst hS0
              clear HO HO7 HOW HBW HZB HB13 HI13 hol hs0 h255
              by_cases h64 : 64 < K
              · have k1 : decide ((64 : Int) < (K : Int)) = true := decide_eq_true (by omega)
                have k2 : (64 : Int) < (K : Int) := by omega
                have HZ := Lib.hid (HS13.out.1 (.inr h64))
                clear HS13
                go_wp2
                go_ret2
                exact ⟨_, [], 4, rfl, HZ.out, rds_nil _, HF.out⟩
              · have k1 : decide ((64 : Int) < (K : Int)) = false := decide_eq_false (by omega)
                have k2 : ¬ (64 : Int) < (K : Int) := by omega
                have HZ := Lib.hid (HS13.out.2 (fun h => h.elim (fun h => by omega) h64))
                clear HS13
                go_wp2
                go_ret2
                exact ⟨_, O, 0, rfl, HZ.out, HRD.out, HF.out⟩
            have hs0 : s ≠ [] := fun e => hS0 (by rw [← HSS.out, e]; rfl)
            have HOO : Hid (O = SQ ++ [⟨1, s⟩]) := by show _ = _; rw [HO.out, if_neg hs0]
            have hol : O.length = K + 1 := by rw [HOO.out, List.length_append, HKK.out]; rfl
            have HOL := Lib.hid hol
            rw [hol] at HS13
            have e2 : decide ((0 : Int) < (S : Int)) = true := decide_eq_true (by omega)
            have e2' : (0 : Int) < (S : Int) := by omega
            have hbx : Below w13.heap.size w13 (w13.alloc (.cells #[.int .i64 1, .slice a13 S c13] 46)) := below_alloc _ _
            have HX : Hid (OwnP wz.heap.size (w13.alloc (.cells #[.int .i64 1, .slice a13 S c13] 46)) v7 SQ) := HO7.out.below (below_then HB13.out hbx)
            have HU : Hid (∀ g, (v7.ownBlock = some g ∨ (v7.ownBlock = none ∧ g = (w13.alloc (.cells #[.int .i64 1, .slice a13 S c13] 46)).heap.size)) → RdN g (w13.alloc (.cells #[.int .i64 1, .slice a13 S c13] 46)) (.slice a13 S c13) s) := fun g hg => by
              rcases hg with e | ⟨_, e⟩
              · have hgl : g < w7.heap.size := by
                  rcases HO7.out.2 with ⟨e2, _⟩ | ⟨g', cap', q', e2, ho', _⟩
                  · rw [e2] at e; cases e
                  · rw [e2] at e; cases e; exact (ownsRow_lt (e2 ▸ ho')).2
                exact (HI13.out.1.away (by have := HZB.out.1; omega)).below hbx
              · rw [e]; exact HI13.out.1.rd.away (by simp) hbx
            have H3 : Hid ((w13.alloc (.cells #[.int .i64 1, .slice a13 S c13] 46)).cell? ⟨w13.heap.size, 0, none⟩ = some (.int .i64 1) ∧ (w13.alloc (.cells #[.int .i64 1, .slice a13 S c13] 46)).cell? ⟨w13.heap.size, 1, none⟩ = some (.slice a13 S c13)) := ⟨cell_of (heap_alloc_new _ _) rfl, cell_of (heap_alloc_new _ _) rfl⟩
            have H4 : Hid (SQ.length ≤ 2000000) := by show _ ≤ _; have := HKK.out; omega
            have HBZ : Hid (wz.heap.size ≤ (w13.alloc (.cells #[.int .i64 1, .slice a13 S c13] 46)).heap.size ∧ Below wz.heap.size wz (w13.alloc (.cells #[.int .i64 1, .slice a13 S c13] 46))) := by
              have h := below_then HZ7.out (below_then HB13.out hbx)
              exact ⟨h.size, h⟩
            have HBF : Hid (∀ W, Below wz.heap.size wz W → Below w.heap.size w W) := fun W hW => below_then HBQ.out hW
            clear HO HO7 HI13 hol hs0 hbx HB13 HZB HBW h255
            by_cases h64 : 64 < K + 1
            · have HZ := Lib.hid (HS13.out.1 (.inr h64))
              have k3 : decide ((64 : Int) < ((K + 1 : Nat) : Int)) = true := decide_eq_true (by omega)
              have k4 : decide ((64 : Int) < (K : Int) + 1) = true := decide_eq_true (by omega)
              have k5 : (64 : Int) < (K : Int) + 1 := by omega
              clear HS13
              go_wp2_with (at_builtin; refine append_seg rfl (.tmp 76) (.tmp 79) rfl wz.heap.size HBZ.out.1 v7 SQ rfl HX.out w13.heap.size 1 (.slice a13 S c13) s rfl H3.out.1 H3.out.2 HU.out H4.out ?_; intro v16 w16 hown hgrow hbl hbk; have HRD : Hid (RdS w16 v16 O) := (by show RdS _ _ _; rw [HOO.out]; exact hown.rd); have B2 : Hid (Below wz.heap.size wz w16) := HBZ.out.2.trans hbl; obtain ⟨a16, c16, hf16⟩ := HRD.out.form; rw [HOL.out] at hf16; subst hf16; clear hown hgrow hbl hbk)
              go_ret2
              exact ⟨_, [], 4, rfl, HZ.out, rds_nil _, HBF.out _ B2.out⟩
            · have HZ := Lib.hid (HS13.out.2 (fun h => h.elim (fun h => by omega) h64))
              have k3 : decide ((64 : Int) < ((K + 1 : Nat) : Int)) = false := decide_eq_false (by omega)
              have k4 : decide ((64 : Int) < (K : Int) + 1) = false := decide_eq_false (by omega)
              have k5 : ¬ (64 : Int) < (K : Int) + 1 := by omega
              clear HS13
              go_wp2_with (at_builtin; refine append_seg rfl (.tmp 76) (.tmp 79) rfl wz.heap.size HBZ.out.1 v7 SQ rfl HX.out w13.heap.size 1 (.slice a13 S c13) s rfl H3.out.1 H3.out.2 HU.out H4.out ?_; intro v16 w16 hown hgrow hbl hbk; have HRD : Hid (RdS w16 v16 O) := (by show RdS _ _ _; rw [HOO.out]; exact hown.rd); have B2 : Hid (Below wz.heap.size wz w16) := HBZ.out.2.trans hbl; obtain ⟨a16, c16, hf16⟩ := HRD.out.form; rw [HOL.out] at hf16; subst hf16; clear hown hgrow hbl hbk)
              go_ret2
              exact ⟨_, O, 0, rfl, HZ.out, HRD.out, HBF.out _ B2.out⟩
        · have i2 : decide ((k : Int) < (LX : Int)) = false := decide_eq_false (by omega)
          have HBK : Hid (both p r = X.take k) := HEND.out fun x' y' hx' hy' => by
            have := (List.getElem?_eq_some_iff.1 hx').1
            have := HLX.out
            omega
          go_wp2_with fail
          go_quiet (fail)
          have HW2 : Hid (Below w6.heap.size w6 (wr.drewN nq)) := below_drewN HW.out _
          generalize wr.drewN nq = wz at *
          have hkm : k ≤ (flat (strip p)).length ∧ k ≤ (flat (strip r)).length := by have := HLL.out; omega
          have hbl : (both p r).length = k := by rw [HBK.out, List.length_take]; have := HLX.out; omega
          have hxk : RdI wz (.slice va5 k vc5) (both p r) := by
            rw [HBK.out]; exact (HX5.out.below HW2.out).take k (by rw [HLX.out]; exact hkx)
          have HSQ := Lib.hid (rseqs_any 2 (both p r) _ wz hxk (by omega))
          have HBL := Lib.hid hbl
          have HKM := Lib.hid hkm
          have j1 : (0 : Int) ≤ (k : Int) := by omega
          have j2 : (k : Int) ≤ (vc5 : Int) := by omega
          have j3 : (k : Int) ≤ (LX : Int) := by omega
          clear HA HEND HW hxk HX5 HC5 HC6 HBO HLL HLX HLY HBK hbl
          go_wp2_with fail
          go_at_call 58
          refine HSQ.out.mono ?_
          rintro e w7 ⟨v7, rfl, ho7, hb7⟩
          have HO7 := Lib.hid ho7
          have HB7 := Lib.hid (below_then (below_then HB6.out HW2.out) hb7)
          have HZ7 := Lib.hid hb7
          have HB7b := Lib.hid HB7.out
          have HBQ := Lib.hid (below_then HB4.out (below_then HB6.out HW2.out))
          obtain ⟨a7, c7, hf7⟩ := ho7.rd.form
          clear ho7 hb7 HSQ HW2 HB6
          obtain ⟨M1, hM1⟩ : ∃ M1, (flat (strip p)).length = M1 := ⟨_, rfl⟩
          obtain ⟨M2, hM2⟩ : ∃ M2, (flat (strip r)).length = M2 := ⟨_, rfl⟩
          have HFA : Hid (∀ W, Below w7.heap.size w7 W → Calls Tryz.prog 28 #[v3] W fun e w' => ∃ a c, e = .returned (.slice a M1 c) ∧ RdI w' (.slice a M1 c) (flat (strip p)) ∧ Below W.heap.size W w') := fun W hW => (rflat_any (strip p) v3 W (HR3'.out W (below_then HB7.out hW)) (by have := HN1.out; omega)).mono fun e w' ⟨v', he, hi⟩ => by
            obtain ⟨a, c, e1⟩ := hi.1.rd.form
            rw [hM1] at e1
            exact ⟨a, c, by rw [he, e1], e1 ▸ hi.1.rd, hi.2⟩
          have HFB : Hid (∀ W, Below w7.heap.size w7 W → Calls Tryz.prog 28 #[v4] W fun e w' => ∃ a c, e = .returned (.slice a M2 c) ∧ RdI w' (.slice a M2 c) (flat (strip r)) ∧ Below W.heap.size W w') := fun W hW => (rflat_any (strip r) v4 W (HR4.out W (below_then HB7.out hW)) (by have := HN1.out; omega)).mono fun e w' ⟨v', he, hi⟩ => by
            obtain ⟨a, c, e1⟩ := hi.1.rd.form
            rw [hM2] at e1
            exact ⟨a, c, by rw [he, e1], e1 ▸ hi.1.rd, hi.2⟩
          have HRM : Hid (restM p r = (flat (strip p)).drop k ++ (flat (strip r)).drop k) := by show _ = _; unfold restM; rw [HBL.out]
          have HL1 : Hid (([] : List Int).length + ((flat (strip p)).drop k).length ≤ 2000000) := by show _ ≤ _; rw [List.length_drop]; have := HN1.out; simp; omega
          have HL2 : Hid (((flat (strip p)).drop k).length + ((flat (strip r)).drop k).length ≤ 2000000) := by show _ ≤ _; rw [List.length_drop, List.length_drop]; have := HN1.out; omega
          have m0 : (0 : Int) ≤ (k : Int) := by omega
          have m1 : (k : Int) ≤ (M1 : Int) := by have := HKM.out; omega
          have m2 : (k : Int) ≤ (M2 : Int) := by have := HKM.out; omega
          have HSL : Hid ((seqs 2 (both p r)).length ≤ 1000000) := Nat.le_trans (seqs_len0 2 _ _ rfl) (by rw [HBL.out]; omega)
          have HKM1 := Lib.hid (show k ≤ (flat (strip p)).length from HKM.out.1)
          have HKM2 := Lib.hid (show k ≤ (flat (strip r)).length from HKM.out.2)
          have hX8 : Below w7.heap.size w7 (w7.alloc (.cells #[] 3)) := below_alloc _ _
          have HX8 := Lib.hid hX8
          have HO8 : Hid (OwnI w7.heap.size (w7.alloc (.cells #[] 3)) (.slice (some ⟨w7.heap.size, 0, none⟩) 0 0) []) := ⟨hX8.size, World.ownsRow_made w7 #[] 0 (Nat.le_refl _) (Nat.zero_le _) (by simp)⟩
          clear hM1 hM2 hX8 hkm HKM HR3' HR4 HN1 HB7 hf7
          go_wp2_with (first
            | (go_at_call 28; refine (HFA.out _ HX8.out).mono ?_; rintro e w9 ⟨A1, C1, rfl, hA, hb⟩; have HB9 := Lib.hid (below_then HX8.out hb); have HO9 := Lib.hid (HO8.out.below hb); obtain ⟨B1, hif1⟩ : ∃ B1, (if C1 = k then A1 else Option.map (fun x => Addr.add x k) A1) = B1 := ⟨_, rfl⟩; have HR9 : Hid (RdI w9 (.slice B1 (M1 - k) (C1 - k)) ((flat (strip p)).drop k)) := (by have := hA.dropIf HKM1.out; rw [hif1] at this; exact this); clear hA hb HFA HO8 HX8)
            | (at_builtin; refine append_rdI rfl (.tmp 58) (.tmp 62) rfl w7.heap.size HB9.out.size _ [] rfl HO9.out _ _ rfl HR9.out HL1.out ?_; intro v10 w10 hown hb; rw [List.nil_append] at hown; have HO10 := Lib.hid hown; have HB10 := Lib.hid (HB9.out.trans hb); clear hown hb HO9 HR9 HB9 HL1)
            | (go_at_call 28; refine (HFB.out _ HB10.out).mono ?_; rintro e w11 ⟨A2, C2, rfl, hA, hb⟩; have HB11 := Lib.hid (below_then HB10.out hb); have HO11 := Lib.hid (HO10.out.below hb); obtain ⟨B2, hif2⟩ : ∃ B2, (if C2 = k then A2 else Option.map (fun x => Addr.add x k) A2) = B2 := ⟨_, rfl⟩; have HR11 : Hid (RdI w11 (.slice B2 (M2 - k) (C2 - k)) ((flat (strip r)).drop k)) := (by have := hA.dropIf HKM2.out; rw [hif2] at this; exact this); clear hA hb HFB HO10 HB10)
            | (at_builtin; refine append_rdI rfl (.tmp 63) (.tmp 67) rfl w7.heap.size HB11.out.size _ _ rfl HO11.out _ _ rfl HR11.out HL2.out ?_; intro v12 w12 hown hb; have HO12 : Hid (OwnI w7.heap.size w12 v12 (restM p r)) := (by show OwnI _ _ _ _; rw [HRM.out]; exact hown); have HB12 := Lib.hid (HB11.out.trans hb); clear hown hb HO11 HR11 HB11))
          go_at_call 71
          refine (rasc_any (restM p r) v12 w12 HO12.out.rd HOK2.out.1 (by rw [HRM.out, List.length_append]; exact HL2.out)).mono ?_
          rintro e w13 ⟨v13, s, rfl, hs, hi⟩
          have HS13 := Lib.hid (HOK2.out.2 s hs)
          have HI13 := Lib.hid hi
          have HB13 := Lib.hid (below_then HB12.out hi.2)
          obtain ⟨a13, c13, hf13⟩ := hi.1.rd.form
          subst hf13
          clear hs hi HO12
          have HBW : Hid (∀ W, Below w7.heap.size w7 W → Below w.heap.size w W) := fun W hW => below_then (below_then HB4.out HB7b.out) hW
          have HO : Hid (outM p r s = seqs 2 (both p r) ++ if s = [] then [] else [⟨1, s⟩]) := rfl
          obtain ⟨SQ, hSQ⟩ : ∃ SQ, seqs 2 (both p r) = SQ := ⟨_, rfl⟩
          rw [hSQ] at HO7 HO HSL
          generalize outM p r s = O at *
          obtain ⟨S, hS⟩ : ∃ S, s.length = S := ⟨_, rfl⟩
          rw [hS] at HS13 HI13 ⊢
          have HSS := Lib.hid hS
          obtain ⟨K, hK⟩ : ∃ K, SQ.length = K := ⟨_, rfl⟩
          have HKK := Lib.hid hK
          have hKl : K ≤ 1000000 := by have := HSL.out; omega
          have HZB := Lib.hid (And.intro HB12.out.size HB13.out)
          clear hS hK hSQ HOK2 HRM HL2 HKM1 HKM2 HBL HB12 HB7b
          by_cases h255 : 255 < S
          · have e1 : decide ((255 : Int) < (S : Int)) = true := decide_eq_true (by omega)
            have HZ := Lib.hid (HS13.out.1 (.inl h255))
            have HF := Lib.hid (HBW.out _ HB13.out)
            clear HS13 HBW HZB HB13 HI13 HO7
            go_wp2
            go_ret2
            exact ⟨_, [], 4, rfl, HZ.out, rds_nil _, HF.out⟩
          have e1 : decide ((255 : Int) < (S : Int)) = false := decide_eq_false (by omega)
          have e1' : ¬ (255 : Int) < (S : Int) := by omega
          by_cases hS0 : S = 0
          · have hs0 : s = [] := List.length_eq_zero_iff.1 (by rw [HSS.out]; exact hS0)
            have HOO : Hid (O = SQ) := by show _ = _; rw [HO.out, if_pos hs0]; simp
            have hol : O.length = K := by rw [HOO.out]; exact HKK.out
            have HOW := Lib.hid (HO7.out.below HB13.out)
            obtain ⟨a15, c15, hf15⟩ := HOW.out.rd.form
            rw [HKK.out] at hf15
            have HRD : Hid (RdS w13 v7 O) := by rw [HOO.out]; exact HOW.out.rd
            have HF := Lib.hid (HBW.out _ HB13.out)
            subst hf15
            rw [hol] at HS13
            subst hS0
            clear HO HO7 HOW HBW HZB HB13 HI13 hol hs0 h255
            by_cases h64 : 64 < K
            · have k1 : decide ((64 : Int) < (K : Int)) = true := decide_eq_true (by omega)
              have k2 : (64 : Int) < (K : Int) := by omega
              have HZ := Lib.hid (HS13.out.1 (.inr h64))
              clear HS13
              go_wp2
              go_ret2
              exact ⟨_, [], 4, rfl, HZ.out, rds_nil _, HF.out⟩
            · have k1 : decide ((64 : Int) < (K : Int)) = false := decide_eq_false (by omega)
              have k2 : ¬ (64 : Int) < (K : Int) := by omega
              have HZ := Lib.hid (HS13.out.2 (fun h => h.elim (fun h => by omega) h64))
              clear HS13
              go_wp2
              go_ret2
              exact ⟨_, O, 0, rfl, HZ.out, HRD.out, HF.out⟩
          have hs0 : s ≠ [] := fun e => hS0 (by rw [← HSS.out, e]; rfl)
          have HOO : Hid (O = SQ ++ [⟨1, s⟩]) := by show _ = _; rw [HO.out, if_neg hs0]
          have hol : O.length = K + 1 := by rw [HOO.out, List.length_append, HKK.out]; rfl
          have HOL := Lib.hid hol
          rw [hol] at HS13
          have e2 : decide ((0 : Int) < (S : Int)) = true := decide_eq_true (by omega)
          have e2' : (0 : Int) < (S : Int) := by omega
          have hbx : Below w13.heap.size w13 (w13.alloc (.cells #[.int .i64 1, .slice a13 S c13] 46)) := below_alloc _ _
          have HX : Hid (OwnP wz.heap.size (w13.alloc (.cells #[.int .i64 1, .slice a13 S c13] 46)) v7 SQ) := HO7.out.below (below_then HB13.out hbx)
          have HU : Hid (∀ g, (v7.ownBlock = some g ∨ (v7.ownBlock = none ∧ g = (w13.alloc (.cells #[.int .i64 1, .slice a13 S c13] 46)).heap.size)) → RdN g (w13.alloc (.cells #[.int .i64 1, .slice a13 S c13] 46)) (.slice a13 S c13) s) := fun g hg => by
            rcases hg with e | ⟨_, e⟩
            · have hgl : g < w7.heap.size := by
                rcases HO7.out.2 with ⟨e2, _⟩ | ⟨g', cap', q', e2, ho', _⟩
                · rw [e2] at e; cases e
                · rw [e2] at e; cases e; exact (ownsRow_lt (e2 ▸ ho')).2
              exact (HI13.out.1.away (by have := HZB.out.1; omega)).below hbx
            · rw [e]; exact HI13.out.1.rd.away (by simp) hbx
          have H3 : Hid ((w13.alloc (.cells #[.int .i64 1, .slice a13 S c13] 46)).cell? ⟨w13.heap.size, 0, none⟩ = some (.int .i64 1) ∧ (w13.alloc (.cells #[.int .i64 1, .slice a13 S c13] 46)).cell? ⟨w13.heap.size, 1, none⟩ = some (.slice a13 S c13)) := ⟨cell_of (heap_alloc_new _ _) rfl, cell_of (heap_alloc_new _ _) rfl⟩
          have H4 : Hid (SQ.length ≤ 2000000) := by show _ ≤ _; have := HKK.out; omega
          have HBZ : Hid (wz.heap.size ≤ (w13.alloc (.cells #[.int .i64 1, .slice a13 S c13] 46)).heap.size ∧ Below wz.heap.size wz (w13.alloc (.cells #[.int .i64 1, .slice a13 S c13] 46))) := by
            have h := below_then HZ7.out (below_then HB13.out hbx)
            exact ⟨h.size, h⟩
          have HBF : Hid (∀ W, Below wz.heap.size wz W → Below w.heap.size w W) := fun W hW => below_then HBQ.out hW
          clear HO HO7 HI13 hol hs0 hbx HB13 HZB HBW h255
          by_cases h64 : 64 < K + 1
          · have HZ := Lib.hid (HS13.out.1 (.inr h64))
            have k3 : decide ((64 : Int) < ((K + 1 : Nat) : Int)) = true := decide_eq_true (by omega)
            have k4 : decide ((64 : Int) < (K : Int) + 1) = true := decide_eq_true (by omega)
            have k5 : (64 : Int) < (K : Int) + 1 := by omega
            clear HS13
            go_wp2_with (at_builtin; refine append_seg rfl (.tmp 76) (.tmp 79) rfl wz.heap.size HBZ.out.1 v7 SQ rfl HX.out w13.heap.size 1 (.slice a13 S c13) s rfl H3.out.1 H3.out.2 HU.out H4.out ?_; intro v16 w16 hown hgrow hbl hbk; have HRD : Hid (RdS w16 v16 O) := (by show RdS _ _ _; rw [HOO.out]; exact hown.rd); have B2 : Hid (Below wz.heap.size wz w16) := HBZ.out.2.trans hbl; obtain ⟨a16, c16, hf16⟩ := HRD.out.form; rw [HOL.out] at hf16; subst hf16; clear hown hgrow hbl hbk)
            go_ret2
            exact ⟨_, [], 4, rfl, HZ.out, rds_nil _, HBF.out _ B2.out⟩
          · have HZ := Lib.hid (HS13.out.2 (fun h => h.elim (fun h => by omega) h64))
            have k3 : decide ((64 : Int) < ((K + 1 : Nat) : Int)) = false := decide_eq_false (by omega)
            have k4 : decide ((64 : Int) < (K : Int) + 1) = false := decide_eq_false (by omega)
            have k5 : ¬ (64 : Int) < (K : Int) + 1 := by omega
            clear HS13
            go_wp2_with (at_builtin; refine append_seg rfl (.tmp 76) (.tmp 79) rfl wz.heap.size HBZ.out.1 v7 SQ rfl HX.out w13.heap.size 1 (.slice a13 S c13) s rfl H3.out.1 H3.out.2 HU.out H4.out ?_; intro v16 w16 hown hgrow hbl hbk; have HRD : Hid (RdS w16 v16 O) := (by show RdS _ _ _; rw [HOO.out]; exact hown.rd); have B2 : Hid (Below wz.heap.size wz w16) := HBZ.out.2.trans hbl; obtain ⟨a16, c16, hf16⟩ := HRD.out.form; rw [HOL.out] at hf16; subst hf16; clear hown hgrow hbl hbk)
            go_ret2
            exact ⟨_, O, 0, rfl, HZ.out, HRD.out, HBF.out _ B2.out⟩
    · have e1 : (y != 0) = true := by simpa using hy0
      have HZ := Lib.hid (HE2.out (by first | rfl | trivial) hy0)
      clear HE2 HOK hy0
      go_wp2
      go_ret2
      exact ⟨_, [], y, rfl, HZ.out, rds_nil _, HB2.out⟩
  · have e1 : (x != 0) = true := by simpa using hx0
    have HZ := Lib.hid (HE1.out hx0)
    clear HE1 HE2 HOK hx0
    go_wp2
    go_ret2
    exact ⟨_, [], x, rfl, HZ.out, rds_nil _, HB1.out⟩
end
end Go.Proofs.YtaniiennfogjaaaGreatDoor
namespace Go.Proofs.YtaniiennfogjaaaGreatDoor
section
open Go.RowKit P
set_option linter.unusedSimpArgs false
set_option linter.unusedVariables false
set_option maxHeartbeats 1500000
set_option maxRecDepth 100000
theorem P.MrgR.unique {a b o o' : List Sg} {x x' : Int} (h : MrgR a b o x) (h' : MrgR a b o' x') : o = o' ∧ x = x' := by
  unfold MrgR at h h'
  by_cases h1 : chk a ≠ 0
  · rw [if_pos h1] at h h'; exact ⟨h.1.trans h'.1.symm, h.2.trans h'.2.symm⟩
  · rw [if_neg h1] at h h'
    by_cases h2 : chk b ≠ 0
    · rw [if_pos h2] at h h'; exact ⟨h.1.trans h'.1.symm, h.2.trans h'.2.symm⟩
    · rw [if_neg h2] at h h'
      obtain ⟨s, hs, k⟩ := h
      obtain ⟨s', hs', k'⟩ := h'
      obtain rfl := hs.unique hs'
      by_cases h3 : 255 < s.length ∨ 64 < (outM a b s).length
      · rw [if_pos h3] at k k'; exact ⟨k.1.trans k'.1.symm, k.2.trans k'.2.symm⟩
      · rw [if_neg h3] at k k'; exact ⟨k.1.trans k'.1.symm, k.2.trans k'.2.symm⟩
theorem lawMerge_any (a b : List Sg) (v u : Value) (w : World) (hT : Tab w) (hv : RdS w v a) (hu : RdS w u b) (ha : (flat a).length ≤ 2000000) (ha2 : a.length ≤ 2000000) (hb : (flat b).length ≤ 2000000) (hb2 : b.length ≤ 2000000) :
    Calls Tryz.prog 8 #[v, u] w fun e w' => e = .returned (.bool true) ∧ Below w.heap.size w w' := by
  have HT : Hid (∀ W, Below w.heap.size w W → Tab W) := fun W hW => tab_below hT hW
  have HLa := Lib.hid (large_any a v w hv ha ha2)
  have HLb : Hid (∀ W, Below w.heap.size w W → Calls Tryz.prog 11 #[u] W fun e w' => e = .returned (.bool (decide (3000 < sz b))) ∧ Below W.heap.size W w') := fun W hW => large_any b u W (hu.below hW) hb hb2
  have HMa : Hid (¬ 3000 < sz a → ¬ 3000 < sz b → ∀ W, Below w.heap.size w W → Calls Tryz.prog 35 #[v, u] W fun e w' => ∃ v' o x, e = .returned (.tuple #[v', .int .i64 x]) ∧ MrgR a b o x ∧ RdS w' v' o ∧ Below W.heap.size W w') := fun h1 h2 W hW => by
    unfold sz at h1 h2
    exact merge_any a b v u W (hv.below hW) (hu.below hW) (by omega) (by omega) (by omega) (by omega)
  have HMb : Hid (¬ 3000 < sz a → ¬ 3000 < sz b → ∀ W, Below w.heap.size w W → Calls Tryz.prog 36 #[v, u] W fun e w' => ∃ v' o x, e = .returned (.tuple #[v', .int .i64 x]) ∧ MrgR a b o x ∧ RdS w' v' o ∧ Below W.heap.size W w') := fun h1 h2 W hW => by
    unfold sz at h1 h2
    exact rmerge_any a b v u W (hv.below hW) (hu.below hW) (by omega) (by omega) (by omega) (by omega)
  obtain ⟨ad, cap, hf⟩ := hv.form
  obtain ⟨ad2, cap2, hf2⟩ := hu.form
  generalize a.length = M at *
  generalize b.length = N at *
  subst hf hf2
  by_cases hl : 3000 < sz a
  · rw [decide_eq_true hl] at HLa
    clear hT hv hu ha ha2 hb hb2 hl HMa HMb
    go_enter Tryz.func8, Tryz.ntmps8
    go_wp2_with fail
    go_at_call 11
    refine HLa.out.mono ?_
    rintro e w1 ⟨rfl, hb1⟩
    have B1 := Lib.hid hb1
    have HA := Lib.hid (awake_any w1 (HT.out _ hb1))
    clear hb1 HLa
    go_wp2_with fail
    go_at_call 12
    refine HA.out.mono ?_
    rintro e w2 ⟨rfl, hb2⟩
    have B2 := Lib.hid (below_then B1.out hb2)
    clear hb2 HA
    go_wp2
    go_ret
    exact ⟨rfl, B2.out⟩
  rw [decide_eq_false hl] at HLa
  by_cases hl2 : 3000 < sz b
  · rw [decide_eq_true hl2] at HLb
    clear hT hv hu ha ha2 hb hb2 hl hl2 HMa HMb
    go_enter Tryz.func8, Tryz.ntmps8
    go_wp2_with fail
    go_at_call 11
    refine HLa.out.mono ?_
    rintro e w1 ⟨rfl, hb1⟩
    have B1 := Lib.hid hb1
    clear hb1 HLa
    go_wp2_with fail
    go_at_call 11
    refine (HLb.out _ B1.out).mono ?_
    rintro e w2 ⟨rfl, hb2⟩
    have B2 := Lib.hid (below_then B1.out hb2)
    have HA := Lib.hid (awake_any w2 (HT.out _ B2.out))
    clear hb2 HLb
    go_wp2_with fail
    go_at_call 12
    refine HA.out.mono ?_
    rintro e w3 ⟨rfl, hb3⟩
    have B3 := Lib.hid (below_then B2.out hb3)
    clear hb3 HA
    go_wp2
    go_ret
    exact ⟨rfl, B3.out⟩
  rw [decide_eq_false hl2] at HLb
  have HM1 := Lib.hid (HMa.out hl hl2)
  have HM2 := Lib.hid (HMb.out hl hl2)
  clear hT hv hu ha ha2 hb hb2 hl hl2 HMa HMb
  go_enter Tryz.func8, Tryz.ntmps8
  go_wp2_with fail
  go_at_call 11
  refine HLa.out.mono ?_
  rintro e w1 ⟨rfl, hb1⟩
  have B1 := Lib.hid hb1
  clear hb1 HLa
  go_wp2_with fail
  go_at_call 11
  refine (HLb.out _ B1.out).mono ?_
  rintro e w2 ⟨rfl, hb2⟩
  have B2 := Lib.hid (below_then B1.out hb2)
  clear hb2 HLb
  go_wp2_with fail
  go_at_call 35
  refine (HM1.out _ B2.out).mono ?_
  rintro e w3 ⟨v3, o3, x3, rfl, hm3, hr3, hb3⟩
  have B3 := Lib.hid (below_then B2.out hb3)
  have M3 := Lib.hid hm3
  have R3 : Hid (∀ W, Below w3.heap.size w3 W → RdS W v3 o3) := fun W hW => hr3.below hW
  clear hb3 HM1 hm3 hr3
  go_wp2_with fail
  go_at_call 36
  refine (HM2.out _ B3.out).mono ?_
  rintro e w4 ⟨v4, o4, x4, rfl, hm4, hr4, hb4⟩
  have B4 := Lib.hid (below_then B3.out hb4)
  obtain ⟨e1, e2⟩ := M3.out.unique hm4
  subst e1 e2
  have HS := Lib.hid (rsame_any o3 o3 v3 v4 w4 (R3.out _ hb4) hr4)
  rw [decide_eq_true (rfl : o3 = o3)] at HS
  have t1 : (x3 == x3) = true := by simp
  clear hb4 HM2 hm4 hr4 R3 M3
  go_wp2_with fail
  go_at_call 23
  refine HS.out.mono ?_
  rintro e w5 ⟨rfl, hb5⟩
  have B5 := Lib.hid (below_then B4.out hb5)
  have HA := Lib.hid (awake_any w5 (HT.out _ B5.out))
  clear hb5 HS
  go_wp2_with fail
  go_at_call 12
  refine HA.out.mono ?_
  rintro e w6 ⟨rfl, hb6⟩
  have B6 := Lib.hid (below_then B5.out hb6)
  clear hb6 HA
  go_wp2
  go_ret
  exact ⟨rfl, B6.out⟩
end
end Go.Proofs.YtaniiennfogjaaaGreatDoor
namespace Go.Proofs.YtaniiennfogjaaaGreatDoor
section
open Go.RowKit P
namespace P
theorem cpre_comm : ∀ (a b : List Int), cpre a b = cpre b a
  | [], b => by cases b <;> simp [cpre]
  | x :: a, [] => by simp [cpre]
  | x :: a, y :: b => by
    by_cases h : x = y
    · subst h; simp [cpre, cpre_comm a b]
    · have h' : ¬ y = x := fun e => h e.symm
      simp [cpre, h, h']
theorem both_comm (a b : List Sg) : both a b = both b a := cpre_comm _ _
theorem restM_comm (a b : List Sg) (x : Int) : x ∈ restM a b ↔ x ∈ restM b a := by
  unfold restM
  rw [both_comm a b, List.mem_append, List.mem_append, Or.comm]
theorem outM_comm (a b : List Sg) (s : List Int) : outM a b s = outM b a s := by unfold outM; rw [both_comm]
theorem MrgR.comm {a b r : List Sg} {e : Int} (h1 : chk a = 0) (h2 : chk b = 0) (h : MrgR a b r e) : MrgR b a r e := by
  unfold MrgR at h ⊢
  rw [if_neg (by simp [h1]), if_neg (by simp [h2])] at h
  rw [if_neg (by simp [h2]), if_neg (by simp [h1])]
  obtain ⟨s, hs, k⟩ := h
  refine ⟨s, ⟨hs.1, fun x => (hs.2 x).trans (restM_comm a b x)⟩, ?_⟩
  rw [← outM_comm a b s]; exact k
theorem seqs_flat (k : Int) : ∀ (n : Nat) (l : List Int), l.length = n → flat (seqs k l) = l := by
  intro n
  induction n using Nat.strongRecOn with
  | _ n ih =>
    intro l hl
    by_cases h : l = []
    · subst h; rw [seqs_nil]; rfl
    · have hp := List.length_pos_iff.2 h
      rw [seqs_cons k h, flat_cons, ih (l.drop 255).length (by rw [List.length_drop]; omega) (l.drop 255) rfl, List.take_append_drop]
theorem outM_flat (a b : List Sg) (s : List Int) : flat (outM a b s) = both a b ++ s := by
  unfold outM
  rw [flat_app, seqs_flat 2 _ _ rfl]
  by_cases h : s = []
  · rw [if_pos h, h]; rfl
  · rw [if_neg h]; simp [flat]
theorem cpre_prefix : ∀ (a b : List Int), cpre a b = a.take (cpre a b).length
  | [], b => by cases b <;> simp [cpre]
  | x :: a, [] => by simp [cpre]
  | x :: a, y :: b => by
    by_cases h : x = y
    · subst h; simp only [cpre, if_true, List.length_cons, List.take_succ_cons]; rw [← cpre_prefix a b]
    · simp [cpre, h]
theorem lead_prefix (p : List Sg) : ∃ t, flat p = lead p ++ t := by
  unfold lead
  refine ⟨flat (p.dropWhile fun s : Sg => decide (2 = s.k)), ?_⟩
  conv => lhs; rw [← List.takeWhile_append_dropWhile (p := fun s : Sg => decide (2 = s.k)) (l := p), flat_app]
theorem both_take (a b : List Sg) : (flat (strip a)).take (both a b).length = both a b := by
  obtain ⟨t, ht⟩ := lead_prefix (strip a)
  have h := cpre_prefix (lead (strip a)) (lead (strip b))
  have hl : (both a b).length ≤ (lead (strip a)).length := (cpre_le (lead (strip a)) (lead (strip b))).1
  rw [ht, List.take_append_of_le_length hl]
  exact h.symm
/-- a number stands in a merged path when it stands in one of the two, stripped -/
theorem outM_mem {a b : List Sg} {s : List Int} (hs : IsS (restM a b) s) (x : Int) : x ∈ flat (outM a b s) ↔ x ∈ flat (strip a) ∨ x ∈ flat (strip b) := by
  rw [outM_flat, List.mem_append, hs.2 x]
  unfold restM
  rw [List.mem_append]
  have ha : x ∈ flat (strip a) ↔ x ∈ both a b ∨ x ∈ (flat (strip a)).drop (both a b).length := by
    conv => lhs; rw [← List.take_append_drop (both a b).length (flat (strip a)), both_take, List.mem_append]
  have hb : x ∈ flat (strip b) ↔ x ∈ both a b ∨ x ∈ (flat (strip b)).drop (both a b).length := by
    conv => lhs; rw [← List.take_append_drop (both a b).length (flat (strip b)), both_comm a b, both_take b a, List.mem_append]
    rw [both_comm b a]
  rw [ha, hb]
  constructor
  · rintro (h | h | h)
    · exact .inl (.inl h)
    · exact .inl (.inr h)
    · exact .inr (.inr h)
  · rintro ((h | h) | (h | h))
    · exact .inl h
    · exact .inr (.inl h)
    · exact .inl h
    · exact .inr (.inr h)
end P
end
end Go.Proofs.YtaniiennfogjaaaGreatDoor
namespace Go.Proofs.YtaniiennfogjaaaGreatDoor
section
open Go.RowKit P
namespace P
theorem segE_seq {k : Int} {l : List Int} (hk : k = 2 ∨ k = 3) (h1 : l ≠ []) (h2 : l.length ≤ 255) (h3 : ∀ x ∈ l, isNum x = true) : segE ⟨k, l⟩ = 0 :=
  segE0 (s := ⟨k, l⟩) (by show ¬ (k < 1 ∨ 4 < k); omega) h1 (by show ¬ 255 < l.length; omega) (fun j x hx => h3 x (List.mem_of_getElem? hx)) (fun h => by
    exfalso
    have h' : isSet k = true := h
    unfold isSet at h'
    rw [decide_eq_true_eq] at h'
    omega)
theorem mayF_same {s y : Sg} (hk : y.k = s.k) (hl : y.as.length = 255) : mayF s y = true := by
  unfold mayF
  rw [hk, hl]
  cases isConf s.k <;> cases isSeq s.k <;> simp
/-- the check goes through sequences of one kind and on from the last -/
theorem scan_seqs {k : Int} (hk : k = 2 ∨ k = 3) : ∀ (n : Nat) (l : List Int), l.length = n → (∀ x ∈ l, isNum x = true) → ∀ (b : Option Sg), (∀ y, b = some y → y.k = k ∧ y.as.length = 255) → ∀ rest, ∃ b', scan b (seqs k l ++ rest) = scan b' rest ∧ (∀ y, b' = some y → y.k = k) ∧ (b' = none → l = []) := by
  intro n
  induction n using Nat.strongRecOn with
  | _ n ih =>
    intro l hl hn b hb rest
    by_cases h : l = []
    · subst h
      exact ⟨b, by rw [seqs_nil]; rfl, fun y hy => (hb y hy).1, fun _ => rfl⟩
    · have hp := List.length_pos_iff.2 h
      have hE : segE ⟨k, l.take 255⟩ = 0 := segE_seq hk (by
        intro e
        have h3 := congrArg List.length e
        rw [List.length_take, List.length_nil] at h3; omega) (by rw [List.length_take]; omega) (fun x hx => hn x (List.mem_of_mem_take hx))
      have hs : scan b (seqs k l ++ rest) = scan (some ⟨k, l.take 255⟩) (seqs k (l.drop 255) ++ rest) := by
        rw [seqs_cons k h, List.cons_append]
        cases b with
        | none =>
          show (if segE ⟨k, l.take 255⟩ ≠ 0 then segE ⟨k, l.take 255⟩ else scan (some ⟨k, l.take 255⟩) (seqs k (l.drop 255) ++ rest)) = _
          rw [if_neg (by rw [hE]; simp)]
        | some y =>
          obtain ⟨h1, h2⟩ := hb y rfl
          rw [scan, if_neg (by rw [hE]; simp), if_neg (by rw [mayF_same (s := ⟨k, l.take 255⟩) h1 h2]; simp)]
      by_cases hd : l.drop 255 = []
      · rw [hs, hd, seqs_nil]
        exact ⟨some ⟨k, l.take 255⟩, rfl, fun y hy => by cases hy; rfl, fun e => by cases e⟩
      · have h255 : 255 < l.length := by
          have := List.length_pos_iff.2 hd
          rw [List.length_drop] at this; omega
        obtain ⟨b', e1, e2, e3⟩ := ih (l.drop 255).length (by rw [List.length_drop]; omega) (l.drop 255) rfl (fun x hx => hn x (List.mem_of_mem_drop hx)) (some ⟨k, l.take 255⟩) (fun y hy => by cases hy; exact ⟨rfl, by show (l.take 255).length = 255; rw [List.length_take]; omega⟩) rest
        exact ⟨b', hs.trans e1, e2, fun e => absurd (e3 e) hd⟩
theorem strip_num {a : List Sg} (h : chk a = 0) : ∀ x ∈ flat (strip a), isNum x = true := fun x hx => by
  unfold flat at hx
  rw [List.mem_flatten] at hx
  obtain ⟨l, hl, hxl⟩ := hx
  obtain ⟨s, hs, rfl⟩ := List.mem_map.1 hl
  have hsp : s ∈ a := (List.mem_filter.1 hs).1
  have := (segE_ok ((chk_ok h).2 s hsp)).2.2.2.1 x hxl
  unfold isNum; exact decide_eq_true this
theorem chk_outM {a b : List Sg} (h1 : chk a = 0) (h2 : chk b = 0) {s : List Int} (hs : IsS (restM a b) s) (hl : s.length ≤ 255) (hl2 : (outM a b s).length ≤ 64) : chk (outM a b s) = 0 := by
  have hnum : ∀ x ∈ flat (outM a b s), isNum x = true := fun x hx => by
    rcases (outM_mem hs x).1 hx with h | h
    · exact strip_num h1 x h
    · exact strip_num h2 x h
  rw [outM_flat] at hnum
  unfold chk
  rw [if_neg (show ¬ 64 < (outM a b s).length by omega)]
  unfold outM
  obtain ⟨b', e1, e2, _⟩ := scan_seqs (.inl rfl) _ (both a b) rfl (fun x hx => hnum x (List.mem_append_left _ hx)) none (fun y hy => by cases hy) (if s = [] then [] else [⟨1, s⟩])
  rw [e1]
  by_cases h : s = []
  · rw [if_pos h]
    cases b' <;> rfl
  · rw [if_neg h]
    have hE : segE ⟨1, s⟩ = 0 := segE0 (s := ⟨1, s⟩) (by show ¬ ((1 : Int) < 1 ∨ 4 < (1 : Int)); omega) h (by show ¬ 255 < s.length; omega) (fun j x hx => hnum x (List.mem_append_right _ (List.mem_of_getElem? hx))) (fun _ j x y hx hy => by
      obtain ⟨i1, g1⟩ := List.getElem?_eq_some_iff.1 hx
      obtain ⟨i2, g2⟩ := List.getElem?_eq_some_iff.1 hy
      have i1' : j < s.length := i1
      have i2' : j + 1 < s.length := i2
      have g1' : s[j] = x := g1
      have g2' : s[j + 1] = y := g2
      have := List.pairwise_iff_getElem.1 hs.1 j (j + 1) i1' i2' (by omega)
      rw [g1', g2'] at this
      exact this)
    cases b' with
    | none => rw [scan, if_neg (by rw [hE]; simp)]; rfl
    | some y =>
      rw [scan, if_neg (by rw [hE]; simp), if_neg (by
        have : mayF ⟨1, s⟩ y = true := rfl
        rw [this]; simp)]
      rfl
end P
end
end Go.Proofs.YtaniiennfogjaaaGreatDoor
namespace Go.Proofs.YtaniiennfogjaaaGreatDoor
section
open Go.RowKit P
set_option linter.unusedSimpArgs false
set_option linter.unusedVariables false
set_option maxHeartbeats 1500000
set_option maxRecDepth 100000
/-- a merged path: valid, and its numbers are those of the two, stripped -/
theorem P.MrgR.covers {a b o : List Sg} (h : MrgR a b o 0) : chk a = 0 ∧ chk b = 0 ∧ chk o = 0 ∧ ∀ x, x ∈ flat o ↔ x ∈ flat (strip a) ++ flat (strip b) := by
  unfold MrgR at h
  by_cases h1 : chk a ≠ 0
  · rw [if_pos h1] at h; exact absurd h.2.symm h1
  · rw [if_neg h1] at h
    by_cases h2 : chk b ≠ 0
    · rw [if_pos h2] at h; exact absurd h.2.symm h2
    · rw [if_neg h2] at h
      have h1' : chk a = 0 := Decidable.of_not_not h1
      have h2' : chk b = 0 := Decidable.of_not_not h2
      obtain ⟨s, hs, k⟩ := h
      by_cases h3 : 255 < s.length ∨ 64 < (outM a b s).length
      · rw [if_pos h3] at k; exact absurd k.2 (by simp)
      · rw [if_neg h3] at k
        have e := k.1
        subst e
        exact ⟨h1', h2', chk_outM h1' h2' hs (by omega) (by omega), fun x => by rw [outM_mem hs x, List.mem_append]⟩
theorem P.MrgR.len {a b o : List Sg} {e : Int} (h : MrgR a b o e) : o.length ≤ 64 := by
  unfold MrgR at h
  by_cases h1 : chk a ≠ 0
  · rw [if_pos h1] at h; rw [h.1]; simp
  · rw [if_neg h1] at h
    by_cases h2 : chk b ≠ 0
    · rw [if_pos h2] at h; rw [h.1]; simp
    · rw [if_neg h2] at h
      obtain ⟨s, hs, k⟩ := h
      by_cases h3 : 255 < s.length ∨ 64 < (outM a b s).length
      · rw [if_pos h3] at k; rw [k.1]; simp
      · rw [if_neg h3] at k; rw [k.1]; omega
/-- a number was found among the first of a list -/
def FndR (q : Bool) (lst : List Int) (i : Nat) (m : Int) : Prop := q = true ↔ ∃ (j : Nat) (y : Int), j < i ∧ lst[j]? = some y ∧ y = m
theorem lawCovers_any (a b : List Sg) (v u : Value) (w : World) (hT : Tab w) (hv : RdS w v a) (hu : RdS w u b) (ha : (flat a).length ≤ 2000000) (ha2 : a.length ≤ 2000000) (hb : (flat b).length ≤ 2000000) (hb2 : b.length ≤ 2000000) :
    Calls Tryz.prog 9 #[v, u] w fun e w' => e = .returned (.bool true) ∧ Below w.heap.size w w' := by
  have HT : Hid (∀ W, Below w.heap.size w W → Tab W) := fun W hW => tab_below hT hW
  have HLa := Lib.hid (large_any a v w hv ha ha2)
  have HLb : Hid (∀ W, Below w.heap.size w W → Calls Tryz.prog 11 #[u] W fun e w' => e = .returned (.bool (decide (3000 < sz b))) ∧ Below W.heap.size W w') := fun W hW => large_any b u W (hu.below hW) hb hb2
  have HMa : Hid (¬ 3000 < sz a → ¬ 3000 < sz b → ∀ W, Below w.heap.size w W → Calls Tryz.prog 35 #[v, u] W fun e w' => ∃ v' o x, e = .returned (.tuple #[v', .int .i64 x]) ∧ MrgR a b o x ∧ RdS w' v' o ∧ Below W.heap.size W w') := fun h1 h2 W hW => by
    unfold sz at h1 h2
    exact merge_any a b v u W (hv.below hW) (hu.below hW) (by omega) (by omega) (by omega) (by omega)
  have HMb : Hid (¬ 3000 < sz a → ¬ 3000 < sz b → ∀ W, Below w.heap.size w W → Calls Tryz.prog 35 #[u, v] W fun e w' => ∃ v' o x, e = .returned (.tuple #[v', .int .i64 x]) ∧ MrgR b a o x ∧ RdS w' v' o ∧ Below W.heap.size W w') := fun h1 h2 W hW => by
    unfold sz at h1 h2
    exact merge_any b a u v W (hu.below hW) (hv.below hW) (by omega) (by omega) (by omega) (by omega)
  have HSz : Hid (¬ 3000 < sz a → ¬ 3000 < sz b → a.length + (flat a).length ≤ 3000 ∧ b.length + (flat b).length ≤ 3000) := fun h1 h2 => by unfold sz at h1 h2; omega
  have HSa : Hid (∀ W, Below w.heap.size w W → Calls Tryz.prog 25 #[v] W fun e w' => ∃ v', e = .returned v' ∧ RdS w' v' (strip a) ∧ Below W.heap.size W w') := fun W hW => rstrip_any a v W (by omega) (by omega) (hv.below hW)
  have HSb : Hid (∀ W, Below w.heap.size w W → Calls Tryz.prog 25 #[u] W fun e w' => ∃ v', e = .returned v' ∧ RdS w' v' (strip b) ∧ Below W.heap.size W w') := fun W hW => rstrip_any b u W (by omega) (by omega) (hu.below hW)
  obtain ⟨ad, cap, hf⟩ := hv.form
  obtain ⟨ad2, cap2, hf2⟩ := hu.form
  generalize a.length = M at *
  generalize b.length = N at *
  subst hf hf2
  by_cases hl : 3000 < sz a
  · rw [decide_eq_true hl] at HLa
    clear hT hv hu ha ha2 hb hb2 hl HMa HMb HSa HSb HSz
    go_enter Tryz.func9, Tryz.ntmps9
    go_wp2_with fail
    go_at_call 11
    refine HLa.out.mono ?_
    rintro e w1 ⟨rfl, hb1⟩
    have B1 := Lib.hid hb1
    have HA := Lib.hid (awake_any w1 (HT.out _ hb1))
    clear hb1 HLa
    go_wp2_with fail
    go_at_call 12
    refine HA.out.mono ?_
    rintro e w2 ⟨rfl, hb2⟩
    have B2 := Lib.hid (below_then B1.out hb2)
    clear hb2 HA
    go_wp2
    go_ret
    exact ⟨rfl, B2.out⟩
  rw [decide_eq_false hl] at HLa
  by_cases hl2 : 3000 < sz b
  · rw [decide_eq_true hl2] at HLb
    clear hT hv hu ha ha2 hb hb2 hl hl2 HMa HMb HSa HSb HSz
    go_enter Tryz.func9, Tryz.ntmps9
    go_wp2_with fail
    go_at_call 11
    refine HLa.out.mono ?_
    rintro e w1 ⟨rfl, hb1⟩
    have B1 := Lib.hid hb1
    clear hb1 HLa
    go_wp2_with fail
    go_at_call 11
    refine (HLb.out _ B1.out).mono ?_
    rintro e w2 ⟨rfl, hb2⟩
    have B2 := Lib.hid (below_then B1.out hb2)
    have HA := Lib.hid (awake_any w2 (HT.out _ B2.out))
    clear hb2 HLb
    go_wp2_with fail
    go_at_call 12
    refine HA.out.mono ?_
    rintro e w3 ⟨rfl, hb3⟩
    have B3 := Lib.hid (below_then B2.out hb3)
    clear hb3 HA
    go_wp2
    go_ret
    exact ⟨rfl, B3.out⟩
  rw [decide_eq_false hl2] at HLb
  have HM1 := Lib.hid (HMa.out hl hl2)
  have HM2 := Lib.hid (HMb.out hl hl2)
  have hsz := HSz.out hl hl2
  have HFL : Hid ((flat (strip a)).length ≤ 3000 ∧ (flat (strip b)).length ≤ 3000) := ⟨by have := strip_flat a; omega, by have := strip_flat b; omega⟩
  clear hT hv hu ha ha2 hb hb2 hl hl2 HMa HMb HSz hsz
  go_enter Tryz.func9, Tryz.ntmps9
  go_wp2_with fail
  go_at_call 11
  refine HLa.out.mono ?_
  rintro e w1 ⟨rfl, hb1⟩
  have B1 := Lib.hid hb1
  clear hb1 HLa
  go_wp2_with fail
  go_at_call 11
  refine (HLb.out _ B1.out).mono ?_
  rintro e w2 ⟨rfl, hb2⟩
  have B2 := Lib.hid (below_then B1.out hb2)
  clear hb2 HLb B1
  go_wp2_with fail
  go_at_call 35
  refine (HM1.out _ B2.out).mono ?_
  rintro e w3 ⟨v3, o3, x3, rfl, hm3, hr3, hb3⟩
  have B3 := Lib.hid (below_then B2.out hb3)
  have M3 := Lib.hid hm3
  have R3 : Hid (∀ W, Below w3.heap.size w3 W → RdS W v3 o3) := fun W hW => hr3.below hW
  obtain ⟨a3, c3, hf3⟩ := hr3.form
  subst hf3
  clear hb3 HM1 hm3 hr3 B2
  by_cases hx3 : x3 = 0
  · subst hx3
    have HCV := Lib.hid M3.out.covers
    go_wp2_with fail
    go_at_call 35
    refine (HM2.out _ B3.out).mono ?_
    rintro e w4 ⟨v4, o4, x4, rfl, hm4, hr4, hb4⟩
    have B4 := Lib.hid (below_then B3.out hb4)
    obtain ⟨e1, e2⟩ := (M3.out.comm HCV.out.1 HCV.out.2.1).unique hm4
    subst e1 e2
    have HS := Lib.hid (same_any o3 o3 _ v4 w4 (R3.out _ hb4) hr4)
    rw [decide_eq_true (rfl : o3 = o3)] at HS
    have R4 : Hid (∀ W, Below w4.heap.size w4 W → RdS W (.slice a3 o3.length c3) o3) := fun W hW => R3.out W (below_then hb4 hW)
    have hol := M3.out.len
    have hofl : (flat o3).length ≤ 2000000 := by
      have h1 := flat_len_ok (chk_ok HCV.out.2.2.1).2
      omega
    have HOL := Lib.hid hofl
    clear hb4 HM2 hm4 hr4 R3 M3 hofl B3
    go_wp2_with fail
    go_at_call 37
    refine HS.out.mono ?_
    rintro e w5 ⟨rfl, hb5⟩
    have B5 := Lib.hid (below_then B4.out hb5)
    have R5 : Hid (∀ W, Below w5.heap.size w5 W → RdS W (.slice a3 o3.length c3) o3) := fun W hW => R4.out W (below_then hb5 hW)
    have HCK := Lib.hid (check_any o3 _ w5 (R5.out _ (Below.refl _ _)))
    rw [HCV.out.2.2.1] at HCK
    clear hb5 HS R4 B4
    go_wp2_with fail
    go_at_call 13
    refine HCK.out.mono ?_
    rintro e w6 ⟨rfl, hb6⟩
    have B6 := Lib.hid (below_then B5.out hb6)
    have R6 : Hid (∀ W, Below w6.heap.size w6 W → RdS W (.slice a3 o3.length c3) o3) := fun W hW => R5.out W (below_then hb6 hW)
    clear hb6 HCK R5 B5
    go_wp2_with fail
    go_at_call 25
    refine (HSa.out _ B6.out).mono ?_
    rintro e w7 ⟨v7, rfl, hr7, hb7⟩
    have B7 := Lib.hid (below_then B6.out hb7)
    have R7 : Hid (∀ W, Below w7.heap.size w7 W → RdS W (.slice a3 o3.length c3) o3) := fun W hW => R6.out W (below_then hb7 hW)
    have HF7 := Lib.hid (rflat_any (strip a) v7 w7 hr7 (by have := HFL.out; omega))
    have HSb7 : Hid (∀ W, Below w7.heap.size w7 W → Calls Tryz.prog 25 #[.slice ad2 N cap2] W fun e w' => ∃ v', e = .returned v' ∧ RdS w' v' (strip b) ∧ Below W.heap.size W w') := fun W hW => HSb.out W (below_then B7.out hW)
    clear hb7 HSa R6 B6 hr7 HSb
    go_wp2_with fail
    go_at_call 28
    refine HF7.out.mono ?_
    rintro e w8 ⟨v8, rfl, hi8⟩
    have K8 := Lib.hid hi8.2
    have I8 := Lib.hid hi8.1
    clear hi8 HF7
    go_wp2_with fail
    go_at_call 25
    refine (HSb7.out _ K8.out).mono ?_
    rintro e w9 ⟨v9, rfl, hr9, hb9⟩
    have K9 := Lib.hid (below_then K8.out hb9)
    have I9 := Lib.hid (I8.out.below hb9)
    have HF9 := Lib.hid (rflat_any (strip b) v9 w9 hr9 (by have := HFL.out; omega))
    clear hb9 HSb7 hr9 I8 K8
    go_wp2_with fail
    go_at_call 28
    refine HF9.out.mono ?_
    rintro e w10 ⟨v10, rfl, hi10⟩
    have K10 := Lib.hid (below_then K9.out hi10.2)
    have I10 := Lib.hid (I9.out.below hi10.2)
    have J10 := Lib.hid hi10.1.rd
    have HLN : Hid ((flat (strip a)).length + (flat (strip b)).length ≤ 2000000) := by show _ ≤ _; have := HFL.out; omega
    obtain ⟨lst, hlst⟩ : ∃ lst, flat (strip a) ++ flat (strip b) = lst := ⟨_, rfl⟩
    have HLST := Lib.hid hlst
    have HCO : Hid (∀ x, x ∈ flat o3 ↔ x ∈ lst) := fun x => by rw [← HLST.out]; exact HCV.out.2.2.2 x
    have HLL : Hid (lst.length ≤ 2000000) := by show _ ≤ _; rw [← HLST.out, List.length_append]; exact HLN.out
    clear hi10 HF9 I9 K9 HCV hlst
    go_wp2_with (at_builtin; refine append_rdI rfl (.tmp 55) (.tmp 58) rfl w7.heap.size K10.out.size _ _ rfl I10.out _ _ rfl J10.out HLN.out ?_; intro v11 w11 hown hb; rw [HLST.out] at hown; have K11 := Lib.hid (K10.out.trans hb); have I11 := Lib.hid hown.rd; obtain ⟨a11, c11, hf11⟩ := hown.rd.form; subst hf11; clear hown hb I10 J10 K10)
    have R11 : Hid (∀ W, Below w11.heap.size w11 W → RdS W (.slice a3 o3.length c3) o3) := fun W hW => R7.out W (below_then K11.out hW)
    have B11 := Lib.hid (below_then B7.out K11.out)
    have HH : Hid (∀ (W : World) (n : Int), Below w11.heap.size w11 W → n ∈ lst → Calls Tryz.prog 22 #[.slice a3 o3.length c3, .int .i64 n] W fun e w' => e = .returned (.bool true) ∧ Below W.heap.size W w') := fun W n hW hn => by
      have := rhas_any o3 _ n W (R11.out W hW) HOL.out
      rw [show has o3 n = true from decide_eq_true ((HCO.out n).2 hn)] at this
      exact this
    obtain ⟨b11, d11, e11, i1, i2, hci⟩ := I11.out
    injection e11 with e1 e2 e3
    subst e1 e3
    have HCI := Lib.hid hci
    obtain ⟨L, hL⟩ : ∃ L, lst.length = L := ⟨_, rfl⟩
    rw [hL] at i1 I11 ⊢
    have HL := Lib.hid hL
    have HS0 : Hid (Below w11.heap.size w11 w11) := Below.refl _ _
    have hLm : L ≤ 2000000 := by have := HLL.out; omega
    clear hci hL i2 R7 K11 B7 HLN HLST
    go_wp2_with fail
    go_loopg [11, 62] (L + 1) (fun g s11 s62 wr => ∃ k : Nat, k ≤ L ∧ L + 1 - k ≤ g ∧ (∃ q, q = s11) ∧ s62 = .int .i64 (k : Int) ∧ Hid (Below w11.heap.size w11 wr))
    case atStart => exact ⟨0, by omega, by omega, ⟨_, rfl⟩, rfl, HS0⟩
    case round =>
      clear HS0
      obtain ⟨k, hk, hkg, ⟨u11, rfl⟩, rfl, HS⟩ := hrel
      by_cases hkl : k < L
      · obtain ⟨x, hx⟩ : ∃ x, lst[k]? = some x := ⟨_, List.getElem?_eq_getElem (by have := HL.out; omega)⟩
        obtain ⟨b1, o1, rfl, hb1, cx⟩ := HCI.out k x hx
        have dx := carry HS.out cx
        have HX := Lib.hid (HH.out wr x HS.out (List.mem_of_getElem? hx))
        have k0 : (0 : Int) ≤ (k : Int) := by omega
        have k1 : (k : Int) < (L : Int) := by omega
        clear hx cx
        go_wp2_with fail
        go_at_call 22
        refine HX.out.mono ?_
        rintro e w12 ⟨rfl, hb⟩
        have HS2 := Lib.hid (below_then HS.out hb)
        clear hb HX
        go_wp2_with fail
        go_roundg (L + 1 - (k + 1))
        case measure => omega
        case rel => exact ⟨k + 1, by omega, Nat.le_refl _, ⟨_, rfl⟩, by go_num, HS2⟩
      · have k1 : decide ((k : Int) < (L : Int)) = false := decide_eq_false (by omega)
        have HF := Lib.hid (rflat_any o3 _ wr (R11.out _ HS.out) HOL.out)
        have HSZ := Lib.hid HS.out
        clear HH HS
        go_wp2_with fail
        go_at_call 28
        refine HF.out.mono ?_
        rintro e w13 ⟨v13, rfl, hi13⟩
        have K13 := Lib.hid (below_then HSZ.out hi13.2)
        obtain ⟨b13, d13, e13, f1, f2, hcf⟩ := hi13.1.rd
        subst e13
        have HCF := Lib.hid hcf
        obtain ⟨F, hF⟩ : ∃ F, (flat o3).length = F := ⟨_, rfl⟩
        have hFm : F ≤ 2000000 := by rw [← hF]; exact HOL.out
        rw [hF] at f1 ⊢
        have HFF := Lib.hid hF
        have HT0 : Hid (Below w13.heap.size w13 w13) := Below.refl _ _
        clear hcf hF f2 hi13 HF HSZ hkl hk hkg k1
        go_wp2_with fail
        go_loopg [13, 14, 16, 74] (F + 1) (fun g s13 s14 s16 s74 wr => ∃ k : Nat, k ≤ F ∧ F + 1 - k ≤ g ∧ (∃ q, q = s13) ∧ (∃ q, q = s14) ∧ (∃ q, q = s16) ∧ s74 = .int .i64 (k : Int) ∧ Hid (Below w13.heap.size w13 wr))
        case atStart => exact ⟨0, by omega, by omega, ⟨_, rfl⟩, ⟨_, rfl⟩, ⟨_, rfl⟩, rfl, HT0⟩
        case round =>
          clear HT0
          obtain ⟨k, hk, hkg, ⟨u13, rfl⟩, ⟨u14, rfl⟩, ⟨u16, rfl⟩, rfl, HS⟩ := hrel
          by_cases hkl : k < F
          · obtain ⟨m, hm⟩ : ∃ m, (flat o3)[k]? = some m := ⟨_, List.getElem?_eq_getElem (by have := HFF.out; omega)⟩
            obtain ⟨b1, o1, rfl, hb1, cx⟩ := HCF.out k m hm
            have dx := carry HS.out cx
            have HMM : Hid (m ∈ lst) := (HCO.out m).1 (List.mem_of_getElem? hm)
            have k0 : (0 : Int) ≤ (k : Int) := by omega
            have k1 : (k : Int) < (F : Int) := by omega
            have HQ0 : Hid (FndR false lst 0 m) := ⟨(fun h => by cases h), (fun ⟨j, y, h, _⟩ => by omega)⟩
            have HU0 : Hid (Below wr.heap.size wr wr) := Below.refl _ _
            have K14 := Lib.hid (below_then K13.out HS.out)
            obtain ⟨wq, hwq⟩ : ∃ wq : World, wq = wr := ⟨_, rfl⟩
            have HSQ : Hid (Below w13.heap.size w13 wq) := hwq ▸ HS.out
            have HUQ : Hid (Below wq.heap.size wq wr) := by show Below _ _ _; rw [hwq]; exact Below.refl _ _
            have KQ : Hid (Below w11.heap.size w11 wq) := hwq ▸ K14.out
            clear hm cx hwq HU0 K14 HS
            go_wp2_with fail
            go_loopg [14, 16, 80] (L + 1) (fun g2 s14 s16 s80 wr => ∃ (i : Nat) (q : Bool), i ≤ L ∧ L + 1 - i ≤ g2 ∧ s14 = .bool q ∧ (∃ z, z = s16) ∧ s80 = .int .i64 (i : Int) ∧ Hid (FndR q lst i m) ∧ Hid (Below wq.heap.size wq wr))
            case atStart => exact ⟨0, false, by omega, by omega, rfl, ⟨_, rfl⟩, rfl, HQ0, HUQ⟩
            case round =>
              clear HQ0 HUQ
              obtain ⟨i, q, hi, hig, rfl, ⟨u16, rfl⟩, rfl, HQ, HU⟩ := hrel
              by_cases hil : i < L
              · obtain ⟨y, hy⟩ : ∃ y, lst[i]? = some y := ⟨_, List.getElem?_eq_getElem (by have := HL.out; omega)⟩
                obtain ⟨b2, o2, rfl, hb2, cy⟩ := HCI.out i y hy
                have dy := carry KQ.out cy
                have dy := carry HU.out dy
                have i0 : (0 : Int) ≤ (i : Int) := by omega
                have i1 : (i : Int) < (L : Int) := by omega
                have HQ2 : Hid (FndR (q || (y == m)) lst (i + 1) m) := by
                  show _ ↔ _
                  rw [Bool.or_eq_true]
                  constructor
                  · rintro (h | h)
                    · obtain ⟨j, z, h1, h2⟩ := HQ.out.1 h
                      exact ⟨j, z, by omega, h2⟩
                    · exact ⟨i, y, by omega, hy, by simpa using h⟩
                  · rintro ⟨j, z, h1, h2, h3⟩
                    by_cases e : j = i
                    · subst e; rw [hy] at h2; cases h2; exact .inr (by simpa using h3)
                    · exact .inl (HQ.out.2 ⟨j, z, by omega, h2, h3⟩)
                clear HQ hy cy
                cases q with
                | true =>
                  have HQ3 : Hid (FndR true lst (i + 1) m) := by
                    have := HQ2.out; rwa [Bool.true_or] at this
                  clear HQ2
                  go_wp2_with fail
                  go_roundg (L + 1 - (i + 1))
                  case measure => omega
                  case rel => exact ⟨i + 1, true, by omega, Nat.le_refl _, rfl, ⟨_, rfl⟩, by go_num, HQ3, HU⟩
                | false =>
                  by_cases hym : y = m
                  · have e1 : (y == m) = true := by simpa using hym
                    have HQ3 : Hid (FndR true lst (i + 1) m) := by
                      have := HQ2.out; rwa [e1, Bool.or_true] at this
                    clear HQ2 hym
                    go_wp2_with fail
                    go_roundg (L + 1 - (i + 1))
                    case measure => omega
                    case rel => exact ⟨i + 1, true, by omega, Nat.le_refl _, rfl, ⟨_, rfl⟩, by go_num, HQ3, HU⟩
                  · have e1 : (y == m) = false := by simpa using hym
                    have HQ3 : Hid (FndR false lst (i + 1) m) := by
                      have := HQ2.out; rwa [e1, Bool.or_false] at this
                    clear HQ2 hym
                    go_wp2_with fail
                    go_roundg (L + 1 - (i + 1))
                    case measure => omega
                    case rel => exact ⟨i + 1, false, by omega, Nat.le_refl _, rfl, ⟨_, rfl⟩, by go_num, HQ3, HU⟩
              · have i1 : decide ((i : Int) < (L : Int)) = false := decide_eq_false (by omega)
                have hq : q = true := by
                  obtain ⟨j, hj⟩ := List.getElem?_of_mem HMM.out
                  exact HQ.out.2 ⟨j, m, by have := (List.getElem?_eq_some_iff.1 hj).1; have := HL.out; omega, hj, rfl⟩
                subst hq
                have HS2 := Lib.hid (below_then HSQ.out HU.out)
                clear HQ HU
                go_wp2_with fail
                go_roundg (F + 1 - (k + 1))
                case measure => omega
                case rel => exact ⟨k + 1, by omega, Nat.le_refl _, ⟨_, rfl⟩, ⟨_, rfl⟩, ⟨_, rfl⟩, by go_num, HS2⟩
          · have k1 : decide ((k : Int) < (F : Int)) = false := decide_eq_false (by omega)
            have BZ := Lib.hid (below_then B11.out (below_then K13.out HS.out))
            have HA := Lib.hid (awake_any wr (HT.out _ BZ.out))
            clear HS
            go_wp2_with fail
            go_at_call 12
            refine HA.out.mono ?_
            rintro e w15 ⟨rfl, hb⟩
            have B15 := Lib.hid (below_then BZ.out hb)
            clear hb HA
            go_wp2
            go_ret
            exact ⟨rfl, B15.out⟩
  · have e1 : (x3 != 0) = true := by simpa using hx3
    have HA := Lib.hid (awake_any w3 (HT.out _ B3.out))
    clear HM2 HSa HSb R3 M3
    go_wp2_with fail
    go_at_call 12
    refine HA.out.mono ?_
    rintro e w6 ⟨rfl, hb6⟩
    have B6 := Lib.hid (below_then B3.out hb6)
    clear hb6 HA
    go_wp2
    go_ret
    exact ⟨rfl, B6.out⟩
end
end Go.Proofs.YtaniiennfogjaaaGreatDoor
