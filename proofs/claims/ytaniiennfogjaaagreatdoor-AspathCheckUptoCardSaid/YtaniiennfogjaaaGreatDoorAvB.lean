/-
  The walk of the reference's segment.
-/
import Derived.Test.YtaniiennfogjaaaGreatDoorAvA
import Derived.BigQuiet
namespace Go.Proofs.YtaniiennfogjaaaGreatDoor
open Go.RowKit P
set_option linter.unusedSimpArgs false
set_option linter.unusedVariables false
set_option maxHeartbeats 1500000
set_option maxRecDepth 100000
theorem segR_any (p : List Sg) (i : Nat) (s : Sg) (v : Value) (w : World) (hv : RdS w v p) (hs : p[i]? = some s) :
    Calls Tryz.prog 41 #[v, .int .i64 (i : Int)] w fun e w' => e = .returned (.int .i64 (segR p i s)) ∧ Below w.heap.size w w' := by
  obtain ⟨ad, cap, rfl, h1, h2, hc⟩ := hv
  have hil := (List.getElem?_eq_some_iff.1 hs).1
  obtain ⟨b, off, u, rfl, hb, c0, c1, hu⟩ := hc i s hs
  obtain ⟨n, hn⟩ : ∃ n, p.length = n := ⟨_, rfl⟩
  rw [hn] at h1 hil ⊢
  have hcap := h2.1
  have HN := Lib.hid hn
  have HP : Hid (∀ k t, p[k]? = some t → ∃ u, w.cell? ⟨b, off + k * 2, none⟩ = some (.int .i64 t.k) ∧ w.cell? ⟨b, off + k * 2 + 1, none⟩ = some u ∧ RdI w u t.as) := fun k t hk => by
    obtain ⟨b', off', u', e, _, d0, d1, hu'⟩ := hc k t hk
    cases e
    exact ⟨u', d0, d1, hu'⟩
  obtain ⟨uad, ucap, rfl, l1, l2, hcc⟩ := hu
  have HCC := Lib.hid hcc
  have HNE : Hid (s.as = [] ↔ s.as.length = 0) := by show _ ↔ _; rw [List.length_eq_zero_iff]
  obtain ⟨L, hL⟩ : ∃ L, s.as.length = L := ⟨_, rfl⟩
  rw [hL] at c1 l1 HNE
  have HL := Lib.hid hL
  have hLc := l2.1
  have HSI := Lib.hid hs
  have i0 : (0 : Int) ≤ (i : Int) := by omega
  have i1 : (i : Int) < (n : Int) := by omega
  have HW0 : Hid (Below w.heap.size w (w.alloc (.cells #[.int .i64 s.k, .slice uad L ucap] 46))) := below_alloc _ _
  have g0 : (w.alloc (.cells #[.int .i64 s.k, .slice uad L ucap] 46)).cell? ⟨w.heap.size, 0, none⟩ = some (.int .i64 s.k) := cell_of (heap_alloc_new _ _) rfl
  have g1 : (w.alloc (.cells #[.int .i64 s.k, .slice uad L ucap] 46)).cell? ⟨w.heap.size, 1, none⟩ = some (.slice uad L ucap) := cell_of (heap_alloc_new _ _) rfl
  have HCS : Hid (∀ W, Calls Tryz.prog 61 #[.int .i64 s.k] W fun e w' => e = .returned (.bool (isSet s.k)) ∧ w' = W) := fun W => set61_same s.k W
  have HCF : Hid (∀ W, Calls Tryz.prog 51 #[.int .i64 s.k] W fun e w' => e = .returned (.bool (isConf s.k)) ∧ w' = W) := fun W => conf51_same s.k W
  clear hc hn hL hcc l1 l2 h2 hs
  have HRE : Hid (∀ e : Int, segE s = e → e ≠ 0 → segR p i s = e) := fun e h1 h2 => segR_err h1 h2
  by_cases hk : s.k < 1 ∨ 4 < s.k
  · have HR : Hid (segR p i s = 15) := HRE.out 15 (segE15 hk) (by omega)
    by_cases hk1 : s.k < 1
    · go_enter Tryz.func41, Tryz.ntmps41
      go_wp2
      go_ret
      exact ⟨by rw [HR.out] <;> rfl, HW0.out⟩
    · have e1 : decide (s.k < 1) = false := decide_eq_false hk1
      have e2 : decide ((4 : Int) < s.k) = true := decide_eq_true (by omega)
      go_enter Tryz.func41, Tryz.ntmps41
      go_wp2
      go_ret
      exact ⟨by rw [HR.out] <;> rfl, HW0.out⟩
  have HK := Lib.hid hk
  have e1 : decide (s.k < 1) = false := decide_eq_false (by omega)
  have e2 : decide ((4 : Int) < s.k) = false := decide_eq_false (by omega)
  clear hk
  by_cases hl0 : L = 0
  · have HR : Hid (segR p i s = 1) := HRE.out 1 (segE1 HK.out (HNE.out.2 hl0)) (by omega)
    subst hl0
    go_enter Tryz.func41, Tryz.ntmps41
    go_wp2
    go_ret
    exact ⟨by rw [HR.out] <;> rfl, HW0.out⟩
  have HNE2 : Hid (s.as ≠ []) := fun e => hl0 (HNE.out.1 e)
  have e3 : ((L : Int) == 0) = false := by simpa using hl0
  have e3' : decide ((L : Int) = 0) = false := decide_eq_false (by omega)
  by_cases hl2 : 255 < L
  · have HR : Hid (segR p i s = 4) := HRE.out 4 (segE4 HK.out HNE2.out (by rw [HL.out]; exact hl2)) (by omega)
    have e4 : decide ((255 : Int) < (L : Int)) = true := decide_eq_true (by omega)
    clear HNE
    go_enter Tryz.func41, Tryz.ntmps41
    go_wp2
    go_ret
    exact ⟨by rw [HR.out] <;> rfl, HW0.out⟩
  have HL2 : Hid (¬ 255 < s.as.length) := by show ¬ _; rw [HL.out]; exact hl2
  have e4 : decide ((255 : Int) < (L : Int)) = false := decide_eq_false (by omega)
  have hL1 : 1 ≤ L := by omega
  clear HNE hl0
  go_enter Tryz.func41, Tryz.ntmps41
  go_wp2_with fail
  have HP0 : Hid (∀ k t, p[k]? = some t → ∃ u, (w.alloc (.cells #[.int .i64 s.k, .slice uad L ucap] 46)).cell? ⟨b, off + k * 2, none⟩ = some (.int .i64 t.k) ∧ (w.alloc (.cells #[.int .i64 s.k, .slice uad L ucap] 46)).cell? ⟨b, off + k * 2 + 1, none⟩ = some u ∧ RdI w u t.as) := fun k t hk => by
    obtain ⟨u, a, b, c⟩ := HP.out k t hk
    exact ⟨u, carry HW0.out a, carry HW0.out b, c⟩
  have HCC0 : Hid (∀ k x, s.as[k]? = some x → ∃ b off, uad = some ⟨b, off, none⟩ ∧ (w.alloc (.cells #[.int .i64 s.k, .slice uad L ucap] 46)).cell? ⟨b, off + k, none⟩ = some (.int .i64 x)) := fun k x hk => by
    obtain ⟨b, off, e, _, c⟩ := HCC.out k x hk
    exact ⟨b, off, e, carry HW0.out c⟩
  clear c0 c1 HP HCC
  generalize hWW : w.alloc (.cells #[.int .i64 s.k, .slice uad L ucap] 46) = W0 at *
  have HN0 : Hid (∀ (j : Nat) (x : Int), j < 0 → s.as[j]? = some x → isNum x = true) := fun j x h => by omega
  have HS0 : Hid (Below W0.heap.size W0 W0) := Below.refl _ _
  clear hWW
  go_loopg [7, 34] (L + 1) (fun g s7 s34 wr => ∃ m : Nat, m ≤ L ∧ L + 1 - m ≤ g ∧ s34 = .int .i64 (m : Int) ∧ (∃ q, q = s7) ∧ Hid (∀ (j : Nat) (x : Int), j < m → s.as[j]? = some x → isNum x = true) ∧ Hid (Below W0.heap.size W0 wr))
  case atStart => exact ⟨0, by omega, by omega, rfl, ⟨_, rfl⟩, HN0, HS0⟩
  case round =>
    clear HN0 HS0
    obtain ⟨m, hm, hmg, rfl, ⟨u7, rfl⟩, HI, HS⟩ := hrel
    by_cases hml : m < L
    · obtain ⟨x, hx⟩ : ∃ x, s.as[m]? = some x := ⟨_, List.getElem?_eq_getElem (by have := HL.out; omega)⟩
      have HX := Lib.hid hx
      obtain ⟨b1, o1, rfl, d1⟩ := HCC0.out m x hx
      have d1 := carry HS.out d1
      have j0 : (0 : Int) ≤ (m : Int) := by omega
      have j1 : (m : Int) < (L : Int) := by omega
      clear hx
      by_cases hx1 : x < 1
      · have HR : Hid (segR p i s = 5) := HRE.out 5 (segE5 HK.out HNE2.out HL2.out HX.out (by unfold isNum; exact decide_eq_false (by omega))) (by omega)
        have f1 : decide (x < 1) = true := decide_eq_true hx1
        have HB2 := Lib.hid (HW0.out.trans (HS.out.mono HW0.out.size))
        clear HI HX
        go_wp2
        go_ret
        exact ⟨by rw [HR.out] <;> rfl, HB2.out⟩
      by_cases hx2 : 4294967295 < x
      · have HR : Hid (segR p i s = 5) := HRE.out 5 (segE5 HK.out HNE2.out HL2.out HX.out (by unfold isNum; exact decide_eq_false (by omega))) (by omega)
        have f1 : decide (x < 1) = false := decide_eq_false hx1
        have f2 : decide ((4294967295 : Int) < x) = true := decide_eq_true hx2
        have HB2 := Lib.hid (HW0.out.trans (HS.out.mono HW0.out.size))
        clear HI HX hx1
        go_wp2
        go_ret
        exact ⟨by rw [HR.out] <;> rfl, HB2.out⟩
      · have f1 : decide (x < 1) = false := decide_eq_false hx1
        have f2 : decide ((4294967295 : Int) < x) = false := decide_eq_false hx2
        have HI2 : Hid (∀ (j : Nat) (x : Int), j < m + 1 → s.as[j]? = some x → isNum x = true) := fun j y hj hy => by
          by_cases e : j = m
          · subst e
            have h := HX.out
            rw [hy] at h; cases h
            unfold isNum; exact decide_eq_true (by omega)
          · exact HI.out j y (by omega) hy
        clear HI HX hx1 hx2
        go_wp2_with fail
        go_roundg (L + 1 - (m + 1))
        case measure => omega
        case rel => exact ⟨m + 1, by omega, Nat.le_refl _, by go_num, ⟨_, rfl⟩, HI2, HS⟩
    have k1 : decide ((m : Int) < (L : Int)) = false := decide_eq_false (by omega)
    have HNUM : Hid (∀ (j : Nat) (x : Int), s.as[j]? = some x → isNum x = true) := fun j x hx => HI.out j x (by have := (List.getElem?_eq_some_iff.1 hx).1; have := HL.out; omega) hx
    have HA0 : Hid (isSet s.k = true → ∀ (j : Nat) (x y : Int), j + 1 < 1 → s.as[j]? = some x → s.as[j + 1]? = some y → x < y) := fun _ j x y h => by omega
    clear HI
    go_wp2_with fail
    go_loopg [8] (L + 1) (fun g s8 wr => ∃ m : Nat, 1 ≤ m ∧ m ≤ L ∧ L + 1 - m ≤ g ∧ s8 = .int .i64 (m : Int) ∧ Hid (isSet s.k = true → ∀ (j : Nat) (x y : Int), j + 1 < m → s.as[j]? = some x → s.as[j + 1]? = some y → x < y) ∧ Hid (Below W0.heap.size W0 wr))
    case atStart => exact ⟨1, by omega, by omega, by omega, rfl, HA0, HS⟩
    case round =>
      clear HA0 HS k1
      obtain ⟨m, hm1, hm, hmg, rfl, HA, HS⟩ := hrel
      have d0 := carry HS.out g0
      have d1 := carry HS.out g1
      by_cases hml : m < L
      · have j0 : (0 : Int) ≤ (m : Int) := by omega
        have j1 : (m : Int) < (L : Int) := by omega
        have j2 : (0 : Int) ≤ (m : Int) - 1 := by omega
        have j3 : (m : Int) - 1 < (L : Int) := by omega
        have j4 : IntKind.i64.wrap ((m : Int) - 1) = (m : Int) - 1 := IntWalk.i64_in _ (by omega)
        have j5 : ((m : Int) - 1).toNat = m - 1 := by omega
        have k1 : decide ((m : Int) < (L : Int)) = true := decide_eq_true (by omega)
        cases hset : isSet s.k with
        | false =>
          rw [hset] at HCS
          have HA2 : Hid (isSet s.k = true → ∀ (j : Nat) (x y : Int), j + 1 < m + 1 → s.as[j]? = some x → s.as[j + 1]? = some y → x < y) := fun h => by rw [hset] at h; cases h
          clear HA hset
          go_wp2_with fail
          go_quiet (first | (go_at_call 61; exact Calls.quiet_of_same (HCS.out _)))
          go_wp2_with fail
          go_roundg (L + 1 - (m + 1))
          case measure => omega
          case rel => exact ⟨m + 1, by omega, by omega, Nat.le_refl _, by go_num, HA2, below_drewN HS.out _⟩
        | true =>
          rw [hset] at HCS
          obtain ⟨x, hx⟩ : ∃ x, s.as[m - 1]? = some x := ⟨_, List.getElem?_eq_getElem (by have := HL.out; omega)⟩
          obtain ⟨y, hy⟩ : ∃ y, s.as[m]? = some y := ⟨_, List.getElem?_eq_getElem (by have := HL.out; omega)⟩
          have HXY := Lib.hid (And.intro hx hy)
          obtain ⟨b1, o1, rfl, d2⟩ := HCC0.out (m - 1) x hx
          obtain ⟨b1', o1', e', d3⟩ := HCC0.out m y hy
          cases e'
          have d2 := carry HS.out d2
          have d3 := carry HS.out d3
          clear hx hy
          by_cases hxy : x < y
          · have q1 : decide (y ≤ x) = false := decide_eq_false (by omega)
            have HA2 : Hid (isSet s.k = true → ∀ (j : Nat) (x y : Int), j + 1 < m + 1 → s.as[j]? = some x → s.as[j + 1]? = some y → x < y) := fun h j x' y' hj hx' hy' => by
              by_cases e : j + 1 = m
              · subst e
                have h1 := HXY.out.1; have h2 := HXY.out.2
                rw [show j + 1 - 1 = j by omega, hx'] at h1
                rw [hy'] at h2
                cases h1; cases h2; exact hxy
              · exact HA.out h j x' y' (by omega) hx' hy'
            clear HA hset hxy HXY
            go_wp2_with fail
            go_quiet (first | (go_at_call 61; exact Calls.quiet_of_same (HCS.out _)))
            go_wp2_with fail
            go_roundg (L + 1 - (m + 1))
            case measure => omega
            case rel => exact ⟨m + 1, by omega, by omega, Nat.le_refl _, by go_num, HA2, below_drewN HS.out _⟩
          · have q1 : decide (y ≤ x) = true := decide_eq_true (by omega)
            have HR : Hid (segR p i s = 16) := HRE.out 16 (segE16 HK.out HNE2.out HL2.out HNUM.out hset (j := m - 1) HXY.out.1 (by rw [show m - 1 + 1 = m by omega]; exact HXY.out.2) (by omega)) (by omega)
            have HB2 := Lib.hid (HW0.out.trans (HS.out.mono HW0.out.size))
            clear HA hset hxy HXY
            go_wp2_with fail
            go_quiet (first | (go_at_call 61; exact Calls.quiet_of_same (HCS.out _)))
            go_wp2
            go_ret
            exact ⟨by rw [HR.out] <;> rfl, below_drewN HB2.out _⟩
      have k1 : decide ((m : Int) < (L : Int)) = false := decide_eq_false (by omega)
      have HE0 : Hid (segE s = 0) := segE0 HK.out HNE2.out HL2.out HNUM.out (fun h j x y hx hy => HA.out h j x y (by have := (List.getElem?_eq_some_iff.1 hy).1; have := HL.out; omega) hx hy)
      clear HA HNUM HCC0 HRE HL2 HNE2 HK HL hm hmg hm1
      cases hcf : isConf s.k with
      | false =>
        rw [hcf] at HCF
        have HT : Hid (segR p i s = if tailB p i s = true then 1 else 0) := segR_tail HE0.out (fun h => by rw [hcf] at h; cases h)
        clear HE0 hcf
        go_wp2_with fail
        go_at_call 51
        refine (HCF.out _).mono ?_
        rintro e w2 ⟨rfl, rfl⟩
        go_wp2_with fail
        have HB2 := Lib.hid (HW0.out.trans (HS.out.mono HW0.out.size))
        by_cases hi0 : i = 0
        · have HR : Hid (segR p i s = 0) := by
            show _ = _; rw [HT.out, if_neg]; subst hi0; exact fun h => by cases h
          have k2 : decide ((0 : Int) < (i : Int)) = false := decide_eq_false (by omega)
          clear HT
          go_quiet (first | (go_at_call 61; exact Calls.quiet_of_same (HCS.out _)))
          go_wp2
          go_ret
          exact ⟨by rw [HR.out] <;> rfl, below_drewN HB2.out _⟩
        obtain ⟨y, hy⟩ : ∃ y, p[i - 1]? = some y := ⟨_, List.getElem?_eq_getElem (by have := HN.out; omega)⟩
        obtain ⟨uy, a0, a1, huy⟩ := HP0.out (i - 1) y hy
        obtain ⟨yad, ycap, hf⟩ := huy.form
        subst hf
        obtain ⟨ly, hly⟩ : ∃ ly, y.as.length = ly := ⟨_, rfl⟩
        rw [hly] at a1
        have hTB : tailB p i s = (!isSet s.k && decide (y.k = s.k) && decide (ly < 255)) := by
          unfold tailB
          have : prevO p i = some y := by
            cases hq : i with
            | zero => omega
            | succ z => rw [hq] at hy; exact hy
          rw [this, ← hly]
        have d2 := carry HS.out a0
        have d3 := carry HS.out a1
        have k2 : decide ((0 : Int) < (i : Int)) = true := decide_eq_true (by omega)
        have k2' : 0 < i := by omega
        have k3 : (0 : Int) ≤ (i : Int) - 1 := by omega
        have k4 : (i : Int) - 1 < (n : Int) := by omega
        have k5 : IntKind.i64.wrap ((i : Int) - 1) = (i : Int) - 1 := IntWalk.i64_in _ (by omega)
        have k6 : ((i : Int) - 1).toNat = i - 1 := by omega
        clear hy a0 a1 huy hly hi0
        cases hset : isSet s.k with
        | true =>
          rw [hset] at HCS
          have HR : Hid (segR p i s = 0) := by
            show _ = _; rw [HT.out, hTB, hset]; rfl
          clear HT hTB hset
          go_quiet (first | (go_at_call 61; exact Calls.quiet_of_same (HCS.out _)))
          go_wp2
          go_ret
          exact ⟨by rw [HR.out] <;> rfl, below_drewN HB2.out _⟩
        | false =>
          rw [hset] at HCS
          by_cases hkk : y.k = s.k
          · have q1 : (y.k == s.k) = true := by simpa using hkk
            by_cases hll : ly < 255
            · have HR : Hid (segR p i s = 1) := by
                show _ = _; rw [HT.out, hTB, hset, decide_eq_true hkk, decide_eq_true hll]; rfl
              have q2 : decide ((ly : Int) < 255) = true := decide_eq_true (by omega)
              clear HT hTB hset hkk hll
              go_quiet (first | (go_at_call 61; exact Calls.quiet_of_same (HCS.out _)))
              go_wp2
              go_ret
              exact ⟨by rw [HR.out] <;> rfl, below_drewN HB2.out _⟩
            · have HR : Hid (segR p i s = 0) := by
                show _ = _; rw [HT.out, hTB, hset, decide_eq_true hkk, decide_eq_false hll]; rfl
              have q2 : decide ((ly : Int) < 255) = false := decide_eq_false (by omega)
              clear HT hTB hset hkk hll
              go_quiet (first | (go_at_call 61; exact Calls.quiet_of_same (HCS.out _)))
              go_wp2
              go_ret
              exact ⟨by rw [HR.out] <;> rfl, below_drewN HB2.out _⟩
          · have q1 : (y.k == s.k) = false := by simpa using hkk
            have HR : Hid (segR p i s = 0) := by
              show _ = _; rw [HT.out, hTB, hset, decide_eq_false hkk]; rfl
            clear HT hTB hset hkk
            go_quiet (first | (go_at_call 61; exact Calls.quiet_of_same (HCS.out _)))
            go_wp2
            go_ret
            exact ⟨by rw [HR.out] <;> rfl, below_drewN HB2.out _⟩
      | true =>
        rw [hcf] at HCF
        have HS1 : Hid (Below W0.heap.size W0 wr) := HS
        have HT0 : Hid (∀ t ∈ p.take 0, isConf t.k = true) := fun t h => by simp at h
        have j1 : (0 : Int) ≤ (cap : Int) := by omega
        have j2 : (i : Int) ≤ (cap : Int) := by omega
        have j3 : (i : Int) ≤ (n : Int) := by omega
        go_wp2_with fail
        go_at_call 51
        refine (HCF.out _).mono ?_
        rintro e w2 ⟨rfl, rfl⟩
        go_wp2_with fail
        clear d0 d1 HCF k1
        go_loopg [10, 76] (i + 1) (fun g s10 s76 wr => ∃ m : Nat, m ≤ i ∧ i + 1 - m ≤ g ∧ s76 = .int .i64 (m : Int) ∧ (∃ q, q = s10) ∧ Hid (∀ t ∈ p.take m, isConf t.k = true) ∧ Hid (Below W0.heap.size W0 wr))
        case atStart => exact ⟨0, by omega, by omega, rfl, ⟨_, rfl⟩, HT0, HS1⟩
        case round =>
          clear HT0 HS1 HS
          obtain ⟨m, hm, hmg, rfl, ⟨u10, rfl⟩, HI, HS⟩ := hrel
          by_cases hml : m < i
          · obtain ⟨t, ht⟩ : ∃ t, p[m]? = some t := ⟨_, List.getElem?_eq_getElem (by have := HN.out; omega)⟩
            have HTT := Lib.hid ht
            obtain ⟨ut, a0, a1, hut⟩ := HP0.out m t ht
            have d2 := carry HS.out a0
            have d3 := carry HS.out a1
            obtain ⟨tad, tcap, hf⟩ := hut.form
            subst hf
            have k0 : (0 : Int) ≤ (m : Int) := by omega
            have k1 : (m : Int) < (i : Int) := by omega
            obtain ⟨tl, htl⟩ : ∃ tl, t.as.length = tl := ⟨_, rfl⟩
            rw [htl] at d3
            have HCT : Hid (∀ W, Calls Tryz.prog 51 #[.int .i64 t.k] W fun e w' => e = .returned (.bool (isConf t.k)) ∧ w' = W) := fun W => conf51_same t.k W
            have HS2 := Lib.hid (below_then HS.out (below_alloc wr (.cells #[.int .i64 t.k, .slice tad tl tcap] 46)))
            clear ht a0 a1 hut htl
            cases hct : isConf t.k with
            | false =>
              rw [hct] at HCT
              have HR : Hid (segR p i s = 1) := segR_conf HE0.out hcf (t := t) (by
                refine List.mem_iff_getElem?.2 ⟨m, ?_⟩
                rw [List.getElem?_take_of_lt hml]; exact HTT.out) hct
              have HB2 := Lib.hid (HW0.out.trans (HS2.out.mono HW0.out.size))
              clear HI HE0 hcf hct HTT
              go_wp2_with fail
              go_at_call 51
              refine (HCT.out _).mono ?_
              rintro e w3 ⟨rfl, rfl⟩
              go_wp2
              go_ret
              exact ⟨by rw [HR.out] <;> rfl, HB2.out⟩
            | true =>
              rw [hct] at HCT
              have HI2 : Hid (∀ y ∈ p.take (m + 1), isConf y.k = true) := fun y hy => by
                rw [List.take_add_one, HTT.out] at hy
                rcases List.mem_append.1 hy with h | h
                · exact HI.out y h
                · simp at h; subst h; exact hct
              clear HI hct HTT
              go_wp2_with fail
              go_at_call 51
              refine (HCT.out _).mono ?_
              rintro e w3 ⟨rfl, rfl⟩
              go_wp2_with fail
              go_roundg (i + 1 - (m + 1))
              case measure => omega
              case rel => exact ⟨m + 1, by omega, Nat.le_refl _, by go_num, ⟨_, rfl⟩, HI2, HS2⟩
          obtain rfl : m = i := by omega
          have k1 : decide ((m : Int) < (m : Int)) = false := decide_eq_false (by omega)
          have HT : Hid (segR p m s = if tailB p m s = true then 1 else 0) := segR_tail HE0.out (fun _ => HI.out)
          have d0 := carry HS.out g0
          have d1 := carry HS.out g1
          clear HI HE0 hcf hml hmg hm
          go_wp2_with fail
          have HB2 := Lib.hid (HW0.out.trans (HS.out.mono HW0.out.size))
          by_cases hi0 : m = 0
          · have HR : Hid (segR p m s = 0) := by
              show _ = _; rw [HT.out, if_neg]; subst hi0; exact fun h => by cases h
            have k2 : decide ((0 : Int) < (m : Int)) = false := decide_eq_false (by omega)
            clear HT
            go_quiet (first | (go_at_call 61; exact Calls.quiet_of_same (HCS.out _)))
            go_wp2
            go_ret
            exact ⟨by rw [HR.out] <;> rfl, below_drewN HB2.out _⟩
          obtain ⟨y, hy⟩ : ∃ y, p[m - 1]? = some y := ⟨_, List.getElem?_eq_getElem (by have := HN.out; omega)⟩
          obtain ⟨uy, a0, a1, huy⟩ := HP0.out (m - 1) y hy
          obtain ⟨yad, ycap, hf⟩ := huy.form
          subst hf
          obtain ⟨ly, hly⟩ : ∃ ly, y.as.length = ly := ⟨_, rfl⟩
          rw [hly] at a1
          have hTB : tailB p m s = (!isSet s.k && decide (y.k = s.k) && decide (ly < 255)) := by
            unfold tailB
            have : prevO p m = some y := by
              cases hq : m with
              | zero => omega
              | succ z => rw [hq] at hy; exact hy
            rw [this, ← hly]
          have d2 := carry HS.out a0
          have d3 := carry HS.out a1
          have k2 : decide ((0 : Int) < (m : Int)) = true := decide_eq_true (by omega)
          have k2' : 0 < m := by omega
          have k3 : (0 : Int) ≤ (m : Int) - 1 := by omega
          have k4 : (m : Int) - 1 < (n : Int) := by omega
          have k5 : IntKind.i64.wrap ((m : Int) - 1) = (m : Int) - 1 := IntWalk.i64_in _ (by omega)
          have k6 : ((m : Int) - 1).toNat = m - 1 := by omega
          clear hy a0 a1 huy hly hi0
          cases hset : isSet s.k with
          | true =>
            rw [hset] at HCS
            have HR : Hid (segR p m s = 0) := by
              show _ = _; rw [HT.out, hTB, hset]; rfl
            clear HT hTB hset
            go_quiet (first | (go_at_call 61; exact Calls.quiet_of_same (HCS.out _)))
            go_wp2
            go_ret
            exact ⟨by rw [HR.out] <;> rfl, below_drewN HB2.out _⟩
          | false =>
            rw [hset] at HCS
            by_cases hkk : y.k = s.k
            · have q1 : (y.k == s.k) = true := by simpa using hkk
              by_cases hll : ly < 255
              · have HR : Hid (segR p m s = 1) := by
                  show _ = _; rw [HT.out, hTB, hset, decide_eq_true hkk, decide_eq_true hll]; rfl
                have q2 : decide ((ly : Int) < 255) = true := decide_eq_true (by omega)
                clear HT hTB hset hkk hll
                go_quiet (first | (go_at_call 61; exact Calls.quiet_of_same (HCS.out _)))
                go_wp2
                go_ret
                exact ⟨by rw [HR.out] <;> rfl, below_drewN HB2.out _⟩
              · have HR : Hid (segR p m s = 0) := by
                  show _ = _; rw [HT.out, hTB, hset, decide_eq_true hkk, decide_eq_false hll]; rfl
                have q2 : decide ((ly : Int) < 255) = false := decide_eq_false (by omega)
                clear HT hTB hset hkk hll
                go_quiet (first | (go_at_call 61; exact Calls.quiet_of_same (HCS.out _)))
                go_wp2
                go_ret
                exact ⟨by rw [HR.out] <;> rfl, below_drewN HB2.out _⟩
            · have q1 : (y.k == s.k) = false := by simpa using hkk
              have HR : Hid (segR p m s = 0) := by
                show _ = _; rw [HT.out, hTB, hset, decide_eq_false hkk]; rfl
              clear HT hTB hset hkk
              go_quiet (first | (go_at_call 61; exact Calls.quiet_of_same (HCS.out _)))
              go_wp2
              go_ret
              exact ⟨by rw [HR.out] <;> rfl, below_drewN HB2.out _⟩
end Go.Proofs.YtaniiennfogjaaaGreatDoor
