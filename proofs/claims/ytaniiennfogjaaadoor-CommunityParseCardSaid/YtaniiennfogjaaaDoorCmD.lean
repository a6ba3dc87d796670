/-
  Check, the reference's Check and Same at lists of communities.
-/
import Derived.Test.YtaniiennfogjaaaDoorCmC
namespace Go.Proofs.YtaniiennfogjaaaDoor
open Go.RowKit T
set_option linter.unusedSimpArgs false
set_option linter.unusedVariables false
set_option maxHeartbeats 1500000
set_option maxRecDepth 100000

def chkE (l : List Nat) : Int := if 255 < l.length then 4 else if ascB l = true then 0 else 16
theorem check_any (m : List Nat) (v : Value) (w : World) (hv : Rd w v m) : Calls Tryd.prog 9 #[v] w fun e w' => e = .returned (.int .i64 (chkE m)) ∧ Below w.heap.size w w' := by
  have HA := Lib.hid (ascends_any m v w hv)
  obtain ⟨ad, cap, rfl⟩ := hv.form
  obtain ⟨L, hL⟩ : ∃ L, m.length = L := ⟨_, rfl⟩
  rw [hL] at HA ⊢
  clear hv
  by_cases h : 255 < L
  · have HE : Hid (chkE m = 4) := by unfold Hid chkE; rw [if_pos (by rw [hL]; exact h)]
    have h' : (255 : Int) < (L : Int) := by omega
    clear hL
    go_enter Tryd.func9, Tryd.ntmps9
    go_wp2
    go_ret
    exact ⟨by rw [HE.out] <;> rfl, Below.refl _ _⟩
  · have h' : ¬ (255 : Int) < (L : Int) := by omega
    cases ha : ascB m with
    | true =>
      have HE : Hid (chkE m = 0) := by unfold Hid chkE; rw [if_neg (by rw [hL]; exact h), if_pos ha]
      rw [ha] at HA
      clear hL ha
      go_enter Tryd.func9, Tryd.ntmps9
      go_wp2_with (go_at_call 29; refine HA.out.mono ?_; rintro e w1 ⟨rfl, hb⟩; have HB := Lib.hid hb; clear hb)
      go_ret
      exact ⟨by rw [HE.out] <;> rfl, HB.out⟩
    | false =>
      have HE : Hid (chkE m = 16) := by unfold Hid chkE; rw [if_neg (by rw [hL]; exact h), if_neg (by rw [ha]; simp)]
      rw [ha] at HA
      clear hL ha
      go_enter Tryd.func9, Tryd.ntmps9
      go_wp2_with (go_at_call 29; refine HA.out.mono ?_; rintro e w1 ⟨rfl, hb⟩; have HB := Lib.hid hb; clear hb)
      go_ret
      exact ⟨by rw [HE.out] <;> rfl, HB.out⟩
theorem rcheck_any (m : List Nat) (v : Value) (w : World) (hv : Rd w v m) : Calls Tryd.prog 10 #[v] w fun e w' => e = .returned (.int .i64 (chkE m)) ∧ Below w.heap.size w w' := by
  obtain ⟨ad, cap, rfl, ⟨h1, h1'⟩, h2, hc⟩ := hv
  have HC := Lib.hid hc
  obtain ⟨L, hL⟩ : ∃ L, m.length = L := ⟨_, rfl⟩
  rw [hL] at h1 ⊢
  have HL := Lib.hid hL
  clear hc hL h2
  by_cases h : 255 < L
  · have HE : Hid (chkE m = 4) := by unfold Hid chkE; rw [if_pos (by rw [HL.out]; exact h)]
    have h' : (255 : Int) < (L : Int) := by omega
    go_enter Tryd.func10, Tryd.ntmps10
    go_wp2
    go_ret
    exact ⟨by rw [HE.out] <;> rfl, Below.refl _ _⟩
  · have h' : ¬ (255 : Int) < (L : Int) := by omega
    have HE : Hid (chkE m = if ascB m = true then 0 else 16) := by unfold Hid chkE; rw [if_neg (by rw [HL.out]; exact h)]
    have HS : Hid (Below w.heap.size w w ∧ ∀ j x y, j + 1 < 1 → m[j]? = some x → m[j + 1]? = some y → x < y) := ⟨Below.refl _ _, fun j x y h => by omega⟩
    go_enter Tryd.func10, Tryd.ntmps10
    go_wp2_with fail
    go_loopg [3] L (fun g s3 wr => ∃ k : Nat, k ≤ L ∧ L - k ≤ g ∧ s3 = .int .i64 ((k : Int) + 1) ∧ Hid (Below w.heap.size w wr ∧ ∀ j x y, j + 1 < k + 1 → m[j]? = some x → m[j + 1]? = some y → x < y))
    case atStart => exact ⟨0, by omega, by omega, rfl, HS⟩
    case round =>
      clear HS
      obtain ⟨k, hk, hkg, rfl, HS⟩ := hrel
      by_cases hlt : k + 1 < L
      · obtain ⟨x, hx⟩ : ∃ x, m[k]? = some x := ⟨_, List.getElem?_eq_getElem (by rw [HL.out]; omega)⟩
        obtain ⟨y, hy⟩ : ∃ y, m[k + 1]? = some y := ⟨_, List.getElem?_eq_getElem (by rw [HL.out]; omega)⟩
        obtain ⟨b, off, rfl, hb, c⟩ := HC.out k x hx
        obtain ⟨b', off', e', hb', c'⟩ := HC.out (k + 1) y hy
        obtain ⟨rfl, rfl⟩ : b = b' ∧ off = off' := by injection e' with e'; injection e' with e1 e2; exact ⟨e1, e2⟩
        have d := (HS.out.1.cell (p := ⟨b, off + k, none⟩) hb).trans c
        have d' := (HS.out.1.cell (p := ⟨b, off + (k + 1), none⟩) hb).trans c'
        clear c c' hb' e'
        have HXY : Hid (m[k]? = some x ∧ m[k + 1]? = some y) := ⟨hx, hy⟩
        clear hx hy
        have k0 : (0 : Int) ≤ (k : Int) := by omega
        have k1 : (k : Int) + 1 < (L : Int) := by omega
        have k2 : (k : Int) < (L : Int) := by omega
        have k3 : (0 : Int) ≤ (k : Int) + 1 := by omega
        have k4 : IntKind.i64.wrap (k : Int) = (k : Int) := IntWalk.i64_in _ (by constructor <;> omega)
        by_cases hge : y ≤ x
        · have g1 : decide (y ≤ x) = true := decide_eq_true (by omega)
          have HQF : Hid (chkE m = 16) := by
            unfold Hid; rw [HE.out]
            refine if_neg ?_
            unfold ascB
            rw [decide_eq_true_iff]
            exact fun h => by have := asc_step h (Nat.lt_succ_self k) HXY.out.1 HXY.out.2; omega
          have HB := Lib.hid HS.out.1
          clear HS HXY hge
          go_wp2_with fail
          go_quiet (fail)
          go_wp2_with fail
          go_ret
          exact ⟨by rw [HQF.out] <;> rfl, below_drewN HB.out _⟩
        · have g1 : decide (y ≤ x) = false := decide_eq_false (by omega)
          have HN : Hid (∀ q, Below w.heap.size w (wr.drewN q) ∧ ∀ j x y, j + 1 < k + 1 + 1 → m[j]? = some x → m[j + 1]? = some y → x < y) := fun q => ⟨below_drewN HS.out.1 q, fun j x' y' hj hx' hy' => by
            by_cases e : j = k
            · subst e
              have a1 := HXY.out.1; have a2 := HXY.out.2
              rw [hx'] at a1; rw [hy'] at a2
              cases a1; cases a2; omega
            · exact HS.out.2 j x' y' (by omega) hx' hy'⟩
          clear HS HXY hge
          go_wp2_with fail
          go_quiet (fail)
          go_wp2_with fail
          go_roundg (L - (k + 1))
          case measure => omega
          case rel => exact ⟨k + 1, by omega, Nat.le_refl _, by go_num, HN.out _⟩
      · have k1 : decide ((k : Int) + 1 < (L : Int)) = false := decide_eq_false (by omega)
        have HQT : Hid (chkE m = 0) := by
          unfold Hid; rw [HE.out]
          refine if_pos ?_
          unfold ascB
          refine decide_eq_true (asc_of fun j x y hx hy => HS.out.2 j x y ?_ hx hy)
          have h1 := (List.getElem?_eq_some_iff.1 hy).1
          have := HL.out; omega
        have HB := Lib.hid HS.out.1
        clear HS
        go_wp2
        go_ret
        exact ⟨by rw [HQT.out] <;> rfl, HB.out⟩
theorem same_any (l m : List Nat) (v u : Value) (w : World) (hv : Rd w v l) (hu : Rd w u m) : Calls Tryd.prog 18 #[v, u] w fun e w' => e = .returned (.bool (decide (l = m))) ∧ Below w.heap.size w w' := by
  obtain ⟨ad, cap, rfl, ⟨h1, h1'⟩, h2, hc⟩ := hv
  obtain ⟨ad2, cap2, rfl, ⟨g1, g1'⟩, g2, hc2⟩ := hu
  have HC := Lib.hid hc
  have HC2 := Lib.hid hc2
  obtain ⟨L, hL⟩ : ∃ L, l.length = L := ⟨_, rfl⟩
  obtain ⟨M, hM⟩ : ∃ M, m.length = M := ⟨_, rfl⟩
  rw [hL] at h1 ⊢
  rw [hM] at g1 ⊢
  have HL := Lib.hid hL
  have HM := Lib.hid hM
  clear hc hc2 hL hM h2 g2
  obtain ⟨q, hq⟩ : ∃ q, decide (l = m) = q := ⟨_, rfl⟩
  rw [hq]
  have HQ := Lib.hid hq
  clear hq
  by_cases hne : L = M
  · subst hne
    have t1 : ((L : Int) != (L : Int)) = false := by simp
    have HS : Hid (Below w.heap.size w w ∧ ∀ j, j < 0 → l[j]? = m[j]?) := ⟨Below.refl _ _, fun j h => by omega⟩
    go_enter Tryd.func18, Tryd.ntmps18
    go_wp2_with fail
    go_loopg [5, 13] L (fun g s5 s13 wr => ∃ k : Nat, k ≤ L ∧ L - k ≤ g ∧ (∃ q, q = s5) ∧ s13 = .int .i64 (k : Int) ∧ Hid (Below w.heap.size w wr ∧ ∀ j, j < k → l[j]? = m[j]?))
    case atStart => exact ⟨0, by omega, by omega, ⟨_, rfl⟩, rfl, HS⟩
    case round =>
      clear HS
      obtain ⟨k, hk, hkg, ⟨u5, rfl⟩, rfl, HS⟩ := hrel
      by_cases hlt : k < L
      · obtain ⟨x, hx⟩ : ∃ x, l[k]? = some x := ⟨_, List.getElem?_eq_getElem (by rw [HL.out]; omega)⟩
        obtain ⟨y, hy⟩ : ∃ y, m[k]? = some y := ⟨_, List.getElem?_eq_getElem (by rw [HM.out]; omega)⟩
        obtain ⟨b, off, rfl, hb, c⟩ := HC.out k x hx
        obtain ⟨b', off', rfl, hb', c'⟩ := HC2.out k y hy
        have d := (HS.out.1.cell (p := ⟨b, off + k, none⟩) hb).trans c
        have d' := (HS.out.1.cell (p := ⟨b', off' + k, none⟩) hb').trans c'
        clear c c' hb hb'
        have HXY : Hid (l[k]? = some x ∧ m[k]? = some y) := ⟨hx, hy⟩
        clear hx hy
        have k0 : (0 : Int) ≤ (k : Int) := by omega
        have k1 : (k : Int) < (L : Int) := by omega
        by_cases he : x = y
        · subst he
          have t2 : ((x : Int) != (x : Int)) = false := by simp
          have HN : Hid (∀ q, Below w.heap.size w (wr.drewN q) ∧ ∀ j, j < k + 1 → l[j]? = m[j]?) := fun q => ⟨below_drewN HS.out.1 q, fun j hj => by
            by_cases e : j = k
            · subst e; rw [HXY.out.1, HXY.out.2]
            · exact HS.out.2 j (by omega)⟩
          clear HS HXY
          go_wp2_with fail
          go_quiet (fail)
          go_wp2_with fail
          go_roundg (L - (k + 1))
          case measure => omega
          case rel => exact ⟨k + 1, by omega, Nat.le_refl _, ⟨_, rfl⟩, by go_num, HN.out _⟩
        · have t2 : ((x : Int) != (y : Int)) = true := by simp; omega
          have HQF : Hid (false = q) := by
            unfold Hid; rw [← HQ.out]
            exact (decide_eq_false fun h => by
              have a1 := HXY.out.1; have a2 := HXY.out.2
              rw [h, a2] at a1; cases a1; exact he rfl).symm
          have HB := Lib.hid HS.out.1
          clear HS HXY he
          go_wp2_with fail
          go_quiet (fail)
          go_wp2_with fail
          go_ret
          exact ⟨ret_b HQF.out, below_drewN HB.out _⟩
      · have k1 : decide ((k : Int) < (L : Int)) = false := decide_eq_false (by omega)
        have HQT : Hid (true = q) := by
          unfold Hid; rw [← HQ.out]
          refine (decide_eq_true (List.ext_getElem? fun j => ?_)).symm
          by_cases hj : j < k
          · exact HS.out.2 j hj
          · rw [List.getElem?_eq_none (by have := HL.out; omega), List.getElem?_eq_none (by have := HM.out; omega)]
        have HB := Lib.hid HS.out.1
        clear HS
        go_wp2
        go_ret
        exact ⟨ret_b HQT.out, HB.out⟩
  · have t1 : ((L : Int) != (M : Int)) = true := by simp; omega
    have HQF : Hid (false = q) := by
      unfold Hid; rw [← HQ.out]
      exact (decide_eq_false fun h => by have a := HL.out; have b := HM.out; rw [h] at a; omega).symm
    go_enter Tryd.func18, Tryd.ntmps18
    go_wp2
    go_ret
    exact ⟨ret_b HQF.out, Below.refl _ _⟩
end Go.Proofs.YtaniiennfogjaaaDoor
