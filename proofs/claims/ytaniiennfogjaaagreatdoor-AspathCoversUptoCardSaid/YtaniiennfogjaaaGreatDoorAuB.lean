/-
  slices.EqualFunc at segments; the walk of Same.
-/
import Derived.Test.YtaniiennfogjaaaGreatDoorAuA
import Derived.BigQuiet
namespace Go.Proofs.YtaniiennfogjaaaGreatDoor
open Go.RowKit P
set_option linter.unusedSimpArgs false
set_option linter.unusedVariables false
set_option maxHeartbeats 1500000
set_option maxRecDepth 100000
theorem equalF_any (a b : List Sg) (v u : Value) (w : World) (hv : RdS w v a) (hu : RdS w u b) :
    Calls Tryz.prog 72 #[v, u, .func (.func 73) #[] #[]] w fun e w' => e = .returned (.bool (decide (a = b))) ∧ Below w.heap.size w w' := by
  obtain ⟨va, vc, rfl, v1, v2, hvc⟩ := hv
  obtain ⟨ua, uc, rfl, u1, u2, huc⟩ := hu
  obtain ⟨M, hM⟩ : ∃ M, a.length = M := ⟨_, rfl⟩
  obtain ⟨N, hN⟩ : ∃ N, b.length = N := ⟨_, rfl⟩
  rw [hM] at v1 ⊢
  rw [hN] at u1 ⊢
  have HM := Lib.hid hM
  have HN := Lib.hid hN
  have HVC := Lib.hid hvc
  have HUC := Lib.hid huc
  have hLm : M ≤ 9223372036854775807 := by have := v2.1; omega
  have HA0 : Hid (∀ j, j < 0 → a[j]? = b[j]?) := fun j h => by omega
  have HS0 : Hid (Below w.heap.size w w) := Below.refl _ _
  clear v1 v2 u1 u2 hvc huc hM hN
  by_cases hmn : M = N
  · subst hmn
    go_enter Tryz.func72, Tryz.ntmps72
    go_wp2_with fail
    go_loopg [7, 8, 9, 17] (M + 1) (fun g s7 s8 s9 s17 wr => ∃ k : Nat, k ≤ M ∧ M + 1 - k ≤ g ∧ s17 = .int .i64 (k : Int) ∧ (∃ q, q = s7) ∧ (∃ q, q = s8) ∧ (∃ q, q = s9) ∧ Hid (∀ j, j < k → a[j]? = b[j]?) ∧ Hid (Below w.heap.size w wr))
    case atStart => exact ⟨0, by omega, by omega, rfl, ⟨_, rfl⟩, ⟨_, rfl⟩, ⟨_, rfl⟩, HA0, HS0⟩
    case round =>
      clear HA0 HS0
      obtain ⟨k, hk, hkg, rfl, ⟨u7, rfl⟩, ⟨u8, rfl⟩, ⟨u9, rfl⟩, HA, HS⟩ := hrel
      by_cases hlt : k < M
      · obtain ⟨s, hs⟩ : ∃ s, a[k]? = some s := ⟨_, List.getElem?_eq_getElem (by have := HM.out; omega)⟩
        obtain ⟨t, ht⟩ : ∃ t, b[k]? = some t := ⟨_, List.getElem?_eq_getElem (by have := HN.out; omega)⟩
        have HXY := Lib.hid (And.intro hs ht)
        obtain ⟨p1, o1, x1, rfl, q1, c1, c1', r1⟩ := HVC.out k s hs
        obtain ⟨p2, o2, x2, rfl, q2, c2, c2', r2⟩ := HUC.out k t ht
        have d1 := carry HS.out c1
        have d1' := carry HS.out c1'
        obtain ⟨a1, k1', f1⟩ := r1.form
        obtain ⟨a2, k2', f2⟩ := r2.form
        have hb1 : Hid (Below w.heap.size w (wr.alloc (.cells #[.int .i64 s.k, x1] 46))) := below_then HS.out (below_alloc _ _)
        have d2 := carry hb1.out c2
        have d2' := carry hb1.out c2'
        have hb2 : Hid (Below w.heap.size w ((wr.alloc (.cells #[.int .i64 s.k, x1] 46)).alloc (.cells #[.int .i64 t.k, x2] 46))) := below_then hb1.out (below_alloc _ _)
        have HC := Lib.hid (sameSeg_any s.k s.as x1 t.k t.as x2 _ (r1.below hb2.out) (r2.below hb2.out))
        have k0 : (0 : Int) ≤ (k : Int) := by omega
        have k1 : decide ((k : Int) < (M : Int)) = true := decide_eq_true (by omega)
        have k2 : (k : Int) < (M : Int) := by omega
        subst f1 f2
        generalize s.as.length = L1 at *
        generalize t.as.length = L2 at *
        have HX0 : Hid (((wr.alloc (.cells #[.int .i64 s.k, .slice a1 L1 k1'] 46)).alloc (.cells #[.int .i64 t.k, .slice a2 L2 k2'] 46)).heap[wr.heap.size]? = some (.cells #[.int .i64 s.k, .slice a1 L1 k1'] 46 (0, 0))) := ((below_alloc _ _).block _ (by simp)).trans (heap_alloc_new _ _)
        have g0 := cell_of HX0.out (show (#[Value.int .i64 s.k, .slice a1 L1 k1'])[0]? = some (.int .i64 s.k) from rfl)
        have g1 := cell_of HX0.out (show (#[Value.int .i64 s.k, .slice a1 L1 k1'])[1]? = some (.slice a1 L1 k1') from rfl)
        clear hs ht c1 c2 c1' c2' r1 r2 hb1
        by_cases hxy : s = t
        · have HA2 : Hid (∀ j, j < k + 1 → a[j]? = b[j]?) := fun j hj => by
            by_cases e : j = k
            · subst e; rw [HXY.out.1, HXY.out.2, hxy]
            · exact HA.out j (by omega)
          rw [show decide ((⟨s.k, s.as⟩ : Sg) = ⟨t.k, t.as⟩) = true from decide_eq_true hxy] at HC
          clear HA HXY hxy
          go_wp2_with fail
          refine HC.out.mono ?_
          rintro e w1 ⟨rfl, hbb⟩
          have HB1 := Lib.hid (below_then hb2.out hbb)
          clear hbb HC g0 g1 HX0 d1 d1' d2 d2'
          go_wp2_with fail
          go_roundg (M + 1 - (k + 1))
          case measure => omega
          case rel => exact ⟨k + 1, by omega, Nat.le_refl _, by go_num, ⟨_, rfl⟩, ⟨_, rfl⟩, ⟨_, rfl⟩, HA2, HB1⟩
        · have HZ : Hid (decide (a = b) = false) := by
            refine decide_eq_false fun e => hxy ?_
            have h1 := HXY.out.1; have h2 := HXY.out.2
            rw [e, h2] at h1; cases h1; rfl
          rw [show decide ((⟨s.k, s.as⟩ : Sg) = ⟨t.k, t.as⟩) = false from decide_eq_false hxy] at HC
          clear HA HXY hxy
          go_wp2_with fail
          refine HC.out.mono ?_
          rintro e w1 ⟨rfl, hbb⟩
          have HB1 := Lib.hid (below_then hb2.out hbb)
          clear hbb HC g0 g1 HX0 d1 d1' d2 d2'
          go_wp2
          go_ret
          exact ⟨by rw [HZ.out] <;> rfl, HB1.out⟩
      · have k1 : decide ((k : Int) < (M : Int)) = false := decide_eq_false (by omega)
        have HZ : Hid (decide (a = b) = true) := decide_eq_true (eq_upto (by rw [HM.out, HN.out]) (fun j hj => HA.out j (by have := HM.out; omega)))
        go_wp2
        go_ret
        exact ⟨by rw [HZ.out] <;> rfl, HS.out⟩
  · have HZ : Hid (decide (a = b) = false) := decide_eq_false fun e => hmn (by rw [← HM.out, ← HN.out, e])
    have k1 : ((M : Int) == (N : Int)) = false := by simpa using (by omega : ¬ (M : Int) = (N : Int))
    go_enter Tryz.func72, Tryz.ntmps72
    go_wp2
    go_ret
    exact ⟨by rw [HZ.out] <;> rfl, HS0.out⟩
theorem same_any (a b : List Sg) (v u : Value) (w : World) (hv : RdS w v a) (hu : RdS w u b) :
    Calls Tryz.prog 37 #[v, u] w fun e w' => e = .returned (.bool (decide (a = b))) ∧ Below w.heap.size w w' := by
  have H := Lib.hid (equalF_any a b v u w hv hu)
  obtain ⟨ad, cap, rfl⟩ := hv.form
  obtain ⟨ad2, cap2, rfl⟩ := hu.form
  generalize decide (a = b) = q at *
  generalize a.length = M at *
  generalize b.length = N at *
  clear hv hu
  go_enter Tryz.func37, Tryz.ntmps37
  go_wp2_with fail
  go_at_call 72
  refine H.out.mono ?_
  rintro e w1 ⟨rfl, hb⟩
  have HB := Lib.hid hb
  clear hb H
  go_wp2
  go_ret
  exact ⟨rfl, HB.out⟩
end Go.Proofs.YtaniiennfogjaaaGreatDoor
