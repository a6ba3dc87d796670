/-
  The walk of the law Permits.
-/
import Derived.Test.YtaniiennfogjaaaDoorLwB
import Derived.Deep.RegionHeld3
namespace Go.Proofs.YtaniiennfogjaaaDoor
open Go.RowKit T
set_option linter.unusedSimpArgs false
set_option linter.unusedVariables false
set_option maxHeartbeats 2000000
set_option maxRecDepth 100000

theorem below_undrew' {B : Nat} {a w : World} (h : Below B a.drew w) : Below B a w := ⟨h.os, h.tape, h.output, h.size, h.block⟩
theorem perm_large (rs : List Ru) (l : List Nat) (u v : Value) (w : World) (hT : Lt w) (hu : RdU w u rs) (hv : Rd w v l) (h : 200 < rs.length ∨ 600 < l.length) :
    Calls Tryd.prog 7 #[u, v] w fun e w' => e = .returned (.bool true) ∧ Below w.heap.size w w' := by
  obtain ⟨ad, cap, rfl⟩ := hu.form
  obtain ⟨ad2, cap2, rfl⟩ := hv.form
  have HA := Lib.hid (awake_any w hT)
  clear hT hu hv
  by_cases h1 : 200 < rs.length
  · have g1 : (200 : Int) < (rs.length : Int) := by omega
    go_enter Tryd.func7, Tryd.ntmps7
    go_wp2_with fail
    go_at_call 11
    refine HA.out.mono ?_
    rintro e w1 ⟨rfl, hb⟩
    go_wp2
    go_ret
    exact ⟨rfl, hb⟩
  · have g1 : decide ((200 : Int) < (rs.length : Int)) = false := decide_eq_false (by omega)
    have g1' : ¬ (200 : Int) < (rs.length : Int) := by omega
    have g2 : (600 : Int) < (l.length : Int) := by omega
    go_enter Tryd.func7, Tryd.ntmps7
    go_wp2_with fail
    go_at_call 11
    refine HA.out.mono ?_
    rintro e w1 ⟨rfl, hb⟩
    go_wp2
    go_ret
    exact ⟨rfl, hb⟩
theorem perm_small (rs : List Ru) (l : List Nat) (u v : Value) (w : World) (hT : Lt w) (hu : RdU w u rs) (hv : Rd w v l) (hr2 : rs.length ≤ 200) (hl6 : l.length ≤ 600) :
    Calls Tryd.prog 7 #[u, v] w fun e w' => e = .returned (.bool true) ∧ Below w.heap.size w w' := by
  have HT := Lib.hid hT
  have HP1 : Hid (∀ W, Below w.heap.size w W → Calls Tryd.prog 27 #[u, v] W fun e w' => e = .returned (.bool (permB rs l)) ∧ Below W.heap.size W w') := fun W hW => permits_any rs l u v W (hu.below hW) (hv.below hW)
  have HP2 : Hid (∀ W, Below w.heap.size w W → Calls Tryd.prog 28 #[u, v] W fun e w' => e = .returned (.bool (permB rs l)) ∧ Below W.heap.size W w') := fun W hW => rpermits_any rs l u v W (hu.below hW) (hv.below hW)
  have HM1 : Hid (∀ (X W : World) (pm : Bool) (hi lo : Int), Below w.heap.size w X → Below X.heap.size X W → Calls Tryd.prog 25 #[.agg #[.bool pm, .int .i64 hi, .int .i64 lo], v] W fun e w' => e = .returned (.bool (matchB hi lo l)) ∧ Below W.heap.size W w') := fun X W pm hi lo hX hW => match_any pm hi lo l v W (hv.below (below_then hX hW))
  have HM2 : Hid (∀ (X W : World) (pm : Bool) (hi lo : Int), Below w.heap.size w X → Below X.heap.size X W → Calls Tryd.prog 26 #[.agg #[.bool pm, .int .i64 hi, .int .i64 lo], v] W fun e w' => e = .returned (.bool (matchB hi lo l)) ∧ Below W.heap.size W w') := fun X W pm hi lo hX hW => rmatch_any pm hi lo l v W (hv.below (below_then hX hW))
  obtain ⟨ad2, cap2, rfl⟩ := hv.form
  obtain ⟨ad, cap, rfl, ⟨h1, h1'⟩, hc⟩ := hu
  have HC := Lib.hid hc
  obtain ⟨L, hL⟩ : ∃ L, rs.length = L := ⟨_, rfl⟩
  rw [hL] at h1 hr2 HP1 HP2 ⊢
  have HL := Lib.hid hL
  obtain ⟨M, hM⟩ : ∃ M, l.length = M := ⟨_, rfl⟩
  rw [hM] at hl6 HP1 HP2 HM1 HM2 ⊢
  have g1 : decide ((200 : Int) < (L : Int)) = false := decide_eq_false (by omega)
  have g1' : ¬ (200 : Int) < (L : Int) := by omega
  have g2 : decide ((600 : Int) < (M : Int)) = false := decide_eq_false (by omega)
  have g2' : ¬ (600 : Int) < (M : Int) := by omega
  have H0 := Lib.hid (Below.refl w.heap.size w)
  clear hT hv hc hL hM
  go_enter Tryd.func7, Tryd.ntmps7
  go_wp2_with fail
  go_loopg [6, 18] L (fun g s6 s18 wr => ∃ k : Nat, k ≤ L ∧ L - k ≤ g ∧ s18 = .int .i64 (k : Int) ∧ (∃ q, q = s6) ∧ Hid (Below w.heap.size w wr))
  case atStart => exact ⟨0, by omega, by omega, rfl, ⟨_, rfl⟩, H0⟩
  case round =>
    clear H0
    obtain ⟨k, hk, hkg, rfl, ⟨u6, rfl⟩, HW⟩ := hrel
    by_cases hlt : k < L
    · obtain ⟨z, hz⟩ : ∃ z, rs[k]? = some z := ⟨_, List.getElem?_eq_getElem (by rw [HL.out]; exact hlt)⟩
      obtain ⟨b, off, rfl, hb, e0, e1, e2⟩ := HC.out k z hz
      have c0 := carry HW.out e0
      have c1 := carry HW.out e1
      have c2 := carry HW.out e2
      have k0 : (0 : Int) ≤ (k : Int) := by omega
      have k1 : (k : Int) < (L : Int) := by omega
      obtain ⟨pm, hi, lo⟩ := z
      dsimp only at c0 c1 c2
      have hx : (wr.alloc (.cells #[.bool pm, .int .i64 hi, .int .i64 lo] 40)).heap[wr.heap.size]? = some (.cells #[.bool pm, .int .i64 hi, .int .i64 lo] 40 (0, 0)) := heap_alloc_new _ _
      have x0 : (wr.alloc (.cells #[.bool pm, .int .i64 hi, .int .i64 lo] 40)).cell? ⟨wr.heap.size, 0, none⟩ = some (.bool pm) := cell_of hx rfl
      have x1 : (wr.alloc (.cells #[.bool pm, .int .i64 hi, .int .i64 lo] 40)).cell? ⟨wr.heap.size, 1, none⟩ = some (.int .i64 hi) := cell_of hx rfl
      have x2 : (wr.alloc (.cells #[.bool pm, .int .i64 hi, .int .i64 lo] 40)).cell? ⟨wr.heap.size, 2, none⟩ = some (.int .i64 lo) := cell_of hx rfl
      have HBB : Hid (Below w.heap.size w (wr.alloc (.cells #[.bool pm, .int .i64 hi, .int .i64 lo] 40))) := below_then HW.out (below_alloc _ _)
      clear hz e0 e1 e2 hb hx
      generalize hq : matchB hi lo l = q at *
      have t1 : (q != q) = false := by simp
      have HA1 : Hid (∀ W, Below (wr.alloc (.cells #[.bool pm, .int .i64 hi, .int .i64 lo] 40)).heap.size (wr.alloc (.cells #[.bool pm, .int .i64 hi, .int .i64 lo] 40)) W → Calls Tryd.prog 25 #[.agg #[.bool pm, .int .i64 hi, .int .i64 lo], .slice ad2 M cap2] W fun e w' => e = .returned (.bool q) ∧ Below W.heap.size W w') := fun W hW => by have := HM1.out _ W pm hi lo HBB.out hW; rwa [hq] at this
      have HA2 : Hid (∀ W, Below (wr.alloc (.cells #[.bool pm, .int .i64 hi, .int .i64 lo] 40)).heap.size (wr.alloc (.cells #[.bool pm, .int .i64 hi, .int .i64 lo] 40)) W → Calls Tryd.prog 26 #[.agg #[.bool pm, .int .i64 hi, .int .i64 lo], .slice ad2 M cap2] W fun e w' => e = .returned (.bool q) ∧ Below W.heap.size W w') := fun W hW => by have := HM2.out _ W pm hi lo HBB.out hW; rwa [hq] at this
      clear hq
      go_upto_region 6 with fail
      generalize hX : wr.alloc (.cells #[.bool pm, .int .i64 hi, .int .i64 lo] 40) = X at *
      clear hX
      have HKP : Hid (∀ W, Below X.heap.size X W → W.cell? ⟨wr.heap.size, 0, none⟩ = some (.bool pm) ∧ W.cell? ⟨wr.heap.size, 1, none⟩ = some (.int .i64 hi) ∧ W.cell? ⟨wr.heap.size, 2, none⟩ = some (.int .i64 lo) ∧ Below X.heap.size X W) := fun W hW => ⟨carry hW x0, carry hW x1, carry hW x2, hW⟩
      go_region_held3 (fun W => W.cell? ⟨wr.heap.size, 0, none⟩ = some (.bool pm) ∧ W.cell? ⟨wr.heap.size, 1, none⟩ = some (.int .i64 hi) ∧ W.cell? ⟨wr.heap.size, 2, none⟩ = some (.int .i64 lo) ∧ Below X.heap.size X W)
        (first | exact HKP.out _ (Below.refl _ X).drew | exact HKP.out _ ‹_› | assumption)
        (first
          | (go_at_call 25; refine (HA1.out _ (Below.refl _ X).drew).mono ?_; rintro e w8 ⟨rfl, hb⟩; have hk8 : Below X.heap.size X w8 := below_undrew' hb; clear hb)
          | (go_at_call 26; refine (HA2.out _ hk8).mono ?_; rintro e w9 ⟨rfl, hb⟩; have hk9 : Below X.heap.size X w9 := below_then hk8 hb; have HB9 := Lib.hid hk9; clear hb))
      go_wp2_with fail
      go_roundg (L - (k + 1))
      case measure => omega
      case rel => exact ⟨k + 1, by omega, Nat.le_refl _, by go_num, ⟨_, rfl⟩, below_then HBB.out HB9.out⟩
    · have k1 : decide ((k : Int) < (L : Int)) = false := decide_eq_false (by omega)
      generalize permB rs l = q at *
      have t1 : (q == q) = true := by simp
      go_wp2_with fail
      go_at_call 27
      refine (HP1.out _ HW.out).mono ?_
      rintro e w1 ⟨rfl, hb⟩
      have HB1 := Lib.hid (below_then HW.out hb)
      clear hb
      go_wp2_with fail
      go_at_call 28
      refine (HP2.out _ HB1.out).mono ?_
      rintro e w2 ⟨rfl, hb⟩
      have HB2 := Lib.hid (below_then HB1.out hb)
      clear hb
      go_wp2_with fail
      go_at_call 11
      refine (awake_any _ (HT.out.below HB2.out)).mono ?_
      rintro e w3 ⟨rfl, hb⟩
      have HB3 := Lib.hid (below_then HB2.out hb)
      clear hb
      go_wp2
      go_ret
      exact ⟨rfl, HB3.out⟩
theorem lawPermits (rs : List Ru) (l : List Nat) (u v : Value) (w : World) (hT : Lt w) (hu : RdU w u rs) (hv : Rd w v l) :
    Calls Tryd.prog 7 #[u, v] w fun e w' => e = .returned (.bool true) ∧ Below w.heap.size w w' := by
  by_cases h : 200 < rs.length ∨ 600 < l.length
  · exact perm_large rs l u v w hT hu hv h
  · exact perm_small rs l u v w hT hu hv (by omega) (by omega)
end Go.Proofs.YtaniiennfogjaaaDoor
