/-
  The walk of Check.
-/
import Derived.Test.YtiobfgcpbihbhaaGreatDoorAsD
import Derived.BigQuiet
import Derived.Deep.RegionHeld3
namespace Go.Proofs.YtiobfgcpbihbhaaGreatDoor
open Go.RowKit P
set_option linter.unusedSimpArgs false
set_option linter.unusedVariables false
set_option maxHeartbeats 4000000
set_option maxRecDepth 100000
theorem P.chk_big {p : List Sg} (h : 64 < p.length) : chk p = 4 := if_pos h
theorem P.chk_small {p : List Sg} (h : ¬ 64 < p.length) : chk p = scan none p := if_neg h
theorem check_any (p : List Sg) (v : Value) (w : World) (hv : RdS w v p) : Calls Tryz.prog 13 #[v] w fun e w' => e = .returned (.int .i64 (chk p)) ∧ Below w.heap.size w w' := by
  obtain ⟨ad, cap, rfl, h1, h2, hc⟩ := hv
  have HC := Lib.hid hc
  obtain ⟨n, hn⟩ : ∃ n, p.length = n := ⟨_, rfl⟩
  rw [hn] at h1 ⊢
  have HN := Lib.hid hn
  by_cases hbig : 64 < n
  · have k1 : decide ((64 : Int) < (n : Int)) = true := decide_eq_true (by omega)
    have k1' : decide (64 < n) = true := decide_eq_true hbig
    have HE : Hid (chk p = 4) := chk_big (by omega)
    generalize chk p = q at *
    clear hc hn
    go_enter Tryz.func13, Tryz.ntmps13
    go_wp2
    go_ret
    exact ⟨by rw [HE.out] <;> rfl, Below.refl _ _⟩
  · have k1 : decide ((64 : Int) < (n : Int)) = false := decide_eq_false (by omega)
    have k1' : decide (64 < n) = false := decide_eq_false hbig
    have HI0 : Hid (chk p = scan (prevO p 0) (p.drop 0)) := by show _ = _; rw [chk_small (by omega)]; rfl
    have HS0 : Hid (Below w.heap.size w w) := Below.refl _ _
    generalize chk p = q at *
    clear hc hn
    go_enter Tryz.func13, Tryz.ntmps13
    go_wp2_with fail
    go_loopg [3, 4, 5, 11] n (fun g s3 s4 s5 s11 wr => ∃ k : Nat, k ≤ n ∧ n - k ≤ g ∧ (∃ q, q = s3) ∧ (∃ q, q = s4) ∧ (∃ q, q = s5) ∧ s11 = .int .i64 (k : Int) ∧ Hid (q = scan (prevO p k) (p.drop k)) ∧ Hid (Below w.heap.size w wr))
    case atStart => exact ⟨0, by omega, by omega, ⟨_, rfl⟩, ⟨_, rfl⟩, ⟨_, rfl⟩, rfl, HI0, HS0⟩
    case round =>
      clear HI0 HS0
      obtain ⟨k, hk, hkg, ⟨u3, rfl⟩, ⟨u4, rfl⟩, ⟨u5, rfl⟩, rfl, HI, HS⟩ := hrel
      by_cases hlt : k < n
      · obtain ⟨s, hs⟩ : ∃ s, p[k]? = some s := ⟨_, List.getElem?_eq_getElem (by have := HN.out; omega)⟩
        have HSD := Lib.hid (scan_drop hs)
        have HPS := Lib.hid (prevO_succ hs)
        obtain ⟨b, off, u, rfl, hb, c0, c1, hu⟩ := HC.out k s hs
        have d0 := carry HS.out c0
        have d1 := carry HS.out c1
        have HU : Hid (∀ W, Below w.heap.size w W → RdI W u s.as) := fun W hW => hu.below hW
        obtain ⟨uad, ucap, hf⟩ := hu.form
        have hsm : (0 : Int) ≤ (k : Int) := by omega
        have hsn : (k : Int) < (n : Int) := by omega
        subst hf
        generalize s.as.length = L at *
        obtain ⟨B0, hB0⟩ : ∃ B0, B0 = wr.heap.size := ⟨_, rfl⟩
        have HB1 : Hid (Below w.heap.size w (wr.alloc (.cells #[.int .i64 s.k, .slice uad L ucap] 46))) := below_then HS.out (below_alloc _ _)
        have HX1 : Hid ((wr.alloc (.cells #[.int .i64 s.k, .slice uad L ucap] 46)).heap[B0]? = some (.cells #[.int .i64 s.k, .slice uad L ucap] 46 (0, 0))) := heap_at hB0
        clear hs c0 c1 hu HS
        go_wp2_with fail
        rw [← hB0]
        clear hB0 d0 d1
        go_at_call 39
        refine (seg_any s.k s.as _ _ (HU.out _ HB1.out)).mono ?_
        rintro e w1 ⟨rfl, hbb⟩
        have HB2 := Lib.hid (below_then HB1.out hbb)
        have HX2 := Lib.hid ((hbb.block _ (lt_block HX1.out)).trans HX1.out)
        clear hbb HB1 HX1
        have es : segE ⟨s.k, s.as⟩ = segE s := rfl
        rw [es]
        by_cases he : segE s = 0
        · rw [he]
          have HSE : Hid (segE s = 0) := he
          clear he es
          by_cases hk0 : k = 0
          · subst hk0
            have g1 : decide ((0 : Int) < ((0 : Nat) : Int)) = false := rfl
            have HI2 : Hid (q = scan (prevO p (0 + 1)) (p.drop (0 + 1))) := by
              show _ = _; rw [HI.out, HSD.out, if_neg (by rw [HSE.out]; simp), HPS.out]; rfl
            clear HI HSD HPS HSE
            go_wp2_with fail
            go_quiet (fail)
            go_wp2_with fail
            go_roundg (n - (0 + 1))
            case measure => omega
            case rel => exact ⟨0 + 1, by omega, Nat.le_refl _, ⟨_, rfl⟩, ⟨_, rfl⟩, ⟨_, rfl⟩, by go_num, HI2, below_drewN HB2.out _⟩
          · obtain ⟨t, ht⟩ : ∃ t, p[k - 1]? = some t := ⟨_, List.getElem?_eq_getElem (by have := HN.out; omega)⟩
            have HPO : Hid (prevO p k = some t) := by
              obtain ⟨j, rfl⟩ : ∃ j, k = j + 1 := ⟨k - 1, by omega⟩
              exact ht
            obtain ⟨b', off', u', e', hb', c0, c1, hu'⟩ := HC.out (k - 1) t ht
            cases e'
            have HU' : Hid (∀ W, Below w.heap.size w W → RdI W u' t.as) := fun W hW => hu'.below hW
            obtain ⟨uad', ucap', hf⟩ := hu'.form
            subst hf
            generalize t.as.length = L' at *
            have d0 := carry HB2.out c0
            have d1 := carry HB2.out c1
            have x0 : w1.cell? ⟨B0, 0, none⟩ = some (.int .i64 s.k) := cell_of HX2.out rfl
            have x1 : w1.cell? ⟨B0, 1, none⟩ = some (.slice uad L ucap) := cell_of HX2.out rfl
            have g1 : decide ((0 : Int) < (k : Int)) = true := decide_eq_true (by omega)
            have g1' : decide (0 < k) = true := decide_eq_true (by omega)
            have p2 : (0 : Int) ≤ (k : Int) - 1 := by omega
            have p3 : (k : Int) - 1 < (n : Int) := by omega
            have p4 : IntKind.i64.wrap ((k : Int) - 1) = (k : Int) - 1 := IntWalk.i64_in _ (by omega)
            have p5 : ((k : Int) - 1).toNat = k - 1 := by omega
            have p6 : (1 : Int) ≤ (k : Int) := by omega
            have p7 : (k : Int) ≤ (n : Int) := by omega
            have HMF : Hid (∃ m, mayF s t = m) := ⟨_, rfl⟩
            have HCL : Hid (∀ W, Below w.heap.size w W → Calls Tryz.prog 40 #[.agg #[.int .i64 s.k, .slice uad L ucap], .agg #[.int .i64 t.k, .slice uad' L' ucap']] W fun e w' => e = .returned (.bool (mayF s t)) ∧ Below W.heap.size W w') := fun W hW => may_any s.k s.as _ t.k t.as _ W (HU.out _ hW) (HU'.out _ hW)
            have HQM : Hid (q = if mayF s t = false then 1 else scan (prevO p (k + 1)) (p.drop (k + 1))) := by
              show _ = _; rw [HI.out, HSD.out, if_neg (by rw [HSE.out]; simp), HPO.out, HPS.out]
            generalize mayF s t = m at *
            clear c0 c1 hu' ht HI HSD HPS HSE HPO HU HU' HMF
            go_wp2_with fail
            go_region_held3 (fun w' => w'.cell? ⟨B0, 0, none⟩ = some (.int .i64 s.k) ∧ w'.cell? ⟨B0, 1, none⟩ = some (.slice uad L ucap) ∧ w'.cell? ⟨b, off + (k - 1) * 2, none⟩ = some (.int .i64 t.k) ∧ w'.cell? ⟨b, off + (k - 1) * 2 + 1, none⟩ = some (.slice uad' L' ucap'))
              (first | exact ⟨x0, x1, d0, d1⟩ | assumption)
              (first | (go_at_call 40; refine (HCL.out _ (show Below w.heap.size w w1.drew from ⟨HB2.out.os, HB2.out.tape, HB2.out.output, HB2.out.size, HB2.out.block⟩)).mono ?_; rintro e w3 ⟨rfl, hbb⟩; have HB3 : Hid (Below w.heap.size w w3) := HB2.out.trans ((⟨hbb.os, hbb.tape, hbb.output, hbb.size, hbb.block⟩ : Below w1.heap.size w1 w3).mono HB2.out.size); have hk := And.intro (carry hbb (show w1.drew.cell? _ = _ from x0)) (And.intro (carry hbb (show w1.drew.cell? _ = _ from x1)) (And.intro (carry hbb (show w1.drew.cell? _ = _ from d0)) (carry hbb (show w1.drew.cell? _ = _ from d1)))); clear hbb))
            all_goals (
              clear hk HCL
              cases m with
              | true =>
                have HI2 : Hid (q = scan (prevO p (k + 1)) (p.drop (k + 1))) := by show _ = _; rw [HQM.out]; rfl
                go_wp2_with fail
                go_roundg (n - (k + 1))
                case measure => omega
                case rel => exact ⟨k + 1, by omega, Nat.le_refl _, ⟨_, rfl⟩, ⟨_, rfl⟩, ⟨_, rfl⟩, by go_num, HI2, HB3⟩
              | false =>
                have HI2 : Hid (q = 1) := by show _ = _; rw [HQM.out]; rfl
                go_wp2
                go_ret
                exact ⟨by rw [HI2.out] <;> rfl, HB3.out⟩)
        · have HE : Hid (q = segE s) := by show _ = _; rw [HI.out, HSD.out, if_pos he]
          have ne : (segE s != 0) = true := by simpa using he
          generalize segE s = z at *
          clear HI HSD he es
          go_wp2
          go_ret
          exact ⟨by rw [HE.out] <;> rfl, HB2.out⟩
      · have k2 : decide ((k : Int) < (n : Int)) = false := decide_eq_false (by omega)
        have HE : Hid (q = 0) := by
          show _ = _; rw [HI.out, List.drop_eq_nil_of_le (by have := HN.out; omega)]
          cases prevO p k <;> rfl
        go_wp2
        go_ret
        exact ⟨by rw [HE.out] <;> rfl, HS.out⟩
end Go.Proofs.YtiobfgcpbihbhaaGreatDoor
