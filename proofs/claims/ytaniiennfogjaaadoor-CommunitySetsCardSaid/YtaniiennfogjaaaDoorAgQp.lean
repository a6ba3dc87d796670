/-
  The library's sort of addresses: partialInsertionSort.
-/
import Derived.Test.YtaniiennfogjaaaDoorAgQi
import Derived.Deep.DeepCutAuto
import Derived.Deep.CutBlock
namespace Go.Proofs.YtaniiennfogjaaaDoor
open Go.RowKit
set_option linter.unusedSimpArgs false
set_option linter.unusedVariables false
set_option maxHeartbeats 3000000
set_option maxRecDepth 100000

theorem insA_swapped {c m x y : Nat} {l : List Nat} (h : SrtSeg c (m + 1) l) (hx : l[m]? = some x) (hy : l[m + 1]? = some y) : InsA c ((l.set (m + 1) x).set m y) m m := fun p q u v h1 h2 h3 h4 hu hv => by
  rw [swap_at hy hx, if_neg (by omega), if_neg (by omega)] at hu hv
  exact h p q u v h1 h2 (by omega) hu hv
theorem partial_cd (B g cap L c d : Nat) (l : List Nat) (w : World) (h : OwnA B w (.slice (some ⟨g, 0, none⟩) L cap) l) (hL : L = l.length) (hcd : c < d) (hn : d ≤ L) (hbig : L ≤ 1000000) (hlo : LoS c d l) :
    Calls Tryd.prog 70 #[.slice (some ⟨g, 0, none⟩) L cap, .int .i64 (c : Int), .int .i64 (d : Int)] w fun e w' => ∃ (r : Bool) (l' : List Nat), e = .returned (.bool r) ∧ SegS B g cap L c d l l' w w' ∧ (r = true → SrtSeg c d l') := by
  have H := Lib.hid h
  have HL := Lib.hid hL
  have HLO := Lib.hid hlo
  clear h hL hlo
  go_enter Tryd.func70, Tryd.ntmps70
  go_wp2_with fail
  go_loopg [7, 8] 5 (fun gg s7 s8 wr => ∃ (i s : Nat) (l1 : List Nat), s7 = .int .i64 (i : Int) ∧ s8 = .int .i64 (s : Int) ∧ s ≤ 5 ∧ 5 - s ≤ gg ∧ c < i ∧ i ≤ d ∧ Hid (SegS B g cap L c d l l1 w wr ∧ SrtSeg c i l1))
  case atStart => exact ⟨c + 1, 0, l, by go_num, rfl, by omega, by omega, by omega, by omega, ⟨SegP.refl _ _ _, H.out, Below.refl _ _⟩, SrtSeg.one _ _⟩
  case round =>
    clear H
    obtain ⟨i, s, l1, rfl, rfl, hs5, hg, hci, hid, HI⟩ := hrel
    by_cases hs : s < 5
    · have hsz : (s : Int) < 5 := by omega
      have hlen : l1.length = L := by have := HI.out.1.1.len; have := HL.out; omega
      have HLN := Lib.hid hlen
      clear hlen
      go_wp2_with fail
      obtain ⟨W1, hW1⟩ : ∃ W1, W1 = wr := ⟨_, rfl⟩
      rw [← hW1] at HI ⊢
      clear hW1
      go_loopg [7] (d - i) (fun gk s7 wr => ∃ k : Nat, s7 = .int .i64 (k : Int) ∧ i ≤ k ∧ k ≤ d ∧ d - k ≤ gk ∧ Hid (SegS B g cap L c d l l1 w wr ∧ SrtSeg c k l1))
      case atStart => exact ⟨i, rfl, Nat.le_refl _, hid, Nat.le_refl _, HI.out⟩
      case round =>
        clear HI
        obtain ⟨k, rfl, hik, hkd, hgk, HI⟩ := hrel
        by_cases hkl : k < d
        · obtain ⟨m, rfl⟩ : ∃ m, k = m + 1 := ⟨k - 1, by omega⟩
          obtain ⟨x, hx⟩ : ∃ x, l1[m]? = some x := ⟨_, List.getElem?_eq_getElem (by have := HLN.out; omega)⟩
          obtain ⟨y, hy⟩ : ∃ y, l1[m + 1]? = some y := ⟨_, List.getElem?_eq_getElem (by have := HLN.out; omega)⟩
          have cx := HI.out.1.2.1.cell hx HLN.out.symm
          have cy := HI.out.1.2.1.cell hy HLN.out.symm
          have HXY : Hid (l1[m]? = some x ∧ l1[m + 1]? = some y) := ⟨hx, hy⟩
          have hwm : IntKind.i64.wrap (m : Int) = (m : Int) := IntWalk.i64_in _ (by constructor <;> omega)
          have m0 : (0 : Int) ≤ (m : Int) := by omega
          have m1 : (m : Int) < (L : Int) := by omega
          have m2 : (m : Int) + 1 < (L : Int) := by omega
          have m3 : (m : Int) + 1 < (d : Int) := by omega
          have hd1 : decide ((m : Int) + 1 < (d : Int)) = true := decide_eq_true (by omega)
          have HLS : Hid (∀ W, Calls Tryd.prog 71 #[.int .u32 (y : Int), .int .u32 (x : Int)] W fun e w' => e = .returned (.bool (decide (y < x))) ∧ W = w') := fun W => less_any y x W
          clear hx hy
          by_cases hyx : y < x
          · have hq : decide (y < x) = true := decide_eq_true hyx
            rw [hq] at HLS
            have hne : ¬ ((m : Int) + 1 = (d : Int)) := by omega
            have hneb : ((m : Int) + 1 == (d : Int)) = false := by simpa using hne
            have HQ : Hid (∀ q, SegS B g cap L c d l l1 w (wr.drewN q)) := fun q => HI.out.1.drewN q
            by_cases h50 : d - c < 50
            · have h50z : (d : Int) - (c : Int) < 50 := by omega
              clear hyx hq
              go_wp2_with fail
              go_quiet ((go_at_call 71; exact Calls.quiet_of_same ((HLS.out _).mono fun _ _ h => ⟨h.1, h.2.symm⟩)))
              go_wp2_with fail
              go_ret
              exact ⟨false, l1, rfl, HQ.out _, fun e => by cases e⟩
            · have h50z : ¬ (d : Int) - (c : Int) < 50 := by omega
              have HSW : Hid (∀ k1, SegS B g cap L c d l ((l1.set (m + 1) x).set m y) w (((wr.drewN k1).setCell ⟨g, m + 1, none⟩ (.int .u32 (x : Int))).setCell ⟨g, m, none⟩ (.int .u32 (y : Int)))) := fun k1 => HI.out.1.swap HL.out ⟨by omega, by omega⟩ ⟨by omega, by omega⟩ HXY.out.2 HXY.out.1 k1
              have HIN : Hid (InsA c ((l1.set (m + 1) x).set m y) m m ∧ ((l1.set (m + 1) x).set m y).length = L) := ⟨insA_swapped HI.out.2 HXY.out.1 HXY.out.2, by rw [List.length_set, List.length_set]; exact HLN.out⟩
              have y0 := HI.out.1.2.1.free m
              have y1 := HI.out.1.2.1.free (m + 1)
              clear hyx hq HQ
              generalize (l1.set (m + 1) x).set m y = l2 at HSW HIN
              go_wp2_with fail
              go_quiet ((go_at_call 71; exact Calls.quiet_of_same ((HLS.out _).mono fun _ _ h => ⟨h.1, h.2.symm⟩)))
              go_wp2_with fail
              go_region
              all_goals (
                go_upto_if 61 with fail
                go_cut [] from 13 (fun wc => ∃ l3 : List Nat, Hid (SegS B g cap L c d l l3 w wc ∧ SrtSeg c (m + 1) l3))
                case first =>
                  by_cases hcm : c < m
                  · have z1 : (m : Int) + 1 - (c : Int) ≥ 2 := by omega
                    have z2 : (2 : Int) ≤ (m : Int) + 1 - (c : Int) := by omega
                    clear HI cx cy HLS
                    go_wp2_with fail
                    go_loopg [9] m (fun gk s9 wr => ∃ (j : Nat) (l3 : List Nat), s9 = .int .i64 (j : Int) ∧ c ≤ j ∧ j ≤ m ∧ j ≤ gk ∧ Hid (SegS B g cap L c d l l3 w wr ∧ InsA c l3 m j))
                    case atStart => exact ⟨m, l2, by go_num, by omega, Nat.le_refl _, Nat.le_refl _, HSW.out _, HIN.out.1⟩
                    case round =>
                      clear HSW HIN y0 y1
                      obtain ⟨j, l3, rfl, hcj, hjm, hgj, HJ⟩ := hrel
                      by_cases hj0 : j = 0
                      · subst hj0
                        have HD : Hid (SrtSeg c (m + 1) l3) := insA_srt (insA_done HJ.out.2 hjm (.inl (by omega)))
                        go_wp2_with fail
                        go_meet
                        case rel => exact ⟨l3, HJ.out.1, HD.out⟩
                      · obtain ⟨q, rfl⟩ : ∃ q, j = q + 1 := ⟨j - 1, by omega⟩
                        have hl3 : l3.length = L := by have := HJ.out.1.1.len; have := HL.out; omega
                        obtain ⟨x2, hx2⟩ : ∃ x, l3[q]? = some x := ⟨_, List.getElem?_eq_getElem (by omega)⟩
                        obtain ⟨y2, hy2⟩ : ∃ y, l3[q + 1]? = some y := ⟨_, List.getElem?_eq_getElem (by omega)⟩
                        have cx := HJ.out.1.2.1.cell hx2 hl3.symm
                        have cy := HJ.out.1.2.1.cell hy2 hl3.symm
                        have HXY2 : Hid (l3[q]? = some x2 ∧ l3[q + 1]? = some y2) := ⟨hx2, hy2⟩
                        have hwq : IntKind.i64.wrap (q : Int) = (q : Int) := IntWalk.i64_in _ (by constructor <;> omega)
                        have q0 : (0 : Int) ≤ (q : Int) := by omega
                        have q1 : (q : Int) < (L : Int) := by omega
                        have q2 : (q : Int) + 1 < (L : Int) := by omega
                        have HLS : Hid (∀ W, Calls Tryd.prog 71 #[.int .u32 (y2 : Int), .int .u32 (x2 : Int)] W fun e w' => e = .returned (.bool (decide (y2 < x2))) ∧ W = w') := fun W => less_any y2 x2 W
                        clear hx2 hy2 hl3
                        by_cases hyx : y2 < x2
                        · have hcq : c ≤ q := by
                            refine Nat.le_of_not_lt fun hlt => ?_
                            have hcq : c = q + 1 := by omega
                            have := (HLO.out.seg HJ.out.1.1) x2 (q + 1) y2 (by omega) (by rw [hcq]; exact HXY2.out.1) (by omega) (by omega) HXY2.out.2
                            omega
                          rw [decide_eq_true hyx] at HLS
                          have HSW2 : Hid (∀ k1, SegS B g cap L c d l ((l3.set (q + 1) x2).set q y2) w (((wr.drewN k1).setCell ⟨g, q + 1, none⟩ (.int .u32 (x2 : Int))).setCell ⟨g, q, none⟩ (.int .u32 (y2 : Int)))) := fun k1 => HJ.out.1.swap HL.out ⟨by omega, by omega⟩ ⟨by omega, by omega⟩ HXY2.out.2 HXY2.out.1 k1
                          have HIN2 : Hid (InsA c ((l3.set (q + 1) x2).set q y2) m q) := insA_swap HJ.out.2 hcq hjm HXY2.out.1 HXY2.out.2 hyx
                          have y0 := HJ.out.1.2.1.free q
                          have y1 := HJ.out.1.2.1.free (q + 1)
                          clear hyx
                          go_wp2_with fail
                          go_quiet ((go_at_call 71; exact Calls.quiet_of_same ((HLS.out _).mono fun _ _ h => ⟨h.1, h.2.symm⟩)))
                          go_wp2_with fail
                          go_region
                          all_goals (
                            go_wp2_with fail
                            go_roundg q
                            case measure => omega
                            case rel => exact ⟨q, _, by go_num, by omega, by omega, Nat.le_refl _, HSW2.out _, HIN2.out⟩)
                        · rw [decide_eq_false hyx] at HLS
                          have HD : Hid (SrtSeg c (m + 1) l3) := insA_srt (insA_done HJ.out.2 hjm (.inr ⟨x2, y2, HXY2.out.1, HXY2.out.2, hyx⟩))
                          clear hyx
                          go_wp2_with fail
                          go_quiet ((go_at_call 71; exact Calls.quiet_of_same ((HLS.out _).mono fun _ _ h => ⟨h.1, h.2.symm⟩)))
                          go_wp2_with fail
                          go_meet
                          case rel => exact ⟨l3, HJ.out.1.drewN _, HD.out⟩
                  · have z1 : ¬ (m : Int) + 1 - (c : Int) ≥ 2 := by omega
                    have z2 : ¬ (2 : Int) ≤ (m : Int) + 1 - (c : Int) := by omega
                    go_wp2_with fail
                    go_meet
                    case rel => exact ⟨l2, HSW.out _, fun p q u v h1 h2 h3 _ _ => by omega⟩
                case rest =>
                  clear HI HSW HIN y0 y1 cx cy HLS
                  obtain ⟨l3, HT⟩ := hcut
                  by_cases hdm : m + 1 + 2 ≤ d
                  · have z1 : (d : Int) - ((m : Int) + 1) ≥ 2 := by omega
                    have z2 : (2 : Int) ≤ (d : Int) - ((m : Int) + 1) := by omega
                    go_wp2_with fail
                    go_loopg [10] d (fun gk s10 wr => ∃ (j : Nat) (l4 : List Nat), s10 = .int .i64 (j : Int) ∧ m + 2 ≤ j ∧ j ≤ d ∧ d - j ≤ gk ∧ Hid (SegS B g cap L c d l l4 w wr ∧ SrtSeg c (m + 1) l4))
                    case atStart => exact ⟨m + 2, l3, by go_num, Nat.le_refl _, by omega, by omega, HT.out⟩
                    case round =>
                      clear HT
                      obtain ⟨j, l4, rfl, hmj, hjd, hgj, HJ⟩ := hrel
                      by_cases hjl : j < d
                      · obtain ⟨q, rfl⟩ : ∃ q, j = q + 1 := ⟨j - 1, by omega⟩
                        have hl4 : l4.length = L := by have := HJ.out.1.1.len; have := HL.out; omega
                        obtain ⟨x2, hx2⟩ : ∃ x, l4[q]? = some x := ⟨_, List.getElem?_eq_getElem (by omega)⟩
                        obtain ⟨y2, hy2⟩ : ∃ y, l4[q + 1]? = some y := ⟨_, List.getElem?_eq_getElem (by omega)⟩
                        have cx := HJ.out.1.2.1.cell hx2 hl4.symm
                        have cy := HJ.out.1.2.1.cell hy2 hl4.symm
                        have HXY2 : Hid (l4[q]? = some x2 ∧ l4[q + 1]? = some y2) := ⟨hx2, hy2⟩
                        have hwq : IntKind.i64.wrap (q : Int) = (q : Int) := IntWalk.i64_in _ (by constructor <;> omega)
                        have q0 : (0 : Int) ≤ (q : Int) := by omega
                        have q1 : (q : Int) < (L : Int) := by omega
                        have q2 : (q : Int) + 1 < (L : Int) := by omega
                        have q3 : (q : Int) + 1 < (d : Int) := by omega
                        have HLS : Hid (∀ W, Calls Tryd.prog 71 #[.int .u32 (y2 : Int), .int .u32 (x2 : Int)] W fun e w' => e = .returned (.bool (decide (y2 < x2))) ∧ W = w') := fun W => less_any y2 x2 W
                        clear hx2 hy2 hl4
                        by_cases hyx : y2 < x2
                        · rw [decide_eq_true hyx] at HLS
                          have HSW2 : Hid (∀ k1, SegS B g cap L c d l ((l4.set (q + 1) x2).set q y2) w (((wr.drewN k1).setCell ⟨g, q + 1, none⟩ (.int .u32 (x2 : Int))).setCell ⟨g, q, none⟩ (.int .u32 (y2 : Int)))) := fun k1 => HJ.out.1.swap HL.out ⟨by omega, by omega⟩ ⟨by omega, by omega⟩ HXY2.out.2 HXY2.out.1 k1
                          have HS2 : Hid (SrtSeg c (m + 1) ((l4.set (q + 1) x2).set q y2)) := HJ.out.2.same (fun k hk => by rw [swap_at HXY2.out.2 HXY2.out.1, if_neg (by omega), if_neg (by omega)])
                          have y0 := HJ.out.1.2.1.free q
                          have y1 := HJ.out.1.2.1.free (q + 1)
                          clear hyx
                          go_wp2_with fail
                          go_quiet ((go_at_call 71; exact Calls.quiet_of_same ((HLS.out _).mono fun _ _ h => ⟨h.1, h.2.symm⟩)))
                          go_wp2_with fail
                          go_region
                          all_goals (
                            go_wp2_with fail
                            go_roundg (d - (q + 1 + 1))
                            case measure => omega
                            case rel => exact ⟨q + 1 + 1, _, by go_num, by omega, by omega, Nat.le_refl _, HSW2.out _, HS2.out⟩)
                        · rw [decide_eq_false hyx] at HLS
                          clear hyx
                          go_wp2_with fail
                          go_quiet ((go_at_call 71; exact Calls.quiet_of_same ((HLS.out _).mono fun _ _ h => ⟨h.1, h.2.symm⟩)))
                          go_wp2_with fail
                          go_roundg (5 - (s + 1))
                          case measure => omega
                          case rel => exact ⟨m + 1, s + 1, l4, by go_num, by go_num, by omega, Nat.le_refl _, by omega, by omega, HJ.out.1.drewN _, HJ.out.2⟩
                      · have z3 : ¬ (j : Int) < (d : Int) := by omega
                        go_wp2_with fail
                        go_roundg (5 - (s + 1))
                        case measure => omega
                        case rel => exact ⟨m + 1, s + 1, l4, by go_num, by go_num, by omega, Nat.le_refl _, by omega, by omega, HJ.out⟩
                  · have z1 : ¬ (d : Int) - ((m : Int) + 1) ≥ 2 := by omega
                    have z2 : ¬ (2 : Int) ≤ (d : Int) - ((m : Int) + 1) := by omega
                    go_wp2_with fail
                    go_roundg (5 - (s + 1))
                    case measure => omega
                    case rel => exact ⟨m + 1, s + 1, l3, by go_num, by go_num, by omega, Nat.le_refl _, by omega, by omega, HT.out⟩)
          · have hq : decide (y < x) = false := decide_eq_false hyx
            rw [hq] at HLS
            have HNX : Hid (SrtSeg c (m + 1 + 1) l1) := HI.out.2.snoc HXY.out.1 HXY.out.2 (by omega) hyx
            clear hyx hq
            go_wp2_with fail
            go_quiet ((go_at_call 71; exact Calls.quiet_of_same ((HLS.out _).mono fun _ _ h => ⟨h.1, h.2.symm⟩)))
            go_wp2_with fail
            go_roundg (d - (m + 1 + 1))
            case measure => omega
            case rel => exact ⟨m + 1 + 1, by go_num, by omega, by omega, Nat.le_refl _, HI.out.1.drewN _, HNX.out⟩
        · obtain rfl : k = d := by omega
          have hd1 : decide ((k : Int) < (k : Int)) = false := decide_eq_false (by omega)
          go_wp2_with fail
          go_quiet (fail)
          go_wp2_with fail
          go_ret
          exact ⟨true, l1, rfl, HI.out.1.drewN _, fun _ => HI.out.2⟩
    · have hsz : ¬ (s : Int) < 5 := by omega
      go_wp2_with fail
      go_ret
      exact .inl ⟨rfl, l1, HI.out.1⟩
end Go.Proofs.YtaniiennfogjaaaDoor
