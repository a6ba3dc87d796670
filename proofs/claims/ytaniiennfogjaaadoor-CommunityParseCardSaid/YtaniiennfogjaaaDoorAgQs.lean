/-
  The library's sort of addresses: the quick sort.
-/
import Derived.Test.YtaniiennfogjaaaDoorAgQc
import Derived.Deep.DeepCutAuto
namespace Go.Proofs.YtaniiennfogjaaaDoor
open Go.RowKit
set_option linter.unusedSimpArgs false
set_option linter.unusedVariables false
set_option maxHeartbeats 1500000
set_option maxRecDepth 100000

theorem pdqs_any : ∀ (M B g cap L c d k0 : Nat) (l : List Nat) (w : World), OwnA B w (.slice (some ⟨g, 0, none⟩) L cap) l → L = l.length → c ≤ d → d ≤ L → L ≤ 1000000 → LoS c d l → k0 ≤ 64 → d - c ≤ M →
    Calls Tryd.prog 58 #[.slice (some ⟨g, 0, none⟩) L cap, .int .i64 (c : Int), .int .i64 (d : Int), .int .i64 (k0 : Int)] w fun e w' => e = .returned (.tuple #[]) ∧ ∃ l', SegS B g cap L c d l l' w w' ∧ SrtSeg c d l' := by
  intro M
  induction M using Nat.strongRecOn with
  | ind M ih =>
    intro B g cap L c d k0 l w h hL hcd hdL hbig hlo hk0 hM
    have IH := Lib.hid ih
    have H := Lib.hid h
    have HL := Lib.hid hL
    have HLO := Lib.hid hlo
    clear ih h hL hlo
    go_enter Tryd.func58, Tryd.ntmps58
    go_wp2_with fail
    go_loopg [1, 2, 3, 8, 9, 10, 11, 12, 13, 14, 15, 16, 17, 18] (d - c) (fun gg s1 s2 s3 s8 s9 s10 s11 s12 s13 s14 s15 s16 s17 s18 wr => ∃ (a b k : Nat) (p q : Bool) (l1 : List Nat), s1 = .int .i64 (a : Int) ∧ s2 = .int .i64 (b : Int) ∧ s3 = .int .i64 (k : Int) ∧ s8 = .bool p ∧ s9 = .bool q ∧ (∃ u, u = s10) ∧ (∃ u, u = s11) ∧ (∃ u, u = s12) ∧ (∃ u, u = s13) ∧ (∃ u, u = s14) ∧ (∃ u, u = s15) ∧ (∃ u, u = s16) ∧ (∃ u, u = s17) ∧ (∃ u, u = s18) ∧ c ≤ a ∧ a ≤ b ∧ b ≤ d ∧ b - a ≤ gg ∧ k ≤ 64 ∧ Hid (PdS B g cap L c d a b l l1 w wr))
    case atStart => exact ⟨c, d, k0, true, true, l, rfl, rfl, rfl, rfl, rfl, ⟨_, rfl⟩, ⟨_, rfl⟩, ⟨_, rfl⟩, ⟨_, rfl⟩, ⟨_, rfl⟩, ⟨_, rfl⟩, ⟨_, rfl⟩, ⟨_, rfl⟩, ⟨_, rfl⟩, Nat.le_refl _, hcd, Nat.le_refl _, Nat.le_refl _, hk0, ⟨SegP.refl _ _ _, H.out, Below.refl _ _⟩, OrdS.start _ _ _⟩
    case round =>
      clear H hk0
      obtain ⟨a, b, k, p, q, l1, rfl, rfl, rfl, rfl, rfl, ⟨u10, rfl⟩, ⟨u11, rfl⟩, ⟨u12, rfl⟩, ⟨u13, rfl⟩, ⟨u14, rfl⟩, ⟨u15, rfl⟩, ⟨u16, rfl⟩, ⟨u17, rfl⟩, ⟨u18, rfl⟩, hca, hab, hbd, hg, hk, HI⟩ := hrel
      have HLN : Hid (∀ l2 W, PdS B g cap L c d a b l l2 w W → L = l2.length) := fun l2 W h => by rw [h.1.1.len]; exact HL.out
      by_cases h12 : b ≤ a + 12
      · have z1 : (b : Int) - (a : Int) ≤ 12 := by omega
        have HN := Lib.hid (insseg_any B g cap L a b l1 wr HI.out.1.2.1 (HLN.out _ _ HI.out) hab (by omega) hbig)
        go_wp2_with (go_at_call 65; refine HN.out.mono ?_; rintro en w1 ⟨rfl, l2, h1, h2⟩; have HF := Lib.hid (HI.out.done h1 h2 hca hbd); clear h1 h2)
        (try simp only [Exit.inBlock, Exit.then])
        refine bodyPost_ret (results_none rfl _ _ _) rfl ?_
        exact ⟨rfl, l2, HF.out⟩
      · have z1 : ¬ (b : Int) - (a : Int) ≤ 12 := by omega
        by_cases hk00 : k = 0
        · subst hk00
          have HN := Lib.hid (heap_cd B g cap L a b l1 wr HI.out.1.2.1 (HLN.out _ _ HI.out) (by omega) (by omega) hbig)
          go_wp2_with (go_at_call 66; refine HN.out.mono ?_; rintro en w1 ⟨rfl, l2, h1, h2⟩; have HF := Lib.hid (HI.out.done h1 h2 hca hbd); clear h1 h2)
          (try simp only [Exit.inBlock, Exit.then])
          refine bodyPost_ret (results_none rfl _ _ _) rfl ?_
          exact ⟨rfl, l2, HF.out⟩
        · obtain ⟨m, rfl⟩ : ∃ m, k = m + 1 := ⟨k - 1, by omega⟩
          have z2 : ¬ (m : Int) + 1 = 0 := by omega
          have z3 : ((m : Int) + 1 == 0) = false := by simpa using z2
          clear hk00
          go_upto_if 35 with fail
          go_cut [3] from 19 to 133 (fun s3 wc => ∃ (k2 : Nat) (l2 : List Nat), s3 = .int .i64 (k2 : Int) ∧ k2 ≤ 64 ∧ Hid (PdS B g cap L c d a b l l2 w wc))
          case first =>
            cases p
            · have HN := Lib.hid (break_cd B g cap L a b l1 wr HI.out.1.2.1 (HLN.out _ _ HI.out) (by omega) (by omega) hbig)
              go_wp2_with (go_at_call 67; refine HN.out.mono ?_; rintro en w1 ⟨rfl, l2, h1⟩; have HF := Lib.hid (HI.out.seg h1 hca hbd); clear h1)
              go_meet
              case rel => exact ⟨m, l2, by go_num, by omega, HF.out⟩
            · go_wp2_with fail
              go_meet
              case rel => exact ⟨m + 1, l1, by go_num, by omega, HI.out⟩
          case rest =>
            clear HI
            obtain ⟨k2, l2, rfl, hk2, HI⟩ := hcut
            have HN := Lib.hid (pivot_cd B g cap L a b l2 wc HI.out.1.2.1 (HLN.out _ _ HI.out) (by omega) (by omega) hbig)
            go_upto_if 50 with (go_at_call 68; refine HN.out.mono ?_; rintro en w2 ⟨pv, z, rfl, hp1, hp2, hz, ho, hb⟩; have HJ := Lib.hid (HI.out.below ho hb); clear ho hb)
            go_cut [11, 12] from 19 to 133 (fun s11 s12 wc => ∃ (pv : Nat) (z : Int) (l3 : List Nat), s11 = .int .i64 (pv : Int) ∧ s12 = .int .i64 z ∧ a ≤ pv ∧ pv < b ∧ Hid (PdS B g cap L c d a b l l3 w wc))
            case first =>
              clear HI HN
              rcases hz with rfl | rfl | rfl
              · go_wp2_with fail
                go_meet
                case rel => exact ⟨pv, 0, l2, rfl, rfl, hp1, hp2, HJ.out⟩
              · go_wp2_with fail
                go_meet
                case rel => exact ⟨pv, 1, l2, rfl, rfl, hp1, hp2, HJ.out⟩
              · have HN := Lib.hid (reverse_cd B g cap L a b l2 w2 HJ.out.1.2.1 (HLN.out _ _ HJ.out) (by omega) (by omega) hbig)
                go_wp2_with (go_at_call 69; refine HN.out.mono ?_; rintro en w3 ⟨rfl, l3, h1⟩; have HF := Lib.hid (HJ.out.seg h1 hca hbd); clear h1)
                go_meet
                case rel => exact ⟨b - 1 - (pv - a), 1, l3, by congr 1; omega, rfl, by omega, by omega, HF.out⟩
            case rest =>
              clear HI HN HJ hz hp1 hp2
              obtain ⟨pv, z, l3, rfl, rfl, hp1, hp2, HI⟩ := hcut
              go_upto_region 15 with fail
              go_cut [68] from 19 to 133 (fun s68 wc => ∃ t : Bool, s68 = .bool t ∧ Hid (PdS B g cap L c d a b l l3 w wc))
              case first =>
                by_cases hz1 : z = 1
                · subst hz1
                  cases p <;> cases q <;> (go_wp2_with fail; go_meet; case rel => exact ⟨_, rfl, HI.out⟩)
                · have hz2 : (z == 1) = false := by simpa using hz1
                  cases p <;> cases q <;> (go_wp2_with fail; go_meet; case rel => exact ⟨_, rfl, HI.out⟩)
              case rest =>
                clear HI
                obtain ⟨t, rfl, HI⟩ := hcut
                cases t
                · obtain ⟨l4, rfl⟩ : ∃ l4, l4 = l3 := ⟨_, rfl⟩
                  go_upto_region 17 with fail
                  go_cut [87] from 19 to 133 (fun s87 wd => ∃ t2 : Bool, s87 = .bool t2 ∧ Hid ((t2 = true → 0 < a ∧ ∃ u x, l4[a - 1]? = some u ∧ l4[pv]? = some x ∧ ¬ u < x) ∧ PdS B g cap L c d a b l l4 w wd))
                  case first =>
                    by_cases ha0 : a = 0
                    · subst ha0
                      go_quiet (fail)
                      go_wp2_with fail
                      go_meet
                      case rel => exact ⟨false, rfl, (fun e => by cases e), HI.out.drewN _⟩
                    · obtain ⟨m0, rfl⟩ : ∃ m0, a = m0 + 1 := ⟨a - 1, by omega⟩
                      have hlen : l4.length = L := (HLN.out _ _ HI.out).symm
                      obtain ⟨u, hu⟩ : ∃ u, l4[m0]? = some u := ⟨_, List.getElem?_eq_getElem (by omega)⟩
                      obtain ⟨x, hx⟩ : ∃ x, l4[pv]? = some x := ⟨_, List.getElem?_eq_getElem (by omega)⟩
                      have cx := HI.out.1.2.1.cell hu hlen.symm
                      have cy := HI.out.1.2.1.cell hx hlen.symm
                      have HUX : Hid (l4[m0]? = some u ∧ l4[pv]? = some x) := ⟨hu, hx⟩
                      have hwm : IntKind.i64.wrap (m0 : Int) = (m0 : Int) := IntWalk.i64_in _ (by constructor <;> omega)
                      have m0z : (0 : Int) ≤ (m0 : Int) := by omega
                      have m1 : (m0 : Int) < (L : Int) := by omega
                      have m3 : (0 : Int) < (m0 : Int) + 1 := by omega
                      have p0 : (0 : Int) ≤ (pv : Int) := by omega
                      have p1 : (pv : Int) < (L : Int) := by omega
                      have hd1 : decide ((m0 : Int) + 1 > 0) = true := decide_eq_true (by omega)
                      have hd2 : decide ((0 : Int) < (m0 : Int) + 1) = true := decide_eq_true (by omega)
                      have HLS : Hid (∀ W, Calls Tryd.prog 71 #[.int .u32 (u : Int), .int .u32 (x : Int)] W fun e w' => e = .returned (.bool (decide (u < x))) ∧ W = w') := fun W => less_any u x W
                      clear hu hx hlen ha0
                      by_cases hux : u < x
                      · rw [decide_eq_true hux] at HLS
                        clear hux
                        go_quiet ((go_at_call 71; exact Calls.quiet_of_same ((HLS.out _).mono fun _ _ h => ⟨h.1, h.2.symm⟩)))
                        go_wp2_with fail
                        go_meet
                        case rel => exact ⟨false, rfl, (fun e => by cases e), HI.out.drewN _⟩
                      · rw [decide_eq_false hux] at HLS
                        have HNU := Lib.hid hux
                        clear hux
                        go_quiet ((go_at_call 71; exact Calls.quiet_of_same ((HLS.out _).mono fun _ _ h => ⟨h.1, h.2.symm⟩)))
                        go_wp2_with fail
                        go_meet
                        case rel => exact ⟨true, rfl, (fun _ => ⟨by omega, u, x, HUX.out.1, HUX.out.2, HNU.out⟩), HI.out.drewN _⟩
                  case rest =>
                    clear HI
                    obtain ⟨t2, rfl, HI⟩ := hcut
                    cases t2
                    · have HN := Lib.hid (part_cd B g cap L a b pv l4 _ HI.out.2.1.2.1 (HLN.out _ _ HI.out.2) ⟨hp1, hp2⟩ (by omega) hbig)
                      go_upto_if 113 with (go_at_call 73; refine HN.out.mono ?_; rintro en w4 ⟨j, x, zb, l5, rfl, hx, hj1, hj2, hpt, hs⟩; have HJ := Lib.hid (HI.out.2.seg hs hca hbd); have HPT := Lib.hid hpt; clear hx hpt hs)
                      clear HN HI
                      by_cases hlr : j - a < b - j
                      · have z5 : (j : Int) - (a : Int) < (b : Int) - (j : Int) := by omega
                        have HR := Lib.hid (IH.out (j - a) (by omega) B g cap L a j k2 l5 _ HJ.out.1.2.1 (HLN.out _ _ HJ.out) hj1 (by omega) hbig ((HJ.out.lo HLO.out hca hbd).less (by omega)) hk2 (Nat.le_refl _))
                        go_wp2_with (go_at_call 58; refine HR.out.mono ?_; rintro en w5 ⟨rfl, l6, h1, h2⟩; have HF := Lib.hid (HJ.out.left hca hbd ⟨hj1, hj2⟩ HPT.out h1 h2); clear h1 h2)
                        go_roundg (b - (j + 1))
                        case measure => omega
                        case rel => exact ⟨j + 1, b, k2, _, zb, l6, by go_num, rfl, rfl, rfl, rfl, ⟨_, rfl⟩, ⟨_, rfl⟩, ⟨_, rfl⟩, ⟨_, rfl⟩, ⟨_, rfl⟩, ⟨_, rfl⟩, ⟨_, rfl⟩, ⟨_, rfl⟩, ⟨_, rfl⟩, by omega, by omega, hbd, Nat.le_refl _, hk2, HF.out⟩
                      · have z5 : ¬ (j : Int) - (a : Int) < (b : Int) - (j : Int) := by omega
                        have hr := IH.out (b - (j + 1)) (by omega) B g cap L (j + 1) b k2 l5 _ HJ.out.1.2.1 (HLN.out _ _ HJ.out) (by omega) (by omega) hbig (LoS.after (c := a) HPT.out.1 HPT.out.2.2) hk2 (Nat.le_refl _)
                        rw [show ((j + 1 : Nat) : Int) = (j : Int) + 1 by omega] at hr
                        have HR := Lib.hid hr
                        clear hr
                        go_wp2_with (go_at_call 58; refine HR.out.mono ?_; rintro en w5 ⟨rfl, l6, h1, h2⟩; have HF := Lib.hid (HJ.out.right hca hbd ⟨hj1, hj2⟩ HPT.out h1 h2); clear h1 h2)
                        go_roundg (j - a)
                        case measure => omega
                        case rel => exact ⟨a, j, k2, _, zb, l6, rfl, rfl, rfl, rfl, rfl, ⟨_, rfl⟩, ⟨_, rfl⟩, ⟨_, rfl⟩, ⟨_, rfl⟩, ⟨_, rfl⟩, ⟨_, rfl⟩, ⟨_, rfl⟩, ⟨_, rfl⟩, ⟨_, rfl⟩, hca, hj1, by omega, Nat.le_refl _, hk2, HF.out⟩
                    · have HN := Lib.hid (parteq_cd B g cap L a b pv l4 _ HI.out.2.1.2.1 (HLN.out _ _ HI.out.2) ⟨hp1, hp2⟩ (by omega) hbig)
                      have PQ : Hid (∀ i x2 l5 W4, l4[pv]? = some x2 → a < i → i ≤ b → EqI a b i (i - 1) x2 l5 → SegS B g cap L a b l4 l5 _ W4 → PdS B g cap L c d i b l l5 w W4) := fun i x2 l5 W4 hx2 hi1 hi2 he hs => by
                        obtain ⟨hx0, u, x, hu, hx, hux⟩ := HI.out.1 rfl
                        rw [hx] at hx2; cases hx2
                        exact (HI.out.2.seg hs hca hbd).equal HLO.out hca hbd ⟨hi1, hi2⟩ hx0 (by rw [hs.1.2 (a - 1) (by omega)]; exact hu) hux he
                      go_wp2_with (go_at_call 72; refine HN.out.mono ?_; rintro en w4 ⟨i, x2, l5, rfl, hx2, hi1, hi2, he, hs⟩; have HF : Hid (PdS B g cap L c d i b l l5 w w4) := PQ.out i x2 l5 w4 hx2 hi1 hi2 he hs; clear hx2 he hs)
                      go_roundg (b - i)
                      case measure => omega
                      case rel => exact ⟨i, b, k2, p, q, l5, rfl, rfl, rfl, rfl, rfl, ⟨_, rfl⟩, ⟨_, rfl⟩, ⟨_, rfl⟩, ⟨_, rfl⟩, ⟨_, rfl⟩, ⟨_, rfl⟩, ⟨_, rfl⟩, ⟨_, rfl⟩, ⟨_, rfl⟩, by omega, hi2, hbd, Nat.le_refl _, hk2, HF.out⟩
                · have HN := Lib.hid (partial_cd B g cap L a b l3 _ HI.out.1.2.1 (HLN.out _ _ HI.out) (by omega) (by omega) hbig (HI.out.lo HLO.out hca hbd))
                  go_upto_if 72 with (go_at_call 70; refine HN.out.mono ?_; rintro en w3 ⟨r, l4, rfl, hs, hr⟩; have HF := Lib.hid (HI.out.seg hs hca hbd); have HR : Hid (r = true → SegS B g cap L c d l l4 w w3 ∧ SrtSeg c d l4) := (fun hrt => HI.out.done hs (hr hrt) hca hbd); clear hs hr)
                  clear HI HN
                  cases r
                  · have HI := HF
                    clear HF HR
                    go_upto_region 17 with fail
                    go_cut [87] from 19 to 133 (fun s87 wd => ∃ t2 : Bool, s87 = .bool t2 ∧ Hid ((t2 = true → 0 < a ∧ ∃ u x, l4[a - 1]? = some u ∧ l4[pv]? = some x ∧ ¬ u < x) ∧ PdS B g cap L c d a b l l4 w wd))
                    case first =>
                      by_cases ha0 : a = 0
                      · subst ha0
                        go_quiet (fail)
                        go_wp2_with fail
                        go_meet
                        case rel => exact ⟨false, rfl, (fun e => by cases e), HI.out.drewN _⟩
                      · obtain ⟨m0, rfl⟩ : ∃ m0, a = m0 + 1 := ⟨a - 1, by omega⟩
                        have hlen : l4.length = L := (HLN.out _ _ HI.out).symm
                        obtain ⟨u, hu⟩ : ∃ u, l4[m0]? = some u := ⟨_, List.getElem?_eq_getElem (by omega)⟩
                        obtain ⟨x, hx⟩ : ∃ x, l4[pv]? = some x := ⟨_, List.getElem?_eq_getElem (by omega)⟩
                        have cx := HI.out.1.2.1.cell hu hlen.symm
                        have cy := HI.out.1.2.1.cell hx hlen.symm
                        have HUX : Hid (l4[m0]? = some u ∧ l4[pv]? = some x) := ⟨hu, hx⟩
                        have hwm : IntKind.i64.wrap (m0 : Int) = (m0 : Int) := IntWalk.i64_in _ (by constructor <;> omega)
                        have m0z : (0 : Int) ≤ (m0 : Int) := by omega
                        have m1 : (m0 : Int) < (L : Int) := by omega
                        have m3 : (0 : Int) < (m0 : Int) + 1 := by omega
                        have p0 : (0 : Int) ≤ (pv : Int) := by omega
                        have p1 : (pv : Int) < (L : Int) := by omega
                        have hd1 : decide ((m0 : Int) + 1 > 0) = true := decide_eq_true (by omega)
                        have hd2 : decide ((0 : Int) < (m0 : Int) + 1) = true := decide_eq_true (by omega)
                        have HLS : Hid (∀ W, Calls Tryd.prog 71 #[.int .u32 (u : Int), .int .u32 (x : Int)] W fun e w' => e = .returned (.bool (decide (u < x))) ∧ W = w') := fun W => less_any u x W
                        clear hu hx hlen ha0
                        by_cases hux : u < x
                        · rw [decide_eq_true hux] at HLS
                          clear hux
                          go_quiet ((go_at_call 71; exact Calls.quiet_of_same ((HLS.out _).mono fun _ _ h => ⟨h.1, h.2.symm⟩)))
                          go_wp2_with fail
                          go_meet
                          case rel => exact ⟨false, rfl, (fun e => by cases e), HI.out.drewN _⟩
                        · rw [decide_eq_false hux] at HLS
                          have HNU := Lib.hid hux
                          clear hux
                          go_quiet ((go_at_call 71; exact Calls.quiet_of_same ((HLS.out _).mono fun _ _ h => ⟨h.1, h.2.symm⟩)))
                          go_wp2_with fail
                          go_meet
                          case rel => exact ⟨true, rfl, (fun _ => ⟨by omega, u, x, HUX.out.1, HUX.out.2, HNU.out⟩), HI.out.drewN _⟩
                    case rest =>
                      clear HI
                      obtain ⟨t2, rfl, HI⟩ := hcut
                      cases t2
                      · have HN := Lib.hid (part_cd B g cap L a b pv l4 _ HI.out.2.1.2.1 (HLN.out _ _ HI.out.2) ⟨hp1, hp2⟩ (by omega) hbig)
                        go_upto_if 113 with (go_at_call 73; refine HN.out.mono ?_; rintro en w4 ⟨j, x, zb, l5, rfl, hx, hj1, hj2, hpt, hs⟩; have HJ := Lib.hid (HI.out.2.seg hs hca hbd); have HPT := Lib.hid hpt; clear hx hpt hs)
                        clear HN HI
                        by_cases hlr : j - a < b - j
                        · have z5 : (j : Int) - (a : Int) < (b : Int) - (j : Int) := by omega
                          have HR := Lib.hid (IH.out (j - a) (by omega) B g cap L a j k2 l5 _ HJ.out.1.2.1 (HLN.out _ _ HJ.out) hj1 (by omega) hbig ((HJ.out.lo HLO.out hca hbd).less (by omega)) hk2 (Nat.le_refl _))
                          go_wp2_with (go_at_call 58; refine HR.out.mono ?_; rintro en w5 ⟨rfl, l6, h1, h2⟩; have HF := Lib.hid (HJ.out.left hca hbd ⟨hj1, hj2⟩ HPT.out h1 h2); clear h1 h2)
                          go_roundg (b - (j + 1))
                          case measure => omega
                          case rel => exact ⟨j + 1, b, k2, _, zb, l6, by go_num, rfl, rfl, rfl, rfl, ⟨_, rfl⟩, ⟨_, rfl⟩, ⟨_, rfl⟩, ⟨_, rfl⟩, ⟨_, rfl⟩, ⟨_, rfl⟩, ⟨_, rfl⟩, ⟨_, rfl⟩, ⟨_, rfl⟩, by omega, by omega, hbd, Nat.le_refl _, hk2, HF.out⟩
                        · have z5 : ¬ (j : Int) - (a : Int) < (b : Int) - (j : Int) := by omega
                          have hr := IH.out (b - (j + 1)) (by omega) B g cap L (j + 1) b k2 l5 _ HJ.out.1.2.1 (HLN.out _ _ HJ.out) (by omega) (by omega) hbig (LoS.after (c := a) HPT.out.1 HPT.out.2.2) hk2 (Nat.le_refl _)
                          rw [show ((j + 1 : Nat) : Int) = (j : Int) + 1 by omega] at hr
                          have HR := Lib.hid hr
                          clear hr
                          go_wp2_with (go_at_call 58; refine HR.out.mono ?_; rintro en w5 ⟨rfl, l6, h1, h2⟩; have HF := Lib.hid (HJ.out.right hca hbd ⟨hj1, hj2⟩ HPT.out h1 h2); clear h1 h2)
                          go_roundg (j - a)
                          case measure => omega
                          case rel => exact ⟨a, j, k2, _, zb, l6, rfl, rfl, rfl, rfl, rfl, ⟨_, rfl⟩, ⟨_, rfl⟩, ⟨_, rfl⟩, ⟨_, rfl⟩, ⟨_, rfl⟩, ⟨_, rfl⟩, ⟨_, rfl⟩, ⟨_, rfl⟩, ⟨_, rfl⟩, hca, hj1, by omega, Nat.le_refl _, hk2, HF.out⟩
                      · have HN := Lib.hid (parteq_cd B g cap L a b pv l4 _ HI.out.2.1.2.1 (HLN.out _ _ HI.out.2) ⟨hp1, hp2⟩ (by omega) hbig)
                        have PQ : Hid (∀ i x2 l5 W4, l4[pv]? = some x2 → a < i → i ≤ b → EqI a b i (i - 1) x2 l5 → SegS B g cap L a b l4 l5 _ W4 → PdS B g cap L c d i b l l5 w W4) := fun i x2 l5 W4 hx2 hi1 hi2 he hs => by
                          obtain ⟨hx0, u, x, hu, hx, hux⟩ := HI.out.1 rfl
                          rw [hx] at hx2; cases hx2
                          exact (HI.out.2.seg hs hca hbd).equal HLO.out hca hbd ⟨hi1, hi2⟩ hx0 (by rw [hs.1.2 (a - 1) (by omega)]; exact hu) hux he
                        go_wp2_with (go_at_call 72; refine HN.out.mono ?_; rintro en w4 ⟨i, x2, l5, rfl, hx2, hi1, hi2, he, hs⟩; have HF : Hid (PdS B g cap L c d i b l l5 w w4) := PQ.out i x2 l5 w4 hx2 hi1 hi2 he hs; clear hx2 he hs)
                        go_roundg (b - i)
                        case measure => omega
                        case rel => exact ⟨i, b, k2, p, q, l5, rfl, rfl, rfl, rfl, rfl, ⟨_, rfl⟩, ⟨_, rfl⟩, ⟨_, rfl⟩, ⟨_, rfl⟩, ⟨_, rfl⟩, ⟨_, rfl⟩, ⟨_, rfl⟩, ⟨_, rfl⟩, ⟨_, rfl⟩, by omega, hi2, hbd, Nat.le_refl _, hk2, HF.out⟩
                  · have HF2 := Lib.hid (HR.out rfl)
                    clear HR HF
                    go_wp2_with fail
                    (try simp only [Exit.inBlock, Exit.then])
                    refine bodyPost_ret (results_none rfl _ _ _) rfl ?_
                    exact ⟨rfl, l4, HF2.out⟩
end Go.Proofs.YtaniiennfogjaaaDoor
