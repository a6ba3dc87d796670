/-
  The walk of the reference's Apply.
-/
import Derived.Test.YtiodpgannelgpaaGrRp
import Derived.Deep.DeepCutAuto
namespace Go.Proofs.Ytiodpgannelgpaa
open Go.RowKit GM Go.Sort
set_option linter.unusedSimpArgs false
set_option linter.unusedVariables false
set_option maxHeartbeats 4000000
set_option maxRecDepth 100000
/-- the graph's cells, and nothing older is changed -/
theorem kR_below {w1 W W1 : World} {G : Nat} {R N : Int} {s : Value} (h : W.cell? ⟨G, 0, none⟩ = some (.int .i64 R) ∧ W.cell? ⟨G, 1, none⟩ = some (.int .i64 N) ∧ W.cell? ⟨G, 2, none⟩ = some s ∧ Below w1.heap.size w1 W) (hb : Below W.heap.size W W1) :
    W1.cell? ⟨G, 0, none⟩ = some (.int .i64 R) ∧ W1.cell? ⟨G, 1, none⟩ = some (.int .i64 N) ∧ W1.cell? ⟨G, 2, none⟩ = some s ∧ Below w1.heap.size w1 W1 := ⟨carry hb h.1, carry hb h.2.1, carry hb h.2.2.1, below_then h.2.2.2 hb⟩
theorem kR_set {w1 W : World} {G b o : Nat} {R N : Int} {s u : Value} (hG : G < w1.heap.size) (hb : w1.heap.size ≤ b) (h : W.cell? ⟨G, 0, none⟩ = some (.int .i64 R) ∧ W.cell? ⟨G, 1, none⟩ = some (.int .i64 N) ∧ W.cell? ⟨G, 2, none⟩ = some s ∧ Below w1.heap.size w1 W) :
    (W.setCell ⟨b, o, none⟩ u).cell? ⟨G, 0, none⟩ = some (.int .i64 R) ∧ (W.setCell ⟨b, o, none⟩ u).cell? ⟨G, 1, none⟩ = some (.int .i64 N) ∧ (W.setCell ⟨b, o, none⟩ u).cell? ⟨G, 2, none⟩ = some s ∧ Below w1.heap.size w1 (W.setCell ⟨b, o, none⟩ u) := by
  have hc : ∀ j, (W.setCell ⟨b, o, none⟩ u).cell? ⟨G, j, none⟩ = W.cell? ⟨G, j, none⟩ := fun j => World.cell?_of_block (heap_set_ne (by show G ≠ b; omega))
  exact ⟨(hc 0).trans h.1, (hc 1).trans h.2.1, (hc 2).trans h.2.2.1, h.2.2.2.setCell hb _⟩
theorem kR_get {w1 W : World} {G : Nat} {R N : Int} {s : Value} (h : W.cell? ⟨G, 0, none⟩ = some (.int .i64 R) ∧ W.cell? ⟨G, 1, none⟩ = some (.int .i64 N) ∧ W.cell? ⟨G, 2, none⟩ = some s ∧ Below w1.heap.size w1 W) : Below w1.heap.size w1 W := h.2.2.2
theorem rapply_good (R N : Int) (l cs : List E) (s v : Value) (w : World) (hR : I64 R) (hN : I64 N) (hr : Rd3 w s l) (hv : Rd3 w v cs) (hF : FitT l) (hFc : FitT cs) (hq : chk R N l = 0) :
    Calls Try.prog 26 #[.agg #[.int .i64 R, .int .i64 N, s], v] w fun e w' => ∃ s', e = .returned (.tuple #[grV R N (apF R N l cs).1 s', .int .i64 (apF R N l cs).1]) ∧ ((apF R N l cs).1 = 0 → Rd3 w' s' (apF R N l cs).2) ∧ Below w.heap.size w w' := by
  have hV := chk_iff.1 hq
  have HC : Hid (∀ W, Below w.heap.size w W → Calls Try.prog 18 #[.agg #[.int .i64 R, .int .i64 N, s]] W fun e w' => e = .returned (.int .i64 0) ∧ Below W.heap.size W w') := fun W hW => by rw [← hq]; exact rcheck_any R N s l W hR hN (hr.below hW) hF
  have HBT : Hid (∀ W, Below w.heap.size w W → Calls Try.prog 63 #[s, .int .i64 (-1)] W fun e w' => ∃ v', e = .returned v' ∧ OwnL W.heap.size w' v' l ∧ Below W.heap.size W w') := fun W hW => by
    have := but63_any l (-1) s W (by have := hV.len; omega) (hr.below hW)
    rwa [butL_none] at this
  obtain ⟨ad, cap, rfl⟩ := rd3_slice hr
  obtain ⟨va, vc, rfl, hv1, hv2, hvc⟩ := hv
  have HVC := Lib.hid hvc
  obtain ⟨K, hK⟩ : ∃ K, cs.length = K := ⟨_, rfl⟩
  rw [hK] at hv1 ⊢
  have HK := Lib.hid hK
  have HVA := Lib.hid hV
  have HFC := Lib.hid hFc
  have HB0 : Hid (Rb w R N (.slice ad l.length cap) ((w.alloc (.cells #[.int .i64 R, .int .i64 N, .slice ad l.length cap] 24)).alloc (.cells #[.int .i64 0, .int .i64 0, .slice none 0 0] 24))) := by
    refine ⟨below_two _ _ _, (Below.heap_alloc _ _ _ (by simp)).trans (heap_alloc_new _ _), ?_⟩
    have := heap_alloc_new (w.alloc (.cells #[.int .i64 R, .int .i64 N, .slice ad l.length cap] 24)) (.cells #[.int .i64 0, .int .i64 0, .slice none 0 0] 24)
    rwa [show (w.alloc _).heap.size = w.heap.size + 1 by simp] at this
  obtain ⟨q0, hq0⟩ : ∃ q0, apF R N l cs = q0 := ⟨_, rfl⟩
  rw [hq0]
  have HA0 : Hid (apF R N l (cs.drop 0) = q0) := by rw [List.drop_zero]; exact hq0
  obtain ⟨q, lr⟩ := q0
  dsimp only
  clear hr hvc hq hR hN hV hK hq0 hF hFc
  go_enter Try.func26, Try.ntmps26
  go_wp2_with fail
  go_at_call 18
  refine (HC.out _ HB0.out.1).mono ?_
  rintro e w1 ⟨rfl, hb1⟩
  have HR1 : Hid (Rb w R N (.slice ad l.length cap) w1) := ⟨below_then HB0.out.1 hb1, (hb1.block _ (lt_block HB0.out.2.1)).trans HB0.out.2.1, (hb1.block _ (lt_block HB0.out.2.2)).trans HB0.out.2.2⟩
  have g0 : w1.cell? ⟨w.heap.size, 0, none⟩ = some (.int .i64 R) := cell_of HR1.out.2.1 rfl
  have g1 : w1.cell? ⟨w.heap.size, 1, none⟩ = some (.int .i64 N) := cell_of HR1.out.2.1 rfl
  have g2 : w1.cell? ⟨w.heap.size, 2, none⟩ = some (.slice ad l.length cap) := cell_of HR1.out.2.1 rfl
  have hgw : w.heap.size < w1.heap.size := lt_block HR1.out.2.1
  clear hb1 HB0
  go_upto_region 4 with fail
  go_cut [7] (fun s7 wx => ∃ (H : Nat) (ad1 : Option Addr) (cap1 : Nat), s7 = .pointer (some ⟨H, 0, none⟩) ∧ Hid (RAp w R N (.slice ad l.length cap) (.slice ad1 l.length cap1) l H wx))
  case first =>
    go_region_held3 (fun w' => w'.cell? ⟨w.heap.size, 0, none⟩ = some (.int .i64 R) ∧ w'.cell? ⟨w.heap.size, 1, none⟩ = some (.int .i64 N) ∧ w'.cell? ⟨w.heap.size, 2, none⟩ = some (.slice ad l.length cap) ∧ Below w1.heap.size w1 w')
      (first | exact ⟨g0, g1, g2, (Below.refl _ w1).drew⟩ | assumption | exact kR_below hk2 (below_alloc _ _) | exact kR_below ‹_› (below_alloc _ _) | exact kR_set hgw (Nat.le_refl _) (kR_set hgw (Nat.le_refl _) (kR_set hgw (Nat.le_refl _) hk2)) | exact kR_set hgw hsz2 (kR_set hgw hsz2 (kR_set hgw hsz2 (kR_below hk2 (below_alloc _ _)))) | go_keep)
      (first
        | (go_at_call 63; refine (HBT.out _ (below_then HR1.out.1 (kR_get ‹_›))).mono ?_; rintro e w2 ⟨v2, rfl, hown, hb2⟩; have hk2 := kR_below ‹_› hb2; have HO := Lib.hid (And.intro hown hb2); obtain ⟨ad2, cap2, rfl⟩ := rd3_slice (rd3_own hown); have hsz2 := (kR_get hk2).size; obtain ⟨hc1, hf1⟩ := bcell hb2; clear hown hb2))
    all_goals (go_wp2_with fail; go_meet)
    all_goals (first
      | exact ⟨_, _, _, rfl, HR1.out.two ⟨HO.out.2.os, HO.out.2.tape, HO.out.2.output, HO.out.2.size, HO.out.2.block⟩ HO.out.1⟩
      | exact ⟨_, _, _, rfl, HR1.out.one (o := .cells #[.int .i64 0, .int .i64 0, .slice none 0 0] 24) ⟨HO.out.2.os, HO.out.2.tape, HO.out.2.output, HO.out.2.size, HO.out.2.block⟩ HO.out.1 ((HO.out.2.block w1.heap.size (by simp)).trans (heap_alloc_new w1 _))⟩)
  case rest =>
    obtain ⟨H, ad1, cap1, rfl, HS1⟩ := hcut
    have HS0 : Hid (apF R N l (cs.drop 0) = (q, lr) ∧ Valid R N l ∧ RAp w R N (.slice ad l.length cap) (.slice ad1 l.length cap1) l H wc) := ⟨HA0.out, HVA.out, HS1.out⟩
    clear HS1 HR1 g0 g1 g2 hgw
    go_wp2_with fail
    go_loopg [8, 9, 10, 11, 12] K (fun g s8 s9 s10 s11 s12 wr => ∃ (k : Nat) (s : Value) (l1 : List E), k ≤ K ∧ K - k ≤ g ∧ s8 = .int .i64 (k : Int) ∧ (∃ u, u = s9) ∧ (∃ u, u = s10) ∧ (∃ u, u = s11) ∧ (∃ u, u = s12) ∧ Hid (apF R N l1 (cs.drop k) = (q, lr) ∧ Valid R N l1 ∧ RAp w R N (.slice ad l.length cap) s l1 H wr))
    case atStart => exact ⟨0, _, l, by omega, by omega, rfl, ⟨_, rfl⟩, ⟨_, rfl⟩, ⟨_, rfl⟩, ⟨_, rfl⟩, HS0⟩
    case round =>
      clear HS0
      obtain ⟨k, s, l1, hk, hkg, rfl, ⟨u9, rfl⟩, ⟨u10, rfl⟩, ⟨u11, rfl⟩, ⟨u12, rfl⟩, HS⟩ := hrel
      obtain ⟨ads, caps, rfl⟩ := rd3_slice (rd3_own HS.out.2.2.own)
      by_cases hlt : k < K
      · obtain ⟨c, hc⟩ : ∃ y, cs[k]? = some y := ⟨_, List.getElem?_eq_getElem (by have := HK.out; omega)⟩
        obtain ⟨bl, off, rfl, hbl, c0, c1, c2⟩ := HVC.out k c hc
        have d0 := carryB HS.out.2.2.b hbl c0
        have d1 := carryB HS.out.2.2.b hbl c1
        have d2 := carryB HS.out.2.2.b hbl c2
        have HGO := Lib.hid (apF_go (R := R) (N := N) (l := l1) hc)
        have hcF := HFC.out c (List.mem_of_getElem? hc)
        have k1 : (k : Int) < (K : Int) := by omega
        have HSA : Hid (RAp w R N (.slice ad l.length cap) (.slice ads l1.length caps) l1 H (wr.alloc (.cells #[.int .i64 c.1, .int .i64 c.2.1, .int .i64 c.2.2] 53)) ∧ (wr.alloc (.cells #[.int .i64 c.1, .int .i64 c.2.1, .int .i64 c.2.2] 53)).heap[wr.heap.size]? = some (.cells #[.int .i64 c.1, .int .i64 c.2.1, .int .i64 c.2.2] 53 (0, 0))) := ⟨HS.out.2.2.below (below_alloc _ _), heap_alloc_new _ _⟩
        have HNV : Hid (ape R N l1 c = 0 → Valid R N (nxt l1 c) ∧ apF R N (nxt l1 c) (cs.drop (k + 1)) = (q, lr)) := fun h0 => by
          refine ⟨nxt_valid HS.out.2.1 h0, ?_⟩
          have := HGO.out
          rw [if_pos h0, HS.out.1] at this
          exact this.symm
        have HNE : Hid (ape R N l1 c ≠ 0 → q = ape R N l1 c) := fun h0 => by
          have := HGO.out
          rw [if_neg h0, HS.out.1] at this
          exact congrArg Prod.fst this
        have HV1 := Lib.hid HS.out.2.1
        have HN1 : Hid (∀ s x W, I64 x → Calls Try.prog 64 #[.agg #[.int .i64 R, .int .i64 N, s], .int .i64 x] W fun e w' => e = .returned (.bool (isN R N x)) ∧ Below W.heap.size W w') := fun s x W hx => node_any R N s x W HV1.out.r HV1.out.n HV1.out.s hx
        have HAL : Hid (∀ s W, Calls Try.prog 53 #[.agg #[.int .i64 R, .int .i64 N, s], .agg #[.int .i64 c.1, .int .i64 c.2.1, .int .i64 c.2.2]] W fun en w' => en = .returned (.int .i64 (alw R N c)) ∧ Below W.heap.size W w') := fun s W => rallowed_any R N s c W HV1.out.r HV1.out.n HV1.out.s ⟨hcF.1, hcF.2.1⟩
        have HL1 : Hid (l1.length ≤ 1024) := HV1.out.len
        obtain ⟨a, b, z⟩ := c
        dsimp only at d0 d1 d2 HSA HAL hcF
        have HCF := Lib.hid hcF
        clear c0 c1 c2 hc hbl hcF HS
        go_upto_region 9 with fail
        generalize wr.alloc (.cells #[.int .i64 a, .int .i64 b, .int .i64 z] 53) = wa at *
        have g0 : wa.cell? ⟨w.heap.size, 0, none⟩ = some (.int .i64 R) := cell_of HSA.out.1.g rfl
        have g1 : wa.cell? ⟨w.heap.size, 1, none⟩ = some (.int .i64 N) := cell_of HSA.out.1.g rfl
        have g2 : wa.cell? ⟨w.heap.size, 2, none⟩ = some (.slice ad l.length cap) := cell_of HSA.out.1.g rfl
        have c0 : wa.cell? ⟨wr.heap.size, 0, none⟩ = some (.int .i64 a) := cell_of HSA.out.2 rfl
        have c1 : wa.cell? ⟨wr.heap.size, 1, none⟩ = some (.int .i64 b) := cell_of HSA.out.2 rfl
        have c2 : wa.cell? ⟨wr.heap.size, 2, none⟩ = some (.int .i64 z) := cell_of HSA.out.2 rfl
        cases ha : isN R N a
        · have HQ : Hid (q = 5 ∧ (5 : Int) ≠ 0) := ⟨(HNE.out (by unfold ape; rw [if_neg (by dsimp only; rw [ha]; simp)]; decide)).trans (by unfold ape; rw [if_neg (by dsimp only; rw [ha]; simp)]), by decide⟩
          have HNa : Hid (∀ s W, Calls Try.prog 64 #[.agg #[.int .i64 R, .int .i64 N, s], .int .i64 a] W fun e w' => e = .returned (.bool false) ∧ Below W.heap.size W w') := fun s W => by rw [← ha]; exact HN1.out s a W HCF.out.1
          clear ha
          go_wp2_with fail
          go_at_call 64
          refine (HNa.out _ _).mono ?_
          rintro e w3 ⟨rfl, hb⟩
          have HS3 : Hid (RAp w R N (.slice ad l.length cap) (.slice ads l1.length caps) l1 H w3 ∧ w3.heap[wr.heap.size]? = some (.cells #[.int .i64 a, .int .i64 b, .int .i64 z] 53 (0, 0))) := ⟨HSA.out.1.below hb, (hb.block _ (lt_block HSA.out.2)).trans HSA.out.2⟩
          clear hb g0 g1 g2 c0 c1 c2
          have z0 : w3.cell? ⟨w.heap.size + 1, 0, none⟩ = some (.int .i64 0) := cell_of HS3.out.1.z rfl
          have z1 : w3.cell? ⟨w.heap.size + 1, 1, none⟩ = some (.int .i64 0) := cell_of HS3.out.1.z rfl
          have z2 : w3.cell? ⟨w.heap.size + 1, 2, none⟩ = some (.slice none 0 0) := cell_of HS3.out.1.z rfl
          have y0 : w3.frozen? ⟨w.heap.size + 1, 0, none⟩ = false := free_of HS3.out.1.z _
          have y1 : w3.frozen? ⟨w.heap.size + 1, 1, none⟩ = false := free_of HS3.out.1.z _
          have y2 : w3.frozen? ⟨w.heap.size + 1, 2, none⟩ = false := free_of HS3.out.1.z _
          go_wp2
          (try simp only [Exit.inBlock, Exit.then])
          refine bodyPost_ret (v := .tuple #[.agg #[.int .i64 0, .int .i64 0, .slice none 0 0], .int .i64 5]) (by rw [results_cell_tmp rfl]; go_simp) rfl ?_
          exact ⟨.slice none 0 0, by rw [HQ.out.1]; unfold grV; rw [if_neg HQ.out.2], fun h => absurd (HQ.out.1.symm.trans h) HQ.out.2, (HS3.out.1.stored _ _ _).2⟩
        · have HNa : Hid (∀ s W, Calls Try.prog 64 #[.agg #[.int .i64 R, .int .i64 N, s], .int .i64 a] W fun e w' => e = .returned (.bool true) ∧ Below W.heap.size W w') := fun s W => by rw [← ha]; exact HN1.out s a W HCF.out.1
          go_wp2_with fail
          go_at_call 64
          refine (HNa.out _ _).mono ?_
          rintro e w3 ⟨rfl, hb⟩
          have HS3 : Hid (RAp w R N (.slice ad l.length cap) (.slice ads l1.length caps) l1 H w3 ∧ w3.heap[wr.heap.size]? = some (.cells #[.int .i64 a, .int .i64 b, .int .i64 z] 53 (0, 0))) := ⟨HSA.out.1.below hb, (hb.block _ (lt_block HSA.out.2)).trans HSA.out.2⟩
          clear hb g0 g1 g2 c0 c1 c2
          have g0 : w3.cell? ⟨w.heap.size, 0, none⟩ = some (.int .i64 R) := cell_of HS3.out.1.g rfl
          have g1 : w3.cell? ⟨w.heap.size, 1, none⟩ = some (.int .i64 N) := cell_of HS3.out.1.g rfl
          have g2 : w3.cell? ⟨w.heap.size, 2, none⟩ = some (.slice ad l.length cap) := cell_of HS3.out.1.g rfl
          have c0 : w3.cell? ⟨wr.heap.size, 0, none⟩ = some (.int .i64 a) := cell_of HS3.out.2 rfl
          have c1 : w3.cell? ⟨wr.heap.size, 1, none⟩ = some (.int .i64 b) := cell_of HS3.out.2 rfl
          have c2 : w3.cell? ⟨wr.heap.size, 2, none⟩ = some (.int .i64 z) := cell_of HS3.out.2 rfl
          cases hbn : isN R N b
          · have HQ : Hid (q = 5 ∧ (5 : Int) ≠ 0) := ⟨(HNE.out (by unfold ape; rw [if_neg (by dsimp only; rw [hbn]; simp)]; decide)).trans (by unfold ape; rw [if_neg (by dsimp only; rw [hbn]; simp)]), by decide⟩
            have HNb : Hid (∀ s W, Calls Try.prog 64 #[.agg #[.int .i64 R, .int .i64 N, s], .int .i64 b] W fun e w' => e = .returned (.bool false) ∧ Below W.heap.size W w') := fun s W => by rw [← hbn]; exact HN1.out s b W HCF.out.2.1
            clear ha hbn
            go_wp2_with fail
            go_at_call 64
            refine (HNb.out _ _).mono ?_
            rintro e w4 ⟨rfl, hb⟩
            have HS4 : Hid (RAp w R N (.slice ad l.length cap) (.slice ads l1.length caps) l1 H w4 ∧ w4.heap[wr.heap.size]? = some (.cells #[.int .i64 a, .int .i64 b, .int .i64 z] 53 (0, 0))) := ⟨HS3.out.1.below hb, (hb.block _ (lt_block HS3.out.2)).trans HS3.out.2⟩
            clear hb g0 g1 g2 c0 c1 c2
            have z0 : w4.cell? ⟨w.heap.size + 1, 0, none⟩ = some (.int .i64 0) := cell_of HS4.out.1.z rfl
            have z1 : w4.cell? ⟨w.heap.size + 1, 1, none⟩ = some (.int .i64 0) := cell_of HS4.out.1.z rfl
            have z2 : w4.cell? ⟨w.heap.size + 1, 2, none⟩ = some (.slice none 0 0) := cell_of HS4.out.1.z rfl
            have y0 : w4.frozen? ⟨w.heap.size + 1, 0, none⟩ = false := free_of HS4.out.1.z _
            have y1 : w4.frozen? ⟨w.heap.size + 1, 1, none⟩ = false := free_of HS4.out.1.z _
            have y2 : w4.frozen? ⟨w.heap.size + 1, 2, none⟩ = false := free_of HS4.out.1.z _
            go_wp2
            (try simp only [Exit.inBlock, Exit.then])
            refine bodyPost_ret (v := .tuple #[.agg #[.int .i64 0, .int .i64 0, .slice none 0 0], .int .i64 5]) (by rw [results_cell_tmp rfl]; go_simp) rfl ?_
            exact ⟨.slice none 0 0, by rw [HQ.out.1]; unfold grV; rw [if_neg HQ.out.2], fun h => absurd (HQ.out.1.symm.trans h) HQ.out.2, (HS4.out.1.stored _ _ _).2⟩
          · have HNb : Hid (∀ s W, Calls Try.prog 64 #[.agg #[.int .i64 R, .int .i64 N, s], .int .i64 b] W fun e w' => e = .returned (.bool true) ∧ Below W.heap.size W w') := fun s W => by rw [← hbn]; exact HN1.out s b W HCF.out.2.1
            have HP : Hid (ape R N l1 (a, b, z) = if z < 0 then (if has l1 (a, b, z) = true then 0 else 6) else if alw R N (a, b, z) ≠ 0 then alw R N (a, b, z) else if has l1 (a, b, z) = false ∧ 1024 ≤ l1.length then 4 else 0) := by show _ = _; unfold ape; rw [if_pos ⟨ha, hbn⟩]
            clear ha hbn
            go_wp2_with fail
            go_at_call 64
            refine (HNb.out _ _).mono ?_
            rintro e w4 ⟨rfl, hb⟩
            have HS4 : Hid (RAp w R N (.slice ad l.length cap) (.slice ads l1.length caps) l1 H w4 ∧ w4.heap[wr.heap.size]? = some (.cells #[.int .i64 a, .int .i64 b, .int .i64 z] 53 (0, 0))) := ⟨HS3.out.1.below hb, (hb.block _ (lt_block HS3.out.2)).trans HS3.out.2⟩
            clear hb g0 g1 g2 c0 c1 c2
            have g0 : w4.cell? ⟨w.heap.size, 0, none⟩ = some (.int .i64 R) := cell_of HS4.out.1.g rfl
            have g1 : w4.cell? ⟨w.heap.size, 1, none⟩ = some (.int .i64 N) := cell_of HS4.out.1.g rfl
            have g2 : w4.cell? ⟨w.heap.size, 2, none⟩ = some (.slice ad l.length cap) := cell_of HS4.out.1.g rfl
            have c0 : w4.cell? ⟨wr.heap.size, 0, none⟩ = some (.int .i64 a) := cell_of HS4.out.2 rfl
            have c1 : w4.cell? ⟨wr.heap.size, 1, none⟩ = some (.int .i64 b) := cell_of HS4.out.2 rfl
            have c2 : w4.cell? ⟨wr.heap.size, 2, none⟩ = some (.int .i64 z) := cell_of HS4.out.2 rfl
            have h0 : w4.cell? ⟨H, 0, none⟩ = some (.int .i64 R) := cell_of HS4.out.1.h rfl
            have h1 : w4.cell? ⟨H, 1, none⟩ = some (.int .i64 N) := cell_of HS4.out.1.h rfl
            have h2 : w4.cell? ⟨H, 2, none⟩ = some (.slice ads l1.length caps) := cell_of HS4.out.1.h rfl
            go_wp2_with fail
            go_at_call 56
            refine (find56_any R N a b l1 _ _ (rd3_own HS4.out.1.own)).mono ?_
            rintro e w5 ⟨p, rfl, hfp, hb⟩
            have HS5 : Hid (RAp w R N (.slice ad l.length cap) (.slice ads l1.length caps) l1 H w5 ∧ w5.heap[wr.heap.size]? = some (.cells #[.int .i64 a, .int .i64 b, .int .i64 z] 53 (0, 0))) := ⟨HS4.out.1.below hb, (hb.block _ (lt_block HS4.out.2)).trans HS4.out.2⟩
            have HFP := Lib.hid hfp
            clear hb hfp g0 g1 g2 c0 c1 c2 h0 h1 h2
            have g0 : w5.cell? ⟨w.heap.size, 0, none⟩ = some (.int .i64 R) := cell_of HS5.out.1.g rfl
            have g1 : w5.cell? ⟨w.heap.size, 1, none⟩ = some (.int .i64 N) := cell_of HS5.out.1.g rfl
            have g2 : w5.cell? ⟨w.heap.size, 2, none⟩ = some (.slice ad l.length cap) := cell_of HS5.out.1.g rfl
            have c0 : w5.cell? ⟨wr.heap.size, 0, none⟩ = some (.int .i64 a) := cell_of HS5.out.2 rfl
            have c1 : w5.cell? ⟨wr.heap.size, 1, none⟩ = some (.int .i64 b) := cell_of HS5.out.2 rfl
            have c2 : w5.cell? ⟨wr.heap.size, 2, none⟩ = some (.int .i64 z) := cell_of HS5.out.2 rfl
            have h0 : w5.cell? ⟨H, 0, none⟩ = some (.int .i64 R) := cell_of HS5.out.1.h rfl
            have h1 : w5.cell? ⟨H, 1, none⟩ = some (.int .i64 N) := cell_of HS5.out.1.h rfl
            have h2 : w5.cell? ⟨H, 2, none⟩ = some (.slice ads l1.length caps) := cell_of HS5.out.1.h rfl
            have HPF : Hid ((p = -1 ∧ has l1 (a, b, z) = false ∧ butL l1 p = l1 ∧ wo l1 (a, b, z) = l1) ∨ (0 ≤ p ∧ has l1 (a, b, z) = true ∧ butL l1 p = wo l1 (a, b, z))) := by
              rcases HFP.out with ⟨h1, h2⟩ | ⟨k', f, h1, h2, h3, _⟩
              · have hh : has l1 (a, b, z) = false := has_no.2 h2
                exact .inl ⟨h1, hh, by rw [h1]; exact butL_none, wo_no hh⟩
              · exact .inr ⟨by omega, has_iff.2 ⟨f, List.mem_of_getElem? h2, h3⟩, by rw [h1, butL_some (List.getElem?_eq_some_iff.1 h2).1]; exact del_wo HV1.out.asc h2 h3⟩
            by_cases hz : z < 0
            · rcases HPF.out with ⟨rfl, hh, _, _⟩ | ⟨hp0, hh, hbt⟩
              · have HQ : Hid (q = 6 ∧ (6 : Int) ≠ 0) := ⟨(HNE.out (by rw [HP.out, if_pos hz, hh]; decide)).trans (by rw [HP.out, if_pos hz, hh]; rfl), by decide⟩
                clear hh
                have z0 : w5.cell? ⟨w.heap.size + 1, 0, none⟩ = some (.int .i64 0) := cell_of HS5.out.1.z rfl
                have z1 : w5.cell? ⟨w.heap.size + 1, 1, none⟩ = some (.int .i64 0) := cell_of HS5.out.1.z rfl
                have z2 : w5.cell? ⟨w.heap.size + 1, 2, none⟩ = some (.slice none 0 0) := cell_of HS5.out.1.z rfl
                have y0 : w5.frozen? ⟨w.heap.size + 1, 0, none⟩ = false := free_of HS5.out.1.z _
                have y1 : w5.frozen? ⟨w.heap.size + 1, 1, none⟩ = false := free_of HS5.out.1.z _
                have y2 : w5.frozen? ⟨w.heap.size + 1, 2, none⟩ = false := free_of HS5.out.1.z _
                go_wp2
                (try simp only [Exit.inBlock, Exit.then])
                refine bodyPost_ret (v := .tuple #[.agg #[.int .i64 0, .int .i64 0, .slice none 0 0], .int .i64 6]) (by rw [results_cell_tmp rfl]; go_simp) rfl ?_
                exact ⟨.slice none 0 0, by rw [HQ.out.1]; unfold grV; rw [if_neg HQ.out.2], fun h => absurd (HQ.out.1.symm.trans h) HQ.out.2, (HS5.out.1.stored _ _ _).2⟩
              · have HNX := Lib.hid (HNV.out (by rw [HP.out, if_pos hz, hh]; rfl))
                have HNL : Hid (nxt l1 (a, b, z) = wo l1 (a, b, z)) := if_pos hz
                have HBU : Hid (∀ W, Rd3 W (.slice ads l1.length caps) l1 → Calls Try.prog 63 #[.slice ads l1.length caps, .int .i64 p] W fun e w' => ∃ v', e = .returned v' ∧ OwnL W.heap.size w' v' (wo l1 (a, b, z)) ∧ Below W.heap.size W w') := fun W hW => by rw [← hbt]; exact but63_any l1 p _ W (by have := HL1.out; omega) hW
                have hp1 : ¬ p < 0 := by omega
                have hz1 : ¬ 0 ≤ z := by omega
                clear hh hbt hp0
                go_upto_region 15 with fail
                have HSB : Hid (RAp w R N (.slice ad l.length cap) (.slice ads l1.length caps) l1 H (w5.alloc (.cells #[.int .i64 a, .int .i64 b, .int .i64 z] 52)) ∧ (w5.alloc (.cells #[.int .i64 a, .int .i64 b, .int .i64 z] 52)).heap[wr.heap.size]? = some (.cells #[.int .i64 a, .int .i64 b, .int .i64 z] 53 (0, 0))) := ⟨HS5.out.1.below (below_alloc _ _), ((below_alloc w5 _).block _ (lt_block HS5.out.2)).trans HS5.out.2⟩
                generalize w5.alloc (.cells #[.int .i64 a, .int .i64 b, .int .i64 z] 52) = wb at *
                clear g0 g1 g2 c0 c1 c2 h0 h1 h2
                have g0 : wb.cell? ⟨w.heap.size, 0, none⟩ = some (.int .i64 R) := cell_of HSB.out.1.g rfl
                have g1 : wb.cell? ⟨w.heap.size, 1, none⟩ = some (.int .i64 N) := cell_of HSB.out.1.g rfl
                have g2 : wb.cell? ⟨w.heap.size, 2, none⟩ = some (.slice ad l.length cap) := cell_of HSB.out.1.g rfl
                have c0 : wb.cell? ⟨wr.heap.size, 0, none⟩ = some (.int .i64 a) := cell_of HSB.out.2 rfl
                have c1 : wb.cell? ⟨wr.heap.size, 1, none⟩ = some (.int .i64 b) := cell_of HSB.out.2 rfl
                have c2 : wb.cell? ⟨wr.heap.size, 2, none⟩ = some (.int .i64 z) := cell_of HSB.out.2 rfl
                have h0 : wb.cell? ⟨H, 0, none⟩ = some (.int .i64 R) := cell_of HSB.out.1.h rfl
                have h1 : wb.cell? ⟨H, 1, none⟩ = some (.int .i64 N) := cell_of HSB.out.1.h rfl
                have h2 : wb.cell? ⟨H, 2, none⟩ = some (.slice ads l1.length caps) := cell_of HSB.out.1.h rfl
                go_wp2_with fail
                go_at_call 63
                refine (HBU.out _ (rd3_own HSB.out.1.own)).mono ?_
                rintro e w6 ⟨v6, rfl, hown, hb⟩
                obtain ⟨ad6, cap6, rfl⟩ := rd3_slice (rd3_own hown)
                have hS6 := HSB.out.1.below hb
                have HS7 : Hid (RAp w R N (.slice ad l.length cap) (.slice ad6 (wo l1 (a, b, z)).length cap6) (wo l1 (a, b, z)) H (w6.setCell ⟨H, 2, none⟩ (.slice ad6 (wo l1 (a, b, z)).length cap6))) := hS6.store (ownE_base hown (by have := lt_block HSB.out.1.z; omega))
                have q2 : w6.cell? ⟨H, 2, none⟩ = some (.slice ads l1.length caps) := cell_of hS6.h rfl
                have x2 : w6.frozen? ⟨H, 2, none⟩ = false := free_of hS6.h _
                have r2 : ∀ u, (w6.setCell ⟨H, 2, none⟩ u).cell? ⟨wr.heap.size, 2, none⟩ = some (.int .i64 z) := fun u => by
                  have hne : wr.heap.size ≠ H := fun e => by have h1 := HSB.out.2; rw [e, HSB.out.1.h] at h1; injection h1 with h1; injection h1 with _ h3 _; cases h3
                  exact (World.cell?_of_block (heap_set_ne hne)).trans (carry hb c2)
                clear hown hb hS6 g0 g1 g2 c0 c1 c2 h0 h1 h2
                go_wp2_with fail
                go_roundg (K - (k + 1))
                case measure => omega
                case rel => exact ⟨k + 1, _, _, by omega, Nat.le_refl _, by go_num, ⟨_, rfl⟩, ⟨_, rfl⟩, ⟨_, rfl⟩, ⟨_, rfl⟩, HNL.out ▸ HNX.out.2, HNL.out ▸ HNX.out.1, HS7.out⟩
            · have hz' : decide (z < 0) = false := decide_eq_false hz
              have hz1 : 0 ≤ z := by omega
              have HNL : Hid (nxt l1 (a, b, z) = putE (a, b, z) (wo l1 (a, b, z))) := if_neg hz
              have HP2 : Hid (ape R N l1 (a, b, z) = if alw R N (a, b, z) ≠ 0 then alw R N (a, b, z) else if has l1 (a, b, z) = false ∧ 1024 ≤ l1.length then 4 else 0) := by show _ = _; rw [HP.out, if_neg hz]
              clear hz
              go_upto_region 15 with fail
              have HSB : Hid (RAp w R N (.slice ad l.length cap) (.slice ads l1.length caps) l1 H (w5.alloc (.cells #[.int .i64 a, .int .i64 b, .int .i64 z] 52)) ∧ (w5.alloc (.cells #[.int .i64 a, .int .i64 b, .int .i64 z] 52)).heap[wr.heap.size]? = some (.cells #[.int .i64 a, .int .i64 b, .int .i64 z] 53 (0, 0))) := ⟨HS5.out.1.below (below_alloc _ _), ((below_alloc w5 _).block _ (lt_block HS5.out.2)).trans HS5.out.2⟩
              have HXB : Hid ((w5.alloc (.cells #[.int .i64 a, .int .i64 b, .int .i64 z] 52)).heap[w5.heap.size]? = some (.cells #[.int .i64 a, .int .i64 b, .int .i64 z] 52 (0, 0))) := heap_alloc_new _ _
              generalize w5.alloc (.cells #[.int .i64 a, .int .i64 b, .int .i64 z] 52) = wb at *
              clear g0 g1 g2 c0 c1 c2 h0 h1 h2
              have g0 : wb.cell? ⟨w.heap.size, 0, none⟩ = some (.int .i64 R) := cell_of HSB.out.1.g rfl
              have g1 : wb.cell? ⟨w.heap.size, 1, none⟩ = some (.int .i64 N) := cell_of HSB.out.1.g rfl
              have g2 : wb.cell? ⟨w.heap.size, 2, none⟩ = some (.slice ad l.length cap) := cell_of HSB.out.1.g rfl
              have c0 : wb.cell? ⟨wr.heap.size, 0, none⟩ = some (.int .i64 a) := cell_of HSB.out.2 rfl
              have c1 : wb.cell? ⟨wr.heap.size, 1, none⟩ = some (.int .i64 b) := cell_of HSB.out.2 rfl
              have c2 : wb.cell? ⟨wr.heap.size, 2, none⟩ = some (.int .i64 z) := cell_of HSB.out.2 rfl
              have h0 : wb.cell? ⟨H, 0, none⟩ = some (.int .i64 R) := cell_of HSB.out.1.h rfl
              have h1 : wb.cell? ⟨H, 1, none⟩ = some (.int .i64 N) := cell_of HSB.out.1.h rfl
              have h2 : wb.cell? ⟨H, 2, none⟩ = some (.slice ads l1.length caps) := cell_of HSB.out.1.h rfl
              have e0 : wb.cell? ⟨w5.heap.size, 0, none⟩ = some (.int .i64 a) := cell_of HXB.out rfl
              have e1 : wb.cell? ⟨w5.heap.size, 1, none⟩ = some (.int .i64 b) := cell_of HXB.out rfl
              have e2 : wb.cell? ⟨w5.heap.size, 2, none⟩ = some (.int .i64 z) := cell_of HXB.out rfl
              go_wp2_with fail
              go_at_call 53
              refine (HAL.out _ _).mono ?_
              rintro e w6 ⟨rfl, hb⟩
              have HS6 : Hid (RAp w R N (.slice ad l.length cap) (.slice ads l1.length caps) l1 H w6 ∧ w6.heap[wr.heap.size]? = some (.cells #[.int .i64 a, .int .i64 b, .int .i64 z] 53 (0, 0))) := ⟨HSB.out.1.below hb, (hb.block _ (lt_block HSB.out.2)).trans HSB.out.2⟩
              have HX6 := Lib.hid ((hb.block _ (lt_block HXB.out)).trans HXB.out)
              clear hb g0 g1 g2 c0 c1 c2 h0 h1 h2 e0 e1 e2
              by_cases hal : alw R N (a, b, z) = 0
              · have HP3 : Hid (ape R N l1 (a, b, z) = if has l1 (a, b, z) = false ∧ 1024 ≤ l1.length then 4 else 0) := by show _ = _; rw [HP2.out, if_neg (by simpa using hal)]
                rw [hal]
                clear hal HAL
                have g0 : w6.cell? ⟨w.heap.size, 0, none⟩ = some (.int .i64 R) := cell_of HS6.out.1.g rfl
                have g1 : w6.cell? ⟨w.heap.size, 1, none⟩ = some (.int .i64 N) := cell_of HS6.out.1.g rfl
                have g2 : w6.cell? ⟨w.heap.size, 2, none⟩ = some (.slice ad l.length cap) := cell_of HS6.out.1.g rfl
                have c0 : w6.cell? ⟨wr.heap.size, 0, none⟩ = some (.int .i64 a) := cell_of HS6.out.2 rfl
                have c1 : w6.cell? ⟨wr.heap.size, 1, none⟩ = some (.int .i64 b) := cell_of HS6.out.2 rfl
                have c2 : w6.cell? ⟨wr.heap.size, 2, none⟩ = some (.int .i64 z) := cell_of HS6.out.2 rfl
                have h0 : w6.cell? ⟨H, 0, none⟩ = some (.int .i64 R) := cell_of HS6.out.1.h rfl
                have h1 : w6.cell? ⟨H, 1, none⟩ = some (.int .i64 N) := cell_of HS6.out.1.h rfl
                have h2 : w6.cell? ⟨H, 2, none⟩ = some (.slice ads l1.length caps) := cell_of HS6.out.1.h rfl
                have e0 : w6.cell? ⟨w5.heap.size, 0, none⟩ = some (.int .i64 a) := cell_of HX6.out rfl
                have e1 : w6.cell? ⟨w5.heap.size, 1, none⟩ = some (.int .i64 b) := cell_of HX6.out rfl
                have e2 : w6.cell? ⟨w5.heap.size, 2, none⟩ = some (.int .i64 z) := cell_of HX6.out rfl
                by_cases hful : p < 0 ∧ 1024 ≤ l1.length
                · have hh : has l1 (a, b, z) = false := by
                    rcases HPF.out with ⟨_, h, _⟩ | ⟨h, _⟩
                    · exact h
                    · omega
                  have HQ : Hid (q = 4 ∧ (4 : Int) ≠ 0) := ⟨(HNE.out (by rw [HP3.out, if_pos ⟨hh, hful.2⟩]; decide)).trans (by rw [HP3.out, if_pos ⟨hh, hful.2⟩]), by decide⟩
                  obtain ⟨hp1, hp2⟩ := hful
                  have hp3 : (1024 : Int) ≤ (l1.length : Int) := by omega
                  clear hh hp2
                  have z0 : w6.cell? ⟨w.heap.size + 1, 0, none⟩ = some (.int .i64 0) := cell_of HS6.out.1.z rfl
                  have z1 : w6.cell? ⟨w.heap.size + 1, 1, none⟩ = some (.int .i64 0) := cell_of HS6.out.1.z rfl
                  have z2 : w6.cell? ⟨w.heap.size + 1, 2, none⟩ = some (.slice none 0 0) := cell_of HS6.out.1.z rfl
                  have y0 : w6.frozen? ⟨w.heap.size + 1, 0, none⟩ = false := free_of HS6.out.1.z _
                  have y1 : w6.frozen? ⟨w.heap.size + 1, 1, none⟩ = false := free_of HS6.out.1.z _
                  have y2 : w6.frozen? ⟨w.heap.size + 1, 2, none⟩ = false := free_of HS6.out.1.z _
                  go_wp2
                  (try simp only [Exit.inBlock, Exit.then])
                  refine bodyPost_ret (v := .tuple #[.agg #[.int .i64 0, .int .i64 0, .slice none 0 0], .int .i64 4]) (by rw [results_cell_tmp rfl]; go_simp) rfl ?_
                  exact ⟨.slice none 0 0, by rw [HQ.out.1]; unfold grV; rw [if_neg HQ.out.2], fun h => absurd (HQ.out.1.symm.trans h) HQ.out.2, (HS6.out.1.stored _ _ _).2⟩
                · have HNX := Lib.hid (HNV.out (by
                    rw [HP3.out, if_neg]
                    rintro ⟨h1, h2⟩
                    rcases HPF.out with ⟨h, _⟩ | ⟨_, h, _⟩
                    · exact hful ⟨by omega, h2⟩
                    · rw [h] at h1; cases h1))
                  have HBW : Hid (butL l1 p = wo l1 (a, b, z)) := by
                    rcases HPF.out with ⟨_, _, h1, h2⟩ | ⟨_, _, h⟩
                    · show _ = _; rw [h1, h2]
                    · exact h
                  have HWL : Hid ((wo l1 (a, b, z)).length ≤ 1024) := Nat.le_trans (List.length_filter_le _ _) HL1.out
                  have HBU : Hid (∀ W, Rd3 W (.slice ads l1.length caps) l1 → Calls Try.prog 63 #[.slice ads l1.length caps, .int .i64 p] W fun e w' => ∃ v', e = .returned v' ∧ OwnL W.heap.size w' v' (wo l1 (a, b, z)) ∧ Below W.heap.size W w') := fun W hW => by rw [← HBW.out]; exact but63_any l1 p _ W (by have := HL1.out; omega) hW
                  have HPU : Hid (∀ v W, Rd3 W v (wo l1 (a, b, z)) → Calls Try.prog 65 #[v, .agg #[.int .i64 a, .int .i64 b, .int .i64 z]] W fun e w' => ∃ v', e = .returned v' ∧ OwnL (W.heap.size + 1) w' v' (putE (a, b, z) (wo l1 (a, b, z))) ∧ Below W.heap.size W w') := fun v W hW => put65_any (wo l1 (a, b, z)) (a, b, z) v W (by have := HWL.out; omega) hW
                  generalize wo l1 (a, b, z) = lw at *
                  have HJ := Lib.hid hful
                  rcases (by omega : p < 0 ∧ ¬ 1024 ≤ l1.length ∨ ¬ p < 0) with ⟨hp1, hp2⟩ | hp1
                  · have hp3 : decide ((1024 : Int) ≤ (l1.length : Int)) = false := decide_eq_false (by omega)
                    clear hful hp2
                    go_wp2_with fail
                    go_at_call 63
                    refine (HBU.out _ (rd3_own HS6.out.1.own)).mono ?_
                    rintro e w7 ⟨v7, rfl, hown, hb⟩
                    obtain ⟨ad7, cap7, rfl⟩ := rd3_slice (rd3_own hown)
                    have hS7 := HS6.out.1.below hb
                    have hne1 : wr.heap.size ≠ H := fun e => by have h1 := HS6.out.2; rw [e, HS6.out.1.h] at h1; injection h1 with h1; injection h1 with _ h3 _; cases h3
                    have hne2 : w5.heap.size ≠ H := fun e => by have h1 := HX6.out; rw [e, HS6.out.1.h] at h1; injection h1 with h1; injection h1 with _ h3 _; cases h3
                    have HS8 : Hid (RAp w R N (.slice ad l.length cap) (.slice ad7 lw.length cap7) lw H (w7.setCell ⟨H, 2, none⟩ (.slice ad7 lw.length cap7))) := hS7.store (ownE_base hown (by have := lt_block HS6.out.1.z; omega))
                    have q2 : w7.cell? ⟨H, 2, none⟩ = some (.slice ads l1.length caps) := cell_of hS7.h rfl
                    have x2 : w7.frozen? ⟨H, 2, none⟩ = false := free_of hS7.h _
                    have r2 : ∀ u, (w7.setCell ⟨H, 2, none⟩ u).cell? ⟨wr.heap.size, 2, none⟩ = some (.int .i64 z) := fun u => (World.cell?_of_block (heap_set_ne hne1)).trans (carry hb c2)
                    have s0 : ∀ u, (w7.setCell ⟨H, 2, none⟩ u).cell? ⟨w5.heap.size, 0, none⟩ = some (.int .i64 a) := fun u => (World.cell?_of_block (heap_set_ne hne2)).trans (carry hb e0)
                    have s1 : ∀ u, (w7.setCell ⟨H, 2, none⟩ u).cell? ⟨w5.heap.size, 1, none⟩ = some (.int .i64 b) := fun u => (World.cell?_of_block (heap_set_ne hne2)).trans (carry hb e1)
                    have s2 : ∀ u, (w7.setCell ⟨H, 2, none⟩ u).cell? ⟨w5.heap.size, 2, none⟩ = some (.int .i64 z) := fun u => (World.cell?_of_block (heap_set_ne hne2)).trans (carry hb e2)
                    have t2 : ∀ u, (w7.setCell ⟨H, 2, none⟩ u).cell? ⟨H, 2, none⟩ = some u := fun u => cell_of (heap_set_eq hS7.h) rfl
                    clear hown hb hS7 g0 g1 g2 c0 c1 c2 h0 h1 h2 e0 e1 e2 hne1 hne2
                    go_wp2_with fail
                    go_at_call 65
                    refine (HPU.out _ _ (rd3_own HS8.out.own)).mono ?_
                    rintro e w9 ⟨v9, rfl, hown, hb⟩
                    obtain ⟨ad9, cap9, rfl⟩ := rd3_slice (rd3_own hown)
                    have hS9 := HS8.out.below hb
                    have HS10 : Hid (RAp w R N (.slice ad l.length cap) (.slice ad9 (putE (a, b, z) lw).length cap9) (putE (a, b, z) lw) H (w9.setCell ⟨H, 2, none⟩ (.slice ad9 (putE (a, b, z) lw).length cap9))) := hS9.store (ownE_base hown (by have := lt_block HS8.out.z; omega))
                    have q9 : w9.cell? ⟨H, 2, none⟩ = some (.slice ad7 lw.length cap7) := cell_of hS9.h rfl
                    have x9 : w9.frozen? ⟨H, 2, none⟩ = false := free_of hS9.h _
                    clear hown hb hS9 q2 x2 r2 s0 s1 s2 t2
                    go_wp2_with fail
                    go_roundg (K - (k + 1))
                    case measure => omega
                    case rel => exact ⟨k + 1, _, _, by omega, Nat.le_refl _, by go_num, ⟨_, rfl⟩, ⟨_, rfl⟩, ⟨_, rfl⟩, ⟨_, rfl⟩, HNL.out ▸ HNX.out.2, HNL.out ▸ HNX.out.1, HS10.out⟩
                  · have hp3 : decide (p < 0) = false := decide_eq_false hp1
                    clear hful
                    go_wp2_with fail
                    go_at_call 63
                    refine (HBU.out _ (rd3_own HS6.out.1.own)).mono ?_
                    rintro e w7 ⟨v7, rfl, hown, hb⟩
                    obtain ⟨ad7, cap7, rfl⟩ := rd3_slice (rd3_own hown)
                    have hS7 := HS6.out.1.below hb
                    have hne1 : wr.heap.size ≠ H := fun e => by have h1 := HS6.out.2; rw [e, HS6.out.1.h] at h1; injection h1 with h1; injection h1 with _ h3 _; cases h3
                    have hne2 : w5.heap.size ≠ H := fun e => by have h1 := HX6.out; rw [e, HS6.out.1.h] at h1; injection h1 with h1; injection h1 with _ h3 _; cases h3
                    have HS8 : Hid (RAp w R N (.slice ad l.length cap) (.slice ad7 lw.length cap7) lw H (w7.setCell ⟨H, 2, none⟩ (.slice ad7 lw.length cap7))) := hS7.store (ownE_base hown (by have := lt_block HS6.out.1.z; omega))
                    have q2 : w7.cell? ⟨H, 2, none⟩ = some (.slice ads l1.length caps) := cell_of hS7.h rfl
                    have x2 : w7.frozen? ⟨H, 2, none⟩ = false := free_of hS7.h _
                    have r2 : ∀ u, (w7.setCell ⟨H, 2, none⟩ u).cell? ⟨wr.heap.size, 2, none⟩ = some (.int .i64 z) := fun u => (World.cell?_of_block (heap_set_ne hne1)).trans (carry hb c2)
                    have s0 : ∀ u, (w7.setCell ⟨H, 2, none⟩ u).cell? ⟨w5.heap.size, 0, none⟩ = some (.int .i64 a) := fun u => (World.cell?_of_block (heap_set_ne hne2)).trans (carry hb e0)
                    have s1 : ∀ u, (w7.setCell ⟨H, 2, none⟩ u).cell? ⟨w5.heap.size, 1, none⟩ = some (.int .i64 b) := fun u => (World.cell?_of_block (heap_set_ne hne2)).trans (carry hb e1)
                    have s2 : ∀ u, (w7.setCell ⟨H, 2, none⟩ u).cell? ⟨w5.heap.size, 2, none⟩ = some (.int .i64 z) := fun u => (World.cell?_of_block (heap_set_ne hne2)).trans (carry hb e2)
                    have t2 : ∀ u, (w7.setCell ⟨H, 2, none⟩ u).cell? ⟨H, 2, none⟩ = some u := fun u => cell_of (heap_set_eq hS7.h) rfl
                    clear hown hb hS7 g0 g1 g2 c0 c1 c2 h0 h1 h2 e0 e1 e2 hne1 hne2
                    go_wp2_with fail
                    go_at_call 65
                    refine (HPU.out _ _ (rd3_own HS8.out.own)).mono ?_
                    rintro e w9 ⟨v9, rfl, hown, hb⟩
                    obtain ⟨ad9, cap9, rfl⟩ := rd3_slice (rd3_own hown)
                    have hS9 := HS8.out.below hb
                    have HS10 : Hid (RAp w R N (.slice ad l.length cap) (.slice ad9 (putE (a, b, z) lw).length cap9) (putE (a, b, z) lw) H (w9.setCell ⟨H, 2, none⟩ (.slice ad9 (putE (a, b, z) lw).length cap9))) := hS9.store (ownE_base hown (by have := lt_block HS8.out.z; omega))
                    have q9 : w9.cell? ⟨H, 2, none⟩ = some (.slice ad7 lw.length cap7) := cell_of hS9.h rfl
                    have x9 : w9.frozen? ⟨H, 2, none⟩ = false := free_of hS9.h _
                    clear hown hb hS9 q2 x2 r2 s0 s1 s2 t2
                    go_wp2_with fail
                    go_roundg (K - (k + 1))
                    case measure => omega
                    case rel => exact ⟨k + 1, _, _, by omega, Nat.le_refl _, by go_num, ⟨_, rfl⟩, ⟨_, rfl⟩, ⟨_, rfl⟩, ⟨_, rfl⟩, HNL.out ▸ HNX.out.2, HNL.out ▸ HNX.out.1, HS10.out⟩
              · have hne := HNE.out (by rw [HP2.out, if_pos hal]; exact hal)
                rw [HP2.out, if_pos hal] at hne
                generalize alw R N (a, b, z) = qa at *
                have HQ : Hid (q = qa ∧ qa ≠ 0) := ⟨hne, hal⟩
                have hq1 : (qa == 0) = false := by simpa using hal
                have hq2 : (qa != 0) = true := by simpa using hal
                clear hne hal
                have z0 : w6.cell? ⟨w.heap.size + 1, 0, none⟩ = some (.int .i64 0) := cell_of HS6.out.1.z rfl
                have z1 : w6.cell? ⟨w.heap.size + 1, 1, none⟩ = some (.int .i64 0) := cell_of HS6.out.1.z rfl
                have z2 : w6.cell? ⟨w.heap.size + 1, 2, none⟩ = some (.slice none 0 0) := cell_of HS6.out.1.z rfl
                have y0 : w6.frozen? ⟨w.heap.size + 1, 0, none⟩ = false := free_of HS6.out.1.z _
                have y1 : w6.frozen? ⟨w.heap.size + 1, 1, none⟩ = false := free_of HS6.out.1.z _
                have y2 : w6.frozen? ⟨w.heap.size + 1, 2, none⟩ = false := free_of HS6.out.1.z _
                go_wp2
                (try simp only [Exit.inBlock, Exit.then])
                refine bodyPost_ret (v := .tuple #[.agg #[.int .i64 0, .int .i64 0, .slice none 0 0], .int .i64 qa]) (by rw [results_cell_tmp rfl]; go_simp) rfl ?_
                exact ⟨.slice none 0 0, by rw [HQ.out.1]; unfold grV; rw [if_neg HQ.out.2], fun h => absurd (HQ.out.1.symm.trans h) HQ.out.2, (HS6.out.1.stored _ _ _).2⟩
      · have k1 : decide ((k : Int) < (K : Int)) = false := decide_eq_false (by omega)
        have HQ : Hid (q = 0 ∧ lr = l1) := by
          have := HS.out.1
          rw [show k = cs.length by have := HK.out; omega, apF_end] at this
          exact ⟨(congrArg Prod.fst this).symm, (congrArg Prod.snd this).symm⟩
        have HSZ : Hid (RAp w R N (.slice ad l.length cap) (.slice ads l1.length caps) l1 H wr ∧ True) := ⟨HS.out.2.2, trivial⟩
        clear HS
        have h0 : wr.cell? ⟨H, 0, none⟩ = some (.int .i64 R) := cell_of HSZ.out.1.h rfl
        have h1 : wr.cell? ⟨H, 1, none⟩ = some (.int .i64 N) := cell_of HSZ.out.1.h rfl
        have h2 : wr.cell? ⟨H, 2, none⟩ = some (.slice ads l1.length caps) := cell_of HSZ.out.1.h rfl
        have z0 : wr.cell? ⟨w.heap.size + 1, 0, none⟩ = some (.int .i64 0) := cell_of HSZ.out.1.z rfl
        have z1 : wr.cell? ⟨w.heap.size + 1, 1, none⟩ = some (.int .i64 0) := cell_of HSZ.out.1.z rfl
        have z2 : wr.cell? ⟨w.heap.size + 1, 2, none⟩ = some (.slice none 0 0) := cell_of HSZ.out.1.z rfl
        have y0 : wr.frozen? ⟨w.heap.size + 1, 0, none⟩ = false := free_of HSZ.out.1.z _
        have y1 : wr.frozen? ⟨w.heap.size + 1, 1, none⟩ = false := free_of HSZ.out.1.z _
        have y2 : wr.frozen? ⟨w.heap.size + 1, 2, none⟩ = false := free_of HSZ.out.1.z _
        go_wp2
        (try simp only [Exit.inBlock, Exit.then])
        refine bodyPost_ret (v := .tuple #[.agg #[.int .i64 R, .int .i64 N, .slice ads l1.length caps], .int .i64 0]) (by rw [results_cell_tmp rfl]; go_simp) rfl ?_
        exact ⟨.slice ads l1.length caps, by rw [HQ.out.1]; rfl, fun _ => by rw [HQ.out.2]; exact (HSZ.out.1.stored _ _ _).1, (HSZ.out.1.stored _ _ _).2⟩
end Go.Proofs.Ytiodpgannelgpaa
