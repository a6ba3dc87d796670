/-
  The laws on sets and on normal lists.
-/
import Derived.Test.YtegponbmelgngaaCvRs
namespace Go.Proofs.Ytegponbmelgngaa
open Go.RowKit
set_option linter.unusedSimpArgs false
set_option linter.unusedVariables false
set_option maxHeartbeats 4000000
set_option maxRecDepth 100000

/-- a value that reads as the normal list of a set -/
def NS (S : Nat → Bool) (w : World) (v : Value) : Prop := ∃ B, CM.Nrm S B ∧ Rd w v (B.map pfx)
theorem NS.below {S : Nat → Bool} {w w' : World} {v : Value} (h : NS S w v) (hb : Below w.heap.size w w') : NS S w' v := by
  obtain ⟨B, hB, hr⟩ := h; exact ⟨B, hB, hr.below hb⟩
theorem ns_same {S : Nat → Bool} {v v' : Value} {w : World} (hS : ∀ y, S y = true → y < 4294967296) (h : NS S w v) (h' : NS S w v') :
    Calls Try.prog 20 #[v, v'] w fun e w' => e = .returned (.bool true) ∧ Below w.heap.size w w' := by
  obtain ⟨B, hB, hr⟩ := h
  obtain ⟨B', hB', hr'⟩ := h'
  have := sameP_any (B.map pfx) (B'.map pfx) v v' w (by unfold Big; rw [List.length_map]; exact nrm_len hB hS) hr hr'
  rwa [decide_eq_true (nrm_same hB hB' fun y => rfl)] at this
theorem sets_big (a b : List PP) (v1 v2 : Value) (w : World) (h : 60 < a.length ∨ 60 < b.length) (hr1 : Rd w v1 a) (hr2 : Rd w v2 b) :
    Calls Try.prog 4 #[v1, v2] w fun e w' => e = .returned (.bool true) ∧ Below w.heap.size w w' := by
  obtain ⟨ad, cap, rfl⟩ := rdP_slice hr1
  obtain ⟨ad', cap', rfl⟩ := rdP_slice hr2
  have HL := Lib.hid (large_yes ad ad' a.length b.length cap cap' h w)
  clear hr1 hr2 h
  go_enter Try.func4, Try.ntmps4
  go_wp2_with (first
    | (go_at_call 16; refine HL.out.mono ?_; rintro e w1 ⟨rfl, rfl⟩)
    | (go_at_call 17; refine (awake5_any _).mono ?_; rintro e w1 ⟨rfl, hb⟩; have B := Lib.hid hb; clear hb))
  go_ret
  exact ⟨rfl, B.out⟩
theorem sets_small (a b : List PP) (v1 v2 : Value) (w : World) (ha : a.length ≤ 60) (hb : b.length ≤ 60) (fa : FitL a) (fb : FitL b) (hr1 : Rd w v1 a) (hr2 : Rd w v2 b) (hn : NilOK v2) :
    Calls Try.prog 4 #[v1, v2] w fun e w' => e = .returned (.bool true) ∧ Below w.heap.size w w' := by
  have mla := mem_lt (l := a) (fun p hp => (fa p hp).1)
  have mlb := mem_lt (l := b) (fun p hp => (fb p hp).1)
  have HLg : Hid (Calls Try.prog 16 #[v1, v2] w fun e w' => e = .returned (.bool false) ∧ w = w') := by
    obtain ⟨ad, cap, rfl⟩ := rdP_slice hr1
    obtain ⟨ad', cap', rfl⟩ := rdP_slice hr2
    exact large_no ad ad' a.length b.length cap cap' ha hb w
  have H27 : Hid (∀ W, Below w.heap.size w W → Calls Try.prog 27 #[v1, v2] W fun e w' => ∃ v, e = .returned v ∧ NS (fun y => (mem a y || mem b y)) w' v ∧ Below W.heap.size W w') := fun W hW => by
    refine (union_any a b v1 v2 W (big60 ha) (big60 hb) fa fb (hr1.below hW) (hr2.below hW)).mono ?_
    rintro e w' ⟨v, B, rfl, hN, hr, hb⟩
    exact ⟨v, rfl, ⟨B, hN, hr⟩, hb⟩
  have H28 : Hid (∀ W, Below w.heap.size w W → Calls Try.prog 28 #[v1, v2] W fun e w' => ∃ v, e = .returned v ∧ NS (fun y => (mem a y || mem b y)) w' v ∧ Below W.heap.size W w') := fun W hW => by
    refine (runion_any a b v1 v2 W ha hb fa fb (hr1.below hW) (hr2.below hW) hn).mono ?_
    rintro e w' ⟨v, B, rfl, hN, hr, hb⟩
    exact ⟨v, rfl, ⟨B, hN, hr⟩, hb⟩
  have H29 : Hid (∀ W, Below w.heap.size w W → Calls Try.prog 29 #[v1, v2] W fun e w' => ∃ v, e = .returned v ∧ NS (fun y => (mem a y && mem b y)) w' v ∧ Below W.heap.size W w') := fun W hW => by
    refine (inter_any a b v1 v2 W (big60 ha) (big60 hb) fa fb (hr1.below hW) (hr2.below hW)).mono ?_
    rintro e w' ⟨v, B, rfl, hN, hr, hb⟩
    exact ⟨v, rfl, ⟨B, hN, hr⟩, hb⟩
  have H30 : Hid (∀ W, Below w.heap.size w W → Calls Try.prog 30 #[v1, v2] W fun e w' => ∃ v, e = .returned v ∧ NS (fun y => (mem a y && mem b y)) w' v ∧ Below W.heap.size W w') := fun W hW => by
    refine (rinter_any merged_any a b v1 v2 W ha hb fa fb (hr1.below hW) (hr2.below hW)).mono ?_
    rintro e w' ⟨v, B, rfl, hN, hr, hb⟩
    exact ⟨v, rfl, ⟨B, hN, hr⟩, hb⟩
  have H31 : Hid (∀ W, Below w.heap.size w W → Calls Try.prog 31 #[v1, v2] W fun e w' => ∃ v, e = .returned v ∧ NS (fun y => (mem a y && !mem b y)) w' v ∧ Below W.heap.size W w') := fun W hW => by
    refine (subt_any a b v1 v2 W (big60 ha) (big60 hb) fa fb (hr1.below hW) (hr2.below hW)).mono ?_
    rintro e w' ⟨v, B, rfl, hN, hr, hb⟩
    exact ⟨v, rfl, ⟨B, hN, hr⟩, hb⟩
  have H32 : Hid (∀ W, Below w.heap.size w W → Calls Try.prog 32 #[v1, v2] W fun e w' => ∃ v, e = .returned v ∧ NS (fun y => (mem a y && !mem b y)) w' v ∧ Below W.heap.size W w') := fun W hW => by
    refine (rsubt_any merged_any a b v1 v2 W ha hb fa fb (hr1.below hW) (hr2.below hW)).mono ?_
    rintro e w' ⟨v, B, rfl, hN, hr, hb⟩
    exact ⟨v, rfl, ⟨B, hN, hr⟩, hb⟩
  have SU : Hid (∀ W v v', NS (fun y => (mem a y || mem b y)) W v → NS (fun y => (mem a y || mem b y)) W v' → Calls Try.prog 20 #[v, v'] W fun e w' => e = .returned (.bool true) ∧ Below W.heap.size W w') := fun W v v' h h' => ns_same (fun y hy => by rw [Bool.or_eq_true] at hy; exact hy.elim (mla y) (mlb y)) h h'
  have SI : Hid (∀ W v v', NS (fun y => (mem a y && mem b y)) W v → NS (fun y => (mem a y && mem b y)) W v' → Calls Try.prog 20 #[v, v'] W fun e w' => e = .returned (.bool true) ∧ Below W.heap.size W w') := fun W v v' h h' => ns_same (fun y hy => by rw [Bool.and_eq_true] at hy; exact mla y hy.1) h h'
  have SD : Hid (∀ W v v', NS (fun y => (mem a y && !mem b y)) W v → NS (fun y => (mem a y && !mem b y)) W v' → Calls Try.prog 20 #[v, v'] W fun e w' => e = .returned (.bool true) ∧ Below W.heap.size W w') := fun W v v' h h' => ns_same (fun y hy => by rw [Bool.and_eq_true] at hy; exact mla y hy.1) h h'
  obtain ⟨SUS, hSU⟩ : ∃ S, (fun y => (mem a y || mem b y)) = S := ⟨_, rfl⟩
  obtain ⟨SIS, hSI⟩ : ∃ S, (fun y => (mem a y && mem b y)) = S := ⟨_, rfl⟩
  obtain ⟨SDS, hSD⟩ : ∃ S, (fun y => (mem a y && !mem b y)) = S := ⟨_, rfl⟩
  rw [hSU] at H27 H28 SU
  rw [hSI] at H29 H30 SI
  rw [hSD] at H31 H32 SD
  clear hSU hSI hSD mla mlb hr1 hr2 fa fb ha hb hn
  go_enter Try.func4, Try.ntmps4
  go_wp2_with fail
  go_at_call 16
  refine HLg.out.mono ?_
  rintro e w1 ⟨rfl, rfl⟩
  go_wp2_with fail
  go_at_call 17
  refine (awake5_any _).mono ?_
  rintro e w2 ⟨rfl, hb⟩
  have B2 := Lib.hid hb
  clear hb
  go_wp2_with fail
  go_at_call 27
  refine (H27.out _ B2.out).mono ?_
  rintro e w3 ⟨vU0, rfl, hn, hb⟩
  have B3 := Lib.hid (below_then B2.out hb)
  have PU0 := Lib.hid hn
  clear hb hn
  go_wp2_with fail
  go_at_call 28
  refine (H28.out _ B3.out).mono ?_
  rintro e w4 ⟨vU1, rfl, hn, hb⟩
  have B4 := Lib.hid (below_then B3.out hb)
  have PU1 := Lib.hid hn
  have PU0 := Lib.hid (PU0.out.below hb)
  clear hb hn
  go_wp2_with fail
  go_at_call 20
  refine (SU.out _ _ _ PU0.out PU1.out).mono ?_
  rintro e w5 ⟨rfl, hb⟩
  have B5 := Lib.hid (below_then B4.out hb)
  clear hb
  go_wp2_with fail
  go_at_call 29
  refine (H29.out _ B5.out).mono ?_
  rintro e w6 ⟨vI0, rfl, hn, hb⟩
  have B6 := Lib.hid (below_then B5.out hb)
  have PI0 := Lib.hid hn
  clear hb hn
  go_wp2_with fail
  go_at_call 30
  refine (H30.out _ B6.out).mono ?_
  rintro e w7 ⟨vI1, rfl, hn, hb⟩
  have B7 := Lib.hid (below_then B6.out hb)
  have PI1 := Lib.hid hn
  have PI0 := Lib.hid (PI0.out.below hb)
  clear hb hn
  go_wp2_with fail
  go_at_call 20
  refine (SI.out _ _ _ PI0.out PI1.out).mono ?_
  rintro e w8 ⟨rfl, hb⟩
  have B8 := Lib.hid (below_then B7.out hb)
  clear hb
  go_wp2_with fail
  go_at_call 31
  refine (H31.out _ B8.out).mono ?_
  rintro e w9 ⟨vD0, rfl, hn, hb⟩
  have B9 := Lib.hid (below_then B8.out hb)
  have PD0 := Lib.hid hn
  clear hb hn
  go_wp2_with fail
  go_at_call 32
  refine (H32.out _ B9.out).mono ?_
  rintro e w10 ⟨vD1, rfl, hn, hb⟩
  have B10 := Lib.hid (below_then B9.out hb)
  have PD1 := Lib.hid hn
  have PD0 := Lib.hid (PD0.out.below hb)
  clear hb hn
  go_wp2_with fail
  go_at_call 20
  refine (SD.out _ _ _ PD0.out PD1.out).mono ?_
  rintro e w11 ⟨rfl, hb⟩
  have B11 := Lib.hid (below_then B10.out hb)
  clear hb
  go_wp2_with fail
  go_ret
  exact ⟨rfl, B11.out⟩
theorem sets_walk (a b : List PP) (v1 v2 : Value) (w : World) (hr1 : Rd w v1 a) (fa : FitL a) (hr2 : Rd w v2 b) (fb : FitL b) (hn : NilOK v2) :
    Calls Try.prog 4 #[v1, v2] w fun e w' => e = .returned (.bool true) ∧ Below w.heap.size w w' := by
  by_cases h : 60 < a.length ∨ 60 < b.length
  · exact sets_big a b v1 v2 w h hr1 hr2
  · exact sets_small a b v1 v2 w (by omega) (by omega) fa fb hr1 hr2 hn
theorem normal_big (a : List PP) (v1 : Value) (w : World) (h : 60 < a.length) (hr1 : Rd w v1 a) :
    Calls Try.prog 3 #[v1] w fun e w' => e = .returned (.bool true) ∧ Below w.heap.size w w' := by
  obtain ⟨ad, cap, rfl⟩ := rdP_slice hr1
  have HL := Lib.hid (large_yes ad none a.length 0 cap 0 (.inl h) w)
  clear hr1 h
  go_enter Try.func3, Try.ntmps3
  go_wp2_with (first
    | (go_at_call 16; refine HL.out.mono ?_; rintro e w1 ⟨rfl, rfl⟩)
    | (go_at_call 17; refine (awake5_any _).mono ?_; rintro e w1 ⟨rfl, hb⟩; have B := Lib.hid hb; clear hb))
  go_ret
  exact ⟨rfl, B.out⟩
theorem normal_core (a : List PP) (v1 : Value) (w : World) (ha : a.length ≤ 60) (fa : FitL a) (hr1 : Rd w v1 a) (pa : Nat) (pn : Int) (ok : Bool)
    (HS : Hid (∀ W, Below w.heap.size w W → Calls Try.prog 18 #[v1] W fun e w' => e = .returned (.tuple #[.agg #[.int .u32 (pa : Int), .int .i64 pn], .bool ok]) ∧ Below W.heap.size W w'))
    (HT : Hid (∀ W, Below w.heap.size w W → Calls Try.prog 19 #[v1] W fun e w' => e = .returned (.tuple #[.agg #[.int .u32 (pa : Int), .int .i64 pn], .bool ok]) ∧ Below W.heap.size W w')) :
    Calls Try.prog 3 #[v1] w fun e w' => e = .returned (.bool true) ∧ Below w.heap.size w w' := by
  have mla := mem_lt (l := a) (fun p hp => (fa p hp).1)
  have HLg : Hid (Calls Try.prog 16 #[v1, .slice none 0 0] w fun e w' => e = .returned (.bool false) ∧ w = w') := by
    obtain ⟨ad, cap, rfl⟩ := rdP_slice hr1
    exact large_no ad none a.length 0 cap 0 ha (by omega) w
  have H21 : Hid (∀ W, Below w.heap.size w W → Calls Try.prog 21 #[v1] W fun e w' => ∃ v, e = .returned v ∧ NS (mem a) w' v ∧ Below W.heap.size W w') := fun W hW => by
    refine (normal_any a v1 W (big60 ha) fa (hr1.below hW)).mono ?_
    rintro e w' ⟨v, B, rfl, hN, hr, hb⟩
    exact ⟨v, rfl, ⟨B, hN, hr⟩, hb⟩
  have H22 : Hid (∀ W, Below w.heap.size w W → Calls Try.prog 22 #[v1] W fun e w' => ∃ v, e = .returned v ∧ NS (mem a) w' v ∧ Below W.heap.size W w') := fun W hW => by
    refine (rnorm_any merged_any a v1 W (big60 ha) fa (hr1.below hW)).mono ?_
    rintro e w' ⟨v, B, rfl, hN, hr, hb⟩
    exact ⟨v, rfl, ⟨B, hN, hr⟩, hb⟩
  have SM : Hid (∀ W v v', NS (mem a) W v → NS (mem a) W v' → Calls Try.prog 20 #[v, v'] W fun e w' => e = .returned (.bool true) ∧ Below W.heap.size W w') := fun W v v' h h' => ns_same mla h h'
  have HI : ∃ z : Bool, (Hid (∀ W, Below w.heap.size w W → Calls Try.prog 23 #[v1] W fun e w' => e = .returned (.bool z) ∧ Below W.heap.size W w')) ∧ (Hid (∀ W, Below w.heap.size w W → Calls Try.prog 24 #[v1] W fun e w' => e = .returned (.bool z) ∧ Below W.heap.size W w')) := by
    by_cases hz : ∃ B, CM.Nrm (mem a) B ∧ a = B.map pfx
    · obtain ⟨B, hB, hE⟩ := hz
      refine ⟨true, fun W hW => ?_, fun W hW => ?_⟩
      · refine (is_any a v1 W (big60 ha) fa (hr1.below hW)).mono ?_
        rintro e w' ⟨C, rfl, hC, hb⟩
        rw [decide_eq_true (hE.trans (nrm_same hB hC fun y => rfl))]
        exact ⟨rfl, hb⟩
      · refine (ris_any a v1 W (big60 ha) fa (hr1.below hW)).mono ?_
        rintro e w' ⟨C, rfl, hC, hb⟩
        rw [decide_eq_true (hE.trans (nrm_same hB hC fun y => rfl))]
        exact ⟨rfl, hb⟩
    · refine ⟨false, fun W hW => ?_, fun W hW => ?_⟩
      · refine (is_any a v1 W (big60 ha) fa (hr1.below hW)).mono ?_
        rintro e w' ⟨C, rfl, hC, hb⟩
        rw [decide_eq_false (fun h => hz ⟨C, hC, h⟩)]
        exact ⟨rfl, hb⟩
      · refine (ris_any a v1 W (big60 ha) fa (hr1.below hW)).mono ?_
        rintro e w' ⟨C, rfl, hC, hb⟩
        rw [decide_eq_false (fun h => hz ⟨C, hC, h⟩)]
        exact ⟨rfl, hb⟩
  obtain ⟨z, H23, H24⟩ := HI
  have H25 : Hid (∀ W, Below w.heap.size w W → Calls Try.prog 25 #[v1] W fun e w' => e = .returned (.int .u64 (many a : Nat)) ∧ Below W.heap.size W w') := fun W hW => count_any a v1 W (big60 ha) fa (hr1.below hW)
  have H26 : Hid (∀ W, Below w.heap.size w W → Calls Try.prog 26 #[v1] W fun e w' => e = .returned (.int .u64 (many a : Nat)) ∧ Below W.heap.size W w') := fun W hW => rcount_any a v1 W (big60 ha) fa (hr1.below hW)
  generalize many a = cnt at *
  generalize mem a = S at *
  clear mla hr1 fa ha
  go_enter Try.func3, Try.ntmps3
  go_wp2_with fail
  go_at_call 16
  refine HLg.out.mono ?_
  rintro e w1 ⟨rfl, rfl⟩
  go_wp2_with fail
  go_at_call 18
  refine (HS.out _ (Below.refl _ _)).mono ?_
  rintro e w2 ⟨rfl, hb⟩
  have B2 := Lib.hid (hb.alloc hb.size (.cells #[.int .u32 (pa : Int), .int .i64 pn] 28))
  have hz2 := hb.size
  clear hb
  go_wp2_with fail
  go_at_call 19
  refine (HT.out _ B2.out).mono ?_
  rintro e w3 ⟨rfl, hb⟩
  have B3 := Lib.hid (below_then B2.out hb)
  have s0 := carry hb (p := ⟨w2.heap.size, 0, none⟩) (v := .int .u32 (pa : Int)) (by simp)
  have s1 := carry hb (p := ⟨w2.heap.size, 1, none⟩) (v := .int .i64 pn) (by simp)
  have hz3 := hb.size
  simp at hz3
  have B4 := Lib.hid (B3.out.alloc B3.out.size (.cells #[.int .u32 (pa : Int), .int .i64 pn] 28))
  have KP : Hid (∀ W, Below (w3.alloc (.cells #[.int .u32 (pa : Int), .int .i64 pn] 28)).heap.size (w3.alloc (.cells #[.int .u32 (pa : Int), .int .i64 pn] 28)) W → W.cell? ⟨w2.heap.size, 0, none⟩ = some (.int .u32 (pa : Int)) ∧ W.cell? ⟨w2.heap.size, 1, none⟩ = some (.int .i64 pn) ∧ W.cell? ⟨w3.heap.size, 0, none⟩ = some (.int .u32 (pa : Int)) ∧ W.cell? ⟨w3.heap.size, 1, none⟩ = some (.int .i64 pn)) := fun W hW =>
    ⟨carry hW (Lib.cell?_alloc_some _ s0), carry hW (Lib.cell?_alloc_some _ s1), carry hW (by simp), carry hW (by simp)⟩
  clear hb s0 s1
  go_wp2_with fail
  generalize (w3.alloc (.cells #[.int .u32 (pa : Int), .int .i64 pn] 28)) = W4 at *
  go_at_call 17
  refine (awake5_any _).mono ?_
  rintro e w5 ⟨rfl, hb⟩
  have B5 := Lib.hid (below_then B4.out hb)
  have C5 := Lib.hid hb
  clear hb
  go_wp2_with fail
  go_at_call 21
  refine (H21.out _ B5.out).mono ?_
  rintro e w6 ⟨vn, rfl, hn, hb⟩
  have B6 := Lib.hid (below_then B5.out hb)
  have C6 := Lib.hid (below_then C5.out hb)
  have P6 := Lib.hid hn
  clear hb hn
  go_wp2_with fail
  go_at_call 22
  refine (H22.out _ B6.out).mono ?_
  rintro e w7 ⟨vm, rfl, hn, hb⟩
  have B7 := Lib.hid (below_then B6.out hb)
  have C7 := Lib.hid (below_then C6.out hb)
  have P6 := Lib.hid (P6.out.below hb)
  have P7 := Lib.hid hn
  clear hb hn
  go_wp2_with fail
  go_at_call 20
  refine (SM.out _ _ _ P6.out P7.out).mono ?_
  rintro e w8 ⟨rfl, hb⟩
  have B8 := Lib.hid (below_then B7.out hb)
  have C8 := Lib.hid (below_then C7.out hb)
  clear hb
  go_wp2_with fail
  go_at_call 23
  refine (H23.out _ B8.out).mono ?_
  rintro e w9 ⟨rfl, hb⟩
  have B9 := Lib.hid (below_then B8.out hb)
  have C9 := Lib.hid (below_then C8.out hb)
  clear hb
  go_wp2_with fail
  go_at_call 24
  refine (H24.out _ B9.out).mono ?_
  rintro e w10 ⟨rfl, hb⟩
  have B10 := Lib.hid (below_then B9.out hb)
  have C10 := Lib.hid (below_then C9.out hb)
  clear hb
  go_wp2_with fail
  go_at_call 25
  refine (H25.out _ B10.out).mono ?_
  rintro e w11 ⟨rfl, hb⟩
  have B11 := Lib.hid (below_then B10.out hb)
  have C11 := Lib.hid (below_then C10.out hb)
  clear hb
  go_wp2_with fail
  go_at_call 26
  refine (H26.out _ B11.out).mono ?_
  rintro e w12 ⟨rfl, hb⟩
  have B12 := Lib.hid (below_then B11.out hb)
  have C12 := Lib.hid (below_then C11.out hb)
  obtain ⟨k0, k1, k2, k3⟩ := KP.out _ C12.out
  clear hb
  go_wp2_with fail
  go_ret
  exact ⟨by simp, B12.out⟩
theorem ends_ex {a : List PP} (fa : FitL a) (he : ascd a ≠ []) : ∃ lo hi, Ends a lo hi := by
  have hpos : 0 < (ascd a).length := List.length_pos_iff.2 he
  obtain ⟨x0, hx0⟩ : ∃ x, (ascd a)[0]? = some x := ⟨_, List.getElem?_eq_getElem hpos⟩
  have hM : ∀ k, k ≤ (ascd a).length → ∃ h, MaxI a k h := by
    intro k
    induction k with
    | zero => exact fun _ => ⟨0, by decide, by simp, by simp, fun _ => rfl⟩
    | succ k ih =>
      intro hk
      obtain ⟨h, hh⟩ := ih (by omega)
      exact ⟨_, max_step fa (x := (ascd a)[k]) (List.getElem?_eq_getElem (by omega)) hh⟩
  obtain ⟨h, h2⟩ := hM _ (Nat.le_refl _)
  have h1 := ascd_first fa hx0
  refine ⟨x0.1, h, h1.1, h2.2.2.1 hpos, fun y hy => ⟨h1.2 y hy, ?_⟩⟩
  obtain ⟨p, hp, hv, hi⟩ := (mem_iff a y).1 hy
  have hpm := (ascd_mem a p).2 ⟨hp, hv⟩
  have h3 := h2.2.1 p (by rw [List.take_of_length_le (Nat.le_refl _)]; exact hpm)
  exact Nat.le_trans ((last_mem fa hpm).2.2 y hi) h3
theorem normal_walk (a : List PP) (v1 : Value) (w : World) (hr1 : Rd w v1 a) (fa : FitL a) :
    Calls Try.prog 3 #[v1] w fun e w' => e = .returned (.bool true) ∧ Below w.heap.size w w' := by
  by_cases h : 60 < a.length
  · exact normal_big a v1 w h hr1
  · have ha : a.length ≤ 60 := by omega
    by_cases he : ascd a = []
    · exact normal_core a v1 w ha fa hr1 0 0 false (fun W hW => summary_none a v1 W (big60 ha) fa (hr1.below hW) he) (fun W hW => rsumm_none a v1 W (big60 ha) fa (hr1.below hW) (ascd_nil_mem he))
    · obtain ⟨lo, hi, hE⟩ := ends_ex fa he
      refine normal_core a v1 w ha fa hr1 (sumP lo hi).1 (sumP lo hi).2 true (fun W hW => ?_) (fun W hW => rsumm_some a v1 W (big60 ha) fa (hr1.below hW) lo hi hE)
      refine (summary_some a v1 W (big60 ha) fa (hr1.below hW) he).mono ?_
      rintro e w' ⟨lo', hi', rfl, hE', hb⟩
      have h1 := hE.2.2 lo' hE'.1
      have h2 := hE.2.2 hi' hE'.2.1
      have h3 := hE'.2.2 lo hE.1
      have h4 := hE'.2.2 hi hE.2.1
      obtain rfl : lo' = lo := by omega
      obtain rfl : hi' = hi := by omega
      exact ⟨rfl, hb⟩
end Go.Proofs.Ytegponbmelgngaa
