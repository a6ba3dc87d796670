/-
  Proved: for every two prefix values and every address the law PrefixTells returns true (Valid, Make, Contains, Covers and Overlap return what the reference returns, and the examples hold); the row lists three library tables, tied by the card; no other conditions.
-/
import Derived.Test.YtbcgfgklajdelaaDoorFrame
namespace Go.Proofs.YtbcgfgklajdelaaDoor.prefixTells
open Go.ChangeShapes Go.WideShapes Go.ChangeAt Go.RowKit
set_option linter.unusedSimpArgs false
set_option linter.unusedVariables false
set_option maxHeartbeats 4000000
set_option maxRecDepth 100000

theorem boxed2 (w : World) (o1 o2 : Obj) : Boxed w ((w.alloc o1).alloc o2) := ⟨below2 _ _ _, by simp; omega⟩
theorem boxed3 (w : World) (o1 o2 o3 : Obj) : Boxed w (((w.alloc o1).alloc o2).alloc o3) := ⟨below3 _ _ _ _, by simp; omega⟩
theorem keep4 {w W w1 : World} {p0 p1 p2 p3 : Addr} {c0 c1 c2 c3 : Value} (h : W.cell? p0 = some c0 ∧ W.cell? p1 = some c1 ∧ W.cell? p2 = some c2 ∧ W.cell? p3 = some c3 ∧ Boxed w W) (hb : Below W.heap.size W w1) :
    w1.cell? p0 = some c0 ∧ w1.cell? p1 = some c1 ∧ w1.cell? p2 = some c2 ∧ w1.cell? p3 = some c3 ∧ Boxed w w1 :=
  ⟨carry hb h.1, carry hb h.2.1, carry hb h.2.2.1, carry hb h.2.2.2.1, boxed_then h.2.2.2.2 hb⟩
theorem keep6 {w W w1 : World} {p0 p1 p2 p3 p4 p5 : Addr} {c0 c1 c2 c3 c4 c5 : Value} (h : W.cell? p0 = some c0 ∧ W.cell? p1 = some c1 ∧ W.cell? p2 = some c2 ∧ W.cell? p3 = some c3 ∧ W.cell? p4 = some c4 ∧ W.cell? p5 = some c5 ∧ Boxed w W) (hb : Below W.heap.size W w1) :
    w1.cell? p0 = some c0 ∧ w1.cell? p1 = some c1 ∧ w1.cell? p2 = some c2 ∧ w1.cell? p3 = some c3 ∧ w1.cell? p4 = some c4 ∧ w1.cell? p5 = some c5 ∧ Boxed w w1 :=
  ⟨carry hb h.1, carry hb h.2.1, carry hb h.2.2.1, carry hb h.2.2.2.1, carry hb h.2.2.2.2.1, carry hb h.2.2.2.2.2.1, boxed_then h.2.2.2.2.2.2 hb⟩
theorem boxed_drew {w W : World} (h : Boxed w W) : Boxed w W.drew := ⟨h.1.drew, h.2⟩
theorem walk (a0 : Nat) (n0 : Int) (ha0 : a0 < 4294967296) (hn0 : I64 n0) (a1 : Nat) (n1 : Int) (ha1 : a1 < 4294967296) (hn1 : I64 n1) (a2 : Nat) (ha2 : a2 < 4294967296) (w : World) (hT : Tab w) :
    Calls Tryd.prog 3 #[.agg #[.int .u32 (a0 : Nat), .int .i64 n0], .agg #[.int .u32 (a1 : Nat), .int .i64 n1], .int .u32 (a2 : Nat)] w fun e w' => e = .returned (.bool true) ∧ Below w.heap.size w w' := by
  have HT := Lib.hid hT
  clear hT
  by_cases hr : 0 ≤ n1 ∧ n1 ≤ 32
  · obtain ⟨hr0, hr1⟩ := hr
    cases hv : cov a0 n0 a1 n1
    · go_enter Tryd.func3, Tryd.ntmps3
      go_wp2_with fail
      go_at_call 12
      refine (make_yes _ ha2 _ hr0 hr1 _).mono ?_
      rintro e w1 ⟨rfl, h1⟩
      have f0_1 : w1.cell? ⟨w.heap.size, 0, none⟩ = some (.int .u32 (a0 : Nat)) := carry h1 (by go_simp)
      have f1_1 : w1.cell? ⟨w.heap.size, 1, none⟩ = some (.int .i64 n0) := carry h1 (by go_simp)
      have f2_1 : w1.cell? ⟨w.heap.size + 1, 0, none⟩ = some (.int .u32 (a1 : Nat)) := carry h1 (by go_simp)
      have f3_1 : w1.cell? ⟨w.heap.size + 1, 1, none⟩ = some (.int .i64 n1) := carry h1 (by go_simp)
      have zp1 : w.heap.size < w1.heap.size := World.block_lt_of_cell? _ _ f0_1
      have zq1 : w.heap.size + 1 < w1.heap.size := World.block_lt_of_cell? _ _ f2_1
      have B1 := Lib.hid (below_then (below2 _ _ _) h1)
      clear h1
      go_wp2_with fail
      have HB1 : Boxed w (w1.alloc (Obj.cells #[Value.int IntKind.u32 (M.keepN a2 (M.lowN n1 32) : Nat), Value.int IntKind.i64 n1] 25)).drew := ⟨(below_then B1.out (below_alloc _ _)).drew, by simp; omega⟩
      go_region_held3 (fun w' => w'.cell? ⟨w.heap.size, 0, none⟩ = some (.int .u32 (a0 : Nat)) ∧ w'.cell? ⟨w.heap.size, 1, none⟩ = some (.int .i64 n0) ∧ w'.cell? ⟨w.heap.size + 1, 0, none⟩ = some (.int .u32 (a1 : Nat)) ∧ w'.cell? ⟨w.heap.size + 1, 1, none⟩ = some (.int .i64 n1) ∧ w'.cell? ⟨w1.heap.size, 0, none⟩ = some (.int .u32 (M.keepN a2 (M.lowN n1 32) : Nat)) ∧ w'.cell? ⟨w1.heap.size, 1, none⟩ = some (.int .i64 n1) ∧ Boxed w w')
        (first | exact ⟨akeep f0_1, akeep f1_1, akeep f2_1, akeep f3_1, by go_simp, by go_simp, HB1⟩ | go_keep)
        (first | (go_at_call 13; refine (rmake_any _ ha2 _ hn1 _).mono ?_; rintro e w2 ⟨rfl, hb⟩; have hk := keep6 ‹_› hb; clear hb))
      obtain ⟨f0_2, f1_2, f2_2, f3_2, _, _, HB⟩ := hk
      have B2 := Lib.hid HB.1
      clear HB HB1 f0_1 f1_1 f2_1 f3_1 zp1 zq1
      go_wp2_with fail
      go_at_call 14
      refine (rcovers_any _ (by omega) _ (by omega) _ (by omega) _ (by omega) _).mono ?_
      rintro e w3 ⟨rfl, h3⟩
      have f0_3 : w3.cell? ⟨w.heap.size, 0, none⟩ = some (.int .u32 (a0 : Nat)) := carry h3 (f0_2)
      have f1_3 : w3.cell? ⟨w.heap.size, 1, none⟩ = some (.int .i64 n0) := carry h3 (f1_2)
      have f2_3 : w3.cell? ⟨w.heap.size + 1, 0, none⟩ = some (.int .u32 (a1 : Nat)) := carry h3 (f2_2)
      have f3_3 : w3.cell? ⟨w.heap.size + 1, 1, none⟩ = some (.int .i64 n1) := carry h3 (f3_2)
      have B3 := Lib.hid (below_then B2.out h3)
      clear h3 f0_2 f1_2 f2_2 f3_2
      go_wp2_with fail
      go_at_call 14
      refine (rcovers_any _ (by omega) _ (by omega) _ (by omega) _ (by omega) _).mono ?_
      rintro e w4 ⟨rfl, h4⟩
      have f0_4 : w4.cell? ⟨w.heap.size, 0, none⟩ = some (.int .u32 (a0 : Nat)) := carry h4 (f0_3)
      have f1_4 : w4.cell? ⟨w.heap.size, 1, none⟩ = some (.int .i64 n0) := carry h4 (f1_3)
      have f2_4 : w4.cell? ⟨w.heap.size + 1, 0, none⟩ = some (.int .u32 (a1 : Nat)) := carry h4 (f2_3)
      have f3_4 : w4.cell? ⟨w.heap.size + 1, 1, none⟩ = some (.int .i64 n1) := carry h4 (f3_3)
      have B4 := Lib.hid (below_then B3.out h4)
      clear h4 f0_3 f1_3 f2_3 f3_3
      go_wp2_with fail
      have HBx : Boxed w w4.drew := ⟨B4.out.drew, Nat.lt_of_lt_of_le (World.block_lt_of_cell? _ _ f0_4) (Nat.le_refl _)⟩
      go_region_held3 (fun w' => w'.cell? ⟨w.heap.size, 0, none⟩ = some (.int .u32 (a0 : Nat)) ∧ w'.cell? ⟨w.heap.size, 1, none⟩ = some (.int .i64 n0) ∧ w'.cell? ⟨w.heap.size + 1, 0, none⟩ = some (.int .u32 (a1 : Nat)) ∧ w'.cell? ⟨w.heap.size + 1, 1, none⟩ = some (.int .i64 n1) ∧ Boxed w w')
        (first | exact ⟨f0_4, f1_4, f2_4, f3_4, HBx⟩ | go_keep)
        (first
          | (go_at_call 15; refine (valid_any _ ha0 _ hn0 _).mono ?_; rintro e w9 ⟨rfl, hb⟩; have hk := keep4 ‹_› hb; clear hb)
          | (go_at_call 16; refine (rvalid_any _ ha0 _ hn0 _).mono ?_; rintro e w9 ⟨rfl, hb⟩; have hk := keep4 ‹_› hb; clear hb)
          | (go_at_call 17; refine (contains_any _ ha0 _ hn0 _ ha2 _).mono ?_; rintro e w9 ⟨rfl, hb⟩; have hk := keep4 ‹_› hb; clear hb)
          | (go_at_call 18; refine (rcontains_any _ ha0 _ hn0 _ ha2 _).mono ?_; rintro e w9 ⟨rfl, hb⟩; have hk := keep4 ‹_› hb; clear hb)
          | (go_at_call 19; refine (covers_any _ ha0 _ hn0 _ ha1 _ hn1 _).mono ?_; rintro e w9 ⟨rfl, hb⟩; have hk := keep4 ‹_› hb; clear hb)
          | (go_at_call 14; refine (rcovers_any _ ha0 _ hn0 _ ha1 _ hn1 _).mono ?_; rintro e w9 ⟨rfl, hb⟩; have hk := keep4 ‹_› hb; clear hb)
          | (go_at_call 20; refine (overlap_any _ ha0 _ hn0 _ ha1 _ hn1 _).mono ?_; rintro e w9 ⟨rfl, hb⟩; have hk := keep4 ‹_› hb; clear hb)
          | (go_at_call 21; refine (lives_any _ (tab_below HT.out (And.left (And.right (And.right (And.right (And.right ‹_ ∧ _ ∧ _ ∧ _ ∧ Boxed w _›))))))).mono ?_; rintro e w9 ⟨rfl, hb⟩; have hk := keep4 ‹_› hb; clear hb))
      all_goals go_wp2
      all_goals go_ret
      all_goals exact ⟨rfl, by obtain ⟨_, _, _, _, hB⟩ := hk; exact hB.1⟩
    · go_enter Tryd.func3, Tryd.ntmps3
      go_wp2_with fail
      go_at_call 12
      refine (make_yes _ ha2 _ hr0 hr1 _).mono ?_
      rintro e w1 ⟨rfl, h1⟩
      have f0_1 : w1.cell? ⟨w.heap.size, 0, none⟩ = some (.int .u32 (a0 : Nat)) := carry h1 (by go_simp)
      have f1_1 : w1.cell? ⟨w.heap.size, 1, none⟩ = some (.int .i64 n0) := carry h1 (by go_simp)
      have f2_1 : w1.cell? ⟨w.heap.size + 1, 0, none⟩ = some (.int .u32 (a1 : Nat)) := carry h1 (by go_simp)
      have f3_1 : w1.cell? ⟨w.heap.size + 1, 1, none⟩ = some (.int .i64 n1) := carry h1 (by go_simp)
      have zp1 : w.heap.size < w1.heap.size := World.block_lt_of_cell? _ _ f0_1
      have zq1 : w.heap.size + 1 < w1.heap.size := World.block_lt_of_cell? _ _ f2_1
      have B1 := Lib.hid (below_then (below2 _ _ _) h1)
      clear h1
      go_wp2_with fail
      have HB1 : Boxed w (w1.alloc (Obj.cells #[Value.int IntKind.u32 (M.keepN a2 (M.lowN n1 32) : Nat), Value.int IntKind.i64 n1] 25)).drew := ⟨(below_then B1.out (below_alloc _ _)).drew, by simp; omega⟩
      go_region_held3 (fun w' => w'.cell? ⟨w.heap.size, 0, none⟩ = some (.int .u32 (a0 : Nat)) ∧ w'.cell? ⟨w.heap.size, 1, none⟩ = some (.int .i64 n0) ∧ w'.cell? ⟨w.heap.size + 1, 0, none⟩ = some (.int .u32 (a1 : Nat)) ∧ w'.cell? ⟨w.heap.size + 1, 1, none⟩ = some (.int .i64 n1) ∧ w'.cell? ⟨w1.heap.size, 0, none⟩ = some (.int .u32 (M.keepN a2 (M.lowN n1 32) : Nat)) ∧ w'.cell? ⟨w1.heap.size, 1, none⟩ = some (.int .i64 n1) ∧ Boxed w w')
        (first | exact ⟨akeep f0_1, akeep f1_1, akeep f2_1, akeep f3_1, by go_simp, by go_simp, HB1⟩ | go_keep)
        (first | (go_at_call 13; refine (rmake_any _ ha2 _ hn1 _).mono ?_; rintro e w2 ⟨rfl, hb⟩; have hk := keep6 ‹_› hb; clear hb))
      obtain ⟨f0_2, f1_2, f2_2, f3_2, _, _, HB⟩ := hk
      have B2 := Lib.hid HB.1
      clear HB HB1 f0_1 f1_1 f2_1 f3_1 zp1 zq1
      go_wp2_with fail
      go_at_call 14
      refine (rcovers_any _ (by omega) _ (by omega) _ (by omega) _ (by omega) _).mono ?_
      rintro e w3 ⟨rfl, h3⟩
      have f0_3 : w3.cell? ⟨w.heap.size, 0, none⟩ = some (.int .u32 (a0 : Nat)) := carry h3 (f0_2)
      have f1_3 : w3.cell? ⟨w.heap.size, 1, none⟩ = some (.int .i64 n0) := carry h3 (f1_2)
      have f2_3 : w3.cell? ⟨w.heap.size + 1, 0, none⟩ = some (.int .u32 (a1 : Nat)) := carry h3 (f2_2)
      have f3_3 : w3.cell? ⟨w.heap.size + 1, 1, none⟩ = some (.int .i64 n1) := carry h3 (f3_2)
      have B3 := Lib.hid (below_then B2.out h3)
      clear h3 f0_2 f1_2 f2_2 f3_2
      go_wp2_with fail
      have HBx : Boxed w w3.drew := ⟨B3.out.drew, Nat.lt_of_lt_of_le (World.block_lt_of_cell? _ _ f0_3) (Nat.le_refl _)⟩
      go_region_held3 (fun w' => w'.cell? ⟨w.heap.size, 0, none⟩ = some (.int .u32 (a0 : Nat)) ∧ w'.cell? ⟨w.heap.size, 1, none⟩ = some (.int .i64 n0) ∧ w'.cell? ⟨w.heap.size + 1, 0, none⟩ = some (.int .u32 (a1 : Nat)) ∧ w'.cell? ⟨w.heap.size + 1, 1, none⟩ = some (.int .i64 n1) ∧ Boxed w w')
        (first | exact ⟨f0_3, f1_3, f2_3, f3_3, HBx⟩ | go_keep)
        (first
          | (go_at_call 15; refine (valid_any _ ha0 _ hn0 _).mono ?_; rintro e w9 ⟨rfl, hb⟩; have hk := keep4 ‹_› hb; clear hb)
          | (go_at_call 16; refine (rvalid_any _ ha0 _ hn0 _).mono ?_; rintro e w9 ⟨rfl, hb⟩; have hk := keep4 ‹_› hb; clear hb)
          | (go_at_call 17; refine (contains_any _ ha0 _ hn0 _ ha2 _).mono ?_; rintro e w9 ⟨rfl, hb⟩; have hk := keep4 ‹_› hb; clear hb)
          | (go_at_call 18; refine (rcontains_any _ ha0 _ hn0 _ ha2 _).mono ?_; rintro e w9 ⟨rfl, hb⟩; have hk := keep4 ‹_› hb; clear hb)
          | (go_at_call 19; refine (covers_any _ ha0 _ hn0 _ ha1 _ hn1 _).mono ?_; rintro e w9 ⟨rfl, hb⟩; have hk := keep4 ‹_› hb; clear hb)
          | (go_at_call 14; refine (rcovers_any _ ha0 _ hn0 _ ha1 _ hn1 _).mono ?_; rintro e w9 ⟨rfl, hb⟩; have hk := keep4 ‹_› hb; clear hb)
          | (go_at_call 20; refine (overlap_any _ ha0 _ hn0 _ ha1 _ hn1 _).mono ?_; rintro e w9 ⟨rfl, hb⟩; have hk := keep4 ‹_› hb; clear hb)
          | (go_at_call 21; refine (lives_any _ (tab_below HT.out (And.left (And.right (And.right (And.right (And.right ‹_ ∧ _ ∧ _ ∧ _ ∧ Boxed w _›))))))).mono ?_; rintro e w9 ⟨rfl, hb⟩; have hk := keep4 ‹_› hb; clear hb))
      all_goals go_wp2
      all_goals go_ret
      all_goals exact ⟨rfl, by obtain ⟨_, _, _, _, hB⟩ := hk; exact hB.1⟩
  · have hr' : n1 < 0 ∨ 32 < n1 := by omega
    have hq : (decide (n1 < 0) || decide (32 < n1)) = true := by simp; omega
    have hr := Lib.hid hr'
    rcases hr' with hlo | hhi
    · have d1 : decide (n1 < 0) = true := decide_eq_true hlo
      clear hq
      cases hv : cov a0 n0 a1 n1
      · go_enter Tryd.func3, Tryd.ntmps3
        go_wp2_with fail
        go_at_call 12
        refine (make_no _ _ hr.out _).mono ?_
        rintro e w1 ⟨rfl, h1⟩
        have f0_1 : w1.cell? ⟨w.heap.size, 0, none⟩ = some (.int .u32 (a0 : Nat)) := carry h1 (by go_simp)
        have f1_1 : w1.cell? ⟨w.heap.size, 1, none⟩ = some (.int .i64 n0) := carry h1 (by go_simp)
        have f2_1 : w1.cell? ⟨w.heap.size + 1, 0, none⟩ = some (.int .u32 (a1 : Nat)) := carry h1 (by go_simp)
        have f3_1 : w1.cell? ⟨w.heap.size + 1, 1, none⟩ = some (.int .i64 n1) := carry h1 (by go_simp)
        have zp1 : w.heap.size < w1.heap.size := World.block_lt_of_cell? _ _ f0_1
        have zq1 : w.heap.size + 1 < w1.heap.size := World.block_lt_of_cell? _ _ f2_1
        have B1 := Lib.hid (below_then (below2 _ _ _) h1)
        clear h1
        go_wp2_with fail
        go_at_call 14
        refine (rcovers_any _ (by omega) _ (by omega) _ (by omega) _ (by omega) _).mono ?_
        rintro e w3 ⟨rfl, h3⟩
        have f0_3 : w3.cell? ⟨w.heap.size, 0, none⟩ = some (.int .u32 (a0 : Nat)) := carry h3 (akeep f0_1)
        have f1_3 : w3.cell? ⟨w.heap.size, 1, none⟩ = some (.int .i64 n0) := carry h3 (akeep f1_1)
        have f2_3 : w3.cell? ⟨w.heap.size + 1, 0, none⟩ = some (.int .u32 (a1 : Nat)) := carry h3 (akeep f2_1)
        have f3_3 : w3.cell? ⟨w.heap.size + 1, 1, none⟩ = some (.int .i64 n1) := carry h3 (akeep f3_1)
        have B3 := Lib.hid (below_then (below_then B1.out (below_alloc _ _)) h3)
        clear h3 f0_1 f1_1 f2_1 f3_1
        go_wp2_with fail
        go_at_call 14
        refine (rcovers_any _ (by omega) _ (by omega) _ (by omega) _ (by omega) _).mono ?_
        rintro e w4 ⟨rfl, h4⟩
        have f0_4 : w4.cell? ⟨w.heap.size, 0, none⟩ = some (.int .u32 (a0 : Nat)) := carry h4 (f0_3)
        have f1_4 : w4.cell? ⟨w.heap.size, 1, none⟩ = some (.int .i64 n0) := carry h4 (f1_3)
        have f2_4 : w4.cell? ⟨w.heap.size + 1, 0, none⟩ = some (.int .u32 (a1 : Nat)) := carry h4 (f2_3)
        have f3_4 : w4.cell? ⟨w.heap.size + 1, 1, none⟩ = some (.int .i64 n1) := carry h4 (f3_3)
        have B4 := Lib.hid (below_then B3.out h4)
        clear h4 f0_3 f1_3 f2_3 f3_3
        go_wp2_with fail
        have HBx : Boxed w w4.drew := ⟨B4.out.drew, Nat.lt_of_lt_of_le (World.block_lt_of_cell? _ _ f0_4) (Nat.le_refl _)⟩
        go_region_held3 (fun w' => w'.cell? ⟨w.heap.size, 0, none⟩ = some (.int .u32 (a0 : Nat)) ∧ w'.cell? ⟨w.heap.size, 1, none⟩ = some (.int .i64 n0) ∧ w'.cell? ⟨w.heap.size + 1, 0, none⟩ = some (.int .u32 (a1 : Nat)) ∧ w'.cell? ⟨w.heap.size + 1, 1, none⟩ = some (.int .i64 n1) ∧ Boxed w w')
          (first | exact ⟨f0_4, f1_4, f2_4, f3_4, HBx⟩ | go_keep)
          (first
            | (go_at_call 15; refine (valid_any _ ha0 _ hn0 _).mono ?_; rintro e w9 ⟨rfl, hb⟩; have hk := keep4 ‹_› hb; clear hb)
            | (go_at_call 16; refine (rvalid_any _ ha0 _ hn0 _).mono ?_; rintro e w9 ⟨rfl, hb⟩; have hk := keep4 ‹_› hb; clear hb)
            | (go_at_call 17; refine (contains_any _ ha0 _ hn0 _ ha2 _).mono ?_; rintro e w9 ⟨rfl, hb⟩; have hk := keep4 ‹_› hb; clear hb)
            | (go_at_call 18; refine (rcontains_any _ ha0 _ hn0 _ ha2 _).mono ?_; rintro e w9 ⟨rfl, hb⟩; have hk := keep4 ‹_› hb; clear hb)
            | (go_at_call 19; refine (covers_any _ ha0 _ hn0 _ ha1 _ hn1 _).mono ?_; rintro e w9 ⟨rfl, hb⟩; have hk := keep4 ‹_› hb; clear hb)
            | (go_at_call 14; refine (rcovers_any _ ha0 _ hn0 _ ha1 _ hn1 _).mono ?_; rintro e w9 ⟨rfl, hb⟩; have hk := keep4 ‹_› hb; clear hb)
            | (go_at_call 20; refine (overlap_any _ ha0 _ hn0 _ ha1 _ hn1 _).mono ?_; rintro e w9 ⟨rfl, hb⟩; have hk := keep4 ‹_› hb; clear hb)
            | (go_at_call 21; refine (lives_any _ (tab_below HT.out (And.left (And.right (And.right (And.right (And.right ‹_ ∧ _ ∧ _ ∧ _ ∧ Boxed w _›))))))).mono ?_; rintro e w9 ⟨rfl, hb⟩; have hk := keep4 ‹_› hb; clear hb))
        all_goals go_wp2
        all_goals go_ret
        all_goals exact ⟨rfl, by obtain ⟨_, _, _, _, hB⟩ := hk; exact hB.1⟩
      · go_enter Tryd.func3, Tryd.ntmps3
        go_wp2_with fail
        go_at_call 12
        refine (make_no _ _ hr.out _).mono ?_
        rintro e w1 ⟨rfl, h1⟩
        have f0_1 : w1.cell? ⟨w.heap.size, 0, none⟩ = some (.int .u32 (a0 : Nat)) := carry h1 (by go_simp)
        have f1_1 : w1.cell? ⟨w.heap.size, 1, none⟩ = some (.int .i64 n0) := carry h1 (by go_simp)
        have f2_1 : w1.cell? ⟨w.heap.size + 1, 0, none⟩ = some (.int .u32 (a1 : Nat)) := carry h1 (by go_simp)
        have f3_1 : w1.cell? ⟨w.heap.size + 1, 1, none⟩ = some (.int .i64 n1) := carry h1 (by go_simp)
        have zp1 : w.heap.size < w1.heap.size := World.block_lt_of_cell? _ _ f0_1
        have zq1 : w.heap.size + 1 < w1.heap.size := World.block_lt_of_cell? _ _ f2_1
        have B1 := Lib.hid (below_then (below2 _ _ _) h1)
        clear h1
        go_wp2_with fail
        go_at_call 14
        refine (rcovers_any _ (by omega) _ (by omega) _ (by omega) _ (by omega) _).mono ?_
        rintro e w3 ⟨rfl, h3⟩
        have f0_3 : w3.cell? ⟨w.heap.size, 0, none⟩ = some (.int .u32 (a0 : Nat)) := carry h3 (akeep f0_1)
        have f1_3 : w3.cell? ⟨w.heap.size, 1, none⟩ = some (.int .i64 n0) := carry h3 (akeep f1_1)
        have f2_3 : w3.cell? ⟨w.heap.size + 1, 0, none⟩ = some (.int .u32 (a1 : Nat)) := carry h3 (akeep f2_1)
        have f3_3 : w3.cell? ⟨w.heap.size + 1, 1, none⟩ = some (.int .i64 n1) := carry h3 (akeep f3_1)
        have B3 := Lib.hid (below_then (below_then B1.out (below_alloc _ _)) h3)
        clear h3 f0_1 f1_1 f2_1 f3_1
        go_wp2_with fail
        have HBx : Boxed w w3.drew := ⟨B3.out.drew, Nat.lt_of_lt_of_le (World.block_lt_of_cell? _ _ f0_3) (Nat.le_refl _)⟩
        go_region_held3 (fun w' => w'.cell? ⟨w.heap.size, 0, none⟩ = some (.int .u32 (a0 : Nat)) ∧ w'.cell? ⟨w.heap.size, 1, none⟩ = some (.int .i64 n0) ∧ w'.cell? ⟨w.heap.size + 1, 0, none⟩ = some (.int .u32 (a1 : Nat)) ∧ w'.cell? ⟨w.heap.size + 1, 1, none⟩ = some (.int .i64 n1) ∧ Boxed w w')
          (first | exact ⟨f0_3, f1_3, f2_3, f3_3, HBx⟩ | go_keep)
          (first
            | (go_at_call 15; refine (valid_any _ ha0 _ hn0 _).mono ?_; rintro e w9 ⟨rfl, hb⟩; have hk := keep4 ‹_› hb; clear hb)
            | (go_at_call 16; refine (rvalid_any _ ha0 _ hn0 _).mono ?_; rintro e w9 ⟨rfl, hb⟩; have hk := keep4 ‹_› hb; clear hb)
            | (go_at_call 17; refine (contains_any _ ha0 _ hn0 _ ha2 _).mono ?_; rintro e w9 ⟨rfl, hb⟩; have hk := keep4 ‹_› hb; clear hb)
            | (go_at_call 18; refine (rcontains_any _ ha0 _ hn0 _ ha2 _).mono ?_; rintro e w9 ⟨rfl, hb⟩; have hk := keep4 ‹_› hb; clear hb)
            | (go_at_call 19; refine (covers_any _ ha0 _ hn0 _ ha1 _ hn1 _).mono ?_; rintro e w9 ⟨rfl, hb⟩; have hk := keep4 ‹_› hb; clear hb)
            | (go_at_call 14; refine (rcovers_any _ ha0 _ hn0 _ ha1 _ hn1 _).mono ?_; rintro e w9 ⟨rfl, hb⟩; have hk := keep4 ‹_› hb; clear hb)
            | (go_at_call 20; refine (overlap_any _ ha0 _ hn0 _ ha1 _ hn1 _).mono ?_; rintro e w9 ⟨rfl, hb⟩; have hk := keep4 ‹_› hb; clear hb)
            | (go_at_call 21; refine (lives_any _ (tab_below HT.out (And.left (And.right (And.right (And.right (And.right ‹_ ∧ _ ∧ _ ∧ _ ∧ Boxed w _›))))))).mono ?_; rintro e w9 ⟨rfl, hb⟩; have hk := keep4 ‹_› hb; clear hb))
        all_goals go_wp2
        all_goals go_ret
        all_goals exact ⟨rfl, by obtain ⟨_, _, _, _, hB⟩ := hk; exact hB.1⟩
    · have d1 : decide (n1 < 0) = false := by simp; omega
      have d2 : decide (32 < n1) = true := decide_eq_true hhi
      clear hq
      cases hv : cov a0 n0 a1 n1
      · go_enter Tryd.func3, Tryd.ntmps3
        go_wp2_with fail
        go_at_call 12
        refine (make_no _ _ hr.out _).mono ?_
        rintro e w1 ⟨rfl, h1⟩
        have f0_1 : w1.cell? ⟨w.heap.size, 0, none⟩ = some (.int .u32 (a0 : Nat)) := carry h1 (by go_simp)
        have f1_1 : w1.cell? ⟨w.heap.size, 1, none⟩ = some (.int .i64 n0) := carry h1 (by go_simp)
        have f2_1 : w1.cell? ⟨w.heap.size + 1, 0, none⟩ = some (.int .u32 (a1 : Nat)) := carry h1 (by go_simp)
        have f3_1 : w1.cell? ⟨w.heap.size + 1, 1, none⟩ = some (.int .i64 n1) := carry h1 (by go_simp)
        have zp1 : w.heap.size < w1.heap.size := World.block_lt_of_cell? _ _ f0_1
        have zq1 : w.heap.size + 1 < w1.heap.size := World.block_lt_of_cell? _ _ f2_1
        have B1 := Lib.hid (below_then (below2 _ _ _) h1)
        clear h1
        go_wp2_with fail
        go_at_call 14
        refine (rcovers_any _ (by omega) _ (by omega) _ (by omega) _ (by omega) _).mono ?_
        rintro e w3 ⟨rfl, h3⟩
        have f0_3 : w3.cell? ⟨w.heap.size, 0, none⟩ = some (.int .u32 (a0 : Nat)) := carry h3 (akeep f0_1)
        have f1_3 : w3.cell? ⟨w.heap.size, 1, none⟩ = some (.int .i64 n0) := carry h3 (akeep f1_1)
        have f2_3 : w3.cell? ⟨w.heap.size + 1, 0, none⟩ = some (.int .u32 (a1 : Nat)) := carry h3 (akeep f2_1)
        have f3_3 : w3.cell? ⟨w.heap.size + 1, 1, none⟩ = some (.int .i64 n1) := carry h3 (akeep f3_1)
        have B3 := Lib.hid (below_then (below_then B1.out (below_alloc _ _)) h3)
        clear h3 f0_1 f1_1 f2_1 f3_1
        go_wp2_with fail
        go_at_call 14
        refine (rcovers_any _ (by omega) _ (by omega) _ (by omega) _ (by omega) _).mono ?_
        rintro e w4 ⟨rfl, h4⟩
        have f0_4 : w4.cell? ⟨w.heap.size, 0, none⟩ = some (.int .u32 (a0 : Nat)) := carry h4 (f0_3)
        have f1_4 : w4.cell? ⟨w.heap.size, 1, none⟩ = some (.int .i64 n0) := carry h4 (f1_3)
        have f2_4 : w4.cell? ⟨w.heap.size + 1, 0, none⟩ = some (.int .u32 (a1 : Nat)) := carry h4 (f2_3)
        have f3_4 : w4.cell? ⟨w.heap.size + 1, 1, none⟩ = some (.int .i64 n1) := carry h4 (f3_3)
        have B4 := Lib.hid (below_then B3.out h4)
        clear h4 f0_3 f1_3 f2_3 f3_3
        go_wp2_with fail
        have HBx : Boxed w w4.drew := ⟨B4.out.drew, Nat.lt_of_lt_of_le (World.block_lt_of_cell? _ _ f0_4) (Nat.le_refl _)⟩
        go_region_held3 (fun w' => w'.cell? ⟨w.heap.size, 0, none⟩ = some (.int .u32 (a0 : Nat)) ∧ w'.cell? ⟨w.heap.size, 1, none⟩ = some (.int .i64 n0) ∧ w'.cell? ⟨w.heap.size + 1, 0, none⟩ = some (.int .u32 (a1 : Nat)) ∧ w'.cell? ⟨w.heap.size + 1, 1, none⟩ = some (.int .i64 n1) ∧ Boxed w w')
          (first | exact ⟨f0_4, f1_4, f2_4, f3_4, HBx⟩ | go_keep)
          (first
            | (go_at_call 15; refine (valid_any _ ha0 _ hn0 _).mono ?_; rintro e w9 ⟨rfl, hb⟩; have hk := keep4 ‹_› hb; clear hb)
            | (go_at_call 16; refine (rvalid_any _ ha0 _ hn0 _).mono ?_; rintro e w9 ⟨rfl, hb⟩; have hk := keep4 ‹_› hb; clear hb)
            | (go_at_call 17; refine (contains_any _ ha0 _ hn0 _ ha2 _).mono ?_; rintro e w9 ⟨rfl, hb⟩; have hk := keep4 ‹_› hb; clear hb)
            | (go_at_call 18; refine (rcontains_any _ ha0 _ hn0 _ ha2 _).mono ?_; rintro e w9 ⟨rfl, hb⟩; have hk := keep4 ‹_› hb; clear hb)
            | (go_at_call 19; refine (covers_any _ ha0 _ hn0 _ ha1 _ hn1 _).mono ?_; rintro e w9 ⟨rfl, hb⟩; have hk := keep4 ‹_› hb; clear hb)
            | (go_at_call 14; refine (rcovers_any _ ha0 _ hn0 _ ha1 _ hn1 _).mono ?_; rintro e w9 ⟨rfl, hb⟩; have hk := keep4 ‹_› hb; clear hb)
            | (go_at_call 20; refine (overlap_any _ ha0 _ hn0 _ ha1 _ hn1 _).mono ?_; rintro e w9 ⟨rfl, hb⟩; have hk := keep4 ‹_› hb; clear hb)
            | (go_at_call 21; refine (lives_any _ (tab_below HT.out (And.left (And.right (And.right (And.right (And.right ‹_ ∧ _ ∧ _ ∧ _ ∧ Boxed w _›))))))).mono ?_; rintro e w9 ⟨rfl, hb⟩; have hk := keep4 ‹_› hb; clear hb))
        all_goals go_wp2
        all_goals go_ret
        all_goals exact ⟨rfl, by obtain ⟨_, _, _, _, hB⟩ := hk; exact hB.1⟩
      · go_enter Tryd.func3, Tryd.ntmps3
        go_wp2_with fail
        go_at_call 12
        refine (make_no _ _ hr.out _).mono ?_
        rintro e w1 ⟨rfl, h1⟩
        have f0_1 : w1.cell? ⟨w.heap.size, 0, none⟩ = some (.int .u32 (a0 : Nat)) := carry h1 (by go_simp)
        have f1_1 : w1.cell? ⟨w.heap.size, 1, none⟩ = some (.int .i64 n0) := carry h1 (by go_simp)
        have f2_1 : w1.cell? ⟨w.heap.size + 1, 0, none⟩ = some (.int .u32 (a1 : Nat)) := carry h1 (by go_simp)
        have f3_1 : w1.cell? ⟨w.heap.size + 1, 1, none⟩ = some (.int .i64 n1) := carry h1 (by go_simp)
        have zp1 : w.heap.size < w1.heap.size := World.block_lt_of_cell? _ _ f0_1
        have zq1 : w.heap.size + 1 < w1.heap.size := World.block_lt_of_cell? _ _ f2_1
        have B1 := Lib.hid (below_then (below2 _ _ _) h1)
        clear h1
        go_wp2_with fail
        go_at_call 14
        refine (rcovers_any _ (by omega) _ (by omega) _ (by omega) _ (by omega) _).mono ?_
        rintro e w3 ⟨rfl, h3⟩
        have f0_3 : w3.cell? ⟨w.heap.size, 0, none⟩ = some (.int .u32 (a0 : Nat)) := carry h3 (akeep f0_1)
        have f1_3 : w3.cell? ⟨w.heap.size, 1, none⟩ = some (.int .i64 n0) := carry h3 (akeep f1_1)
        have f2_3 : w3.cell? ⟨w.heap.size + 1, 0, none⟩ = some (.int .u32 (a1 : Nat)) := carry h3 (akeep f2_1)
        have f3_3 : w3.cell? ⟨w.heap.size + 1, 1, none⟩ = some (.int .i64 n1) := carry h3 (akeep f3_1)
        have B3 := Lib.hid (below_then (below_then B1.out (below_alloc _ _)) h3)
        clear h3 f0_1 f1_1 f2_1 f3_1
        go_wp2_with fail
        have HBx : Boxed w w3.drew := ⟨B3.out.drew, Nat.lt_of_lt_of_le (World.block_lt_of_cell? _ _ f0_3) (Nat.le_refl _)⟩
        go_region_held3 (fun w' => w'.cell? ⟨w.heap.size, 0, none⟩ = some (.int .u32 (a0 : Nat)) ∧ w'.cell? ⟨w.heap.size, 1, none⟩ = some (.int .i64 n0) ∧ w'.cell? ⟨w.heap.size + 1, 0, none⟩ = some (.int .u32 (a1 : Nat)) ∧ w'.cell? ⟨w.heap.size + 1, 1, none⟩ = some (.int .i64 n1) ∧ Boxed w w')
          (first | exact ⟨f0_3, f1_3, f2_3, f3_3, HBx⟩ | go_keep)
          (first
            | (go_at_call 15; refine (valid_any _ ha0 _ hn0 _).mono ?_; rintro e w9 ⟨rfl, hb⟩; have hk := keep4 ‹_› hb; clear hb)
            | (go_at_call 16; refine (rvalid_any _ ha0 _ hn0 _).mono ?_; rintro e w9 ⟨rfl, hb⟩; have hk := keep4 ‹_› hb; clear hb)
            | (go_at_call 17; refine (contains_any _ ha0 _ hn0 _ ha2 _).mono ?_; rintro e w9 ⟨rfl, hb⟩; have hk := keep4 ‹_› hb; clear hb)
            | (go_at_call 18; refine (rcontains_any _ ha0 _ hn0 _ ha2 _).mono ?_; rintro e w9 ⟨rfl, hb⟩; have hk := keep4 ‹_› hb; clear hb)
            | (go_at_call 19; refine (covers_any _ ha0 _ hn0 _ ha1 _ hn1 _).mono ?_; rintro e w9 ⟨rfl, hb⟩; have hk := keep4 ‹_› hb; clear hb)
            | (go_at_call 14; refine (rcovers_any _ ha0 _ hn0 _ ha1 _ hn1 _).mono ?_; rintro e w9 ⟨rfl, hb⟩; have hk := keep4 ‹_› hb; clear hb)
            | (go_at_call 20; refine (overlap_any _ ha0 _ hn0 _ ha1 _ hn1 _).mono ?_; rintro e w9 ⟨rfl, hb⟩; have hk := keep4 ‹_› hb; clear hb)
            | (go_at_call 21; refine (lives_any _ (tab_below HT.out (And.left (And.right (And.right (And.right (And.right ‹_ ∧ _ ∧ _ ∧ _ ∧ Boxed w _›))))))).mono ?_; rintro e w9 ⟨rfl, hb⟩; have hk := keep4 ‹_› hb; clear hb))
        all_goals go_wp2
        all_goals go_ret
        all_goals exact ⟨rfl, by obtain ⟨_, _, _, _, hB⟩ := hk; exact hB.1⟩
theorem contract (H : Type) (enc : TypeId × Value → H) (W : World) (base : Nat) (args : Array Value) (ds gs : List (DataW H)) (before : List MemPlace)
    (hval : ∀ (j : Nat) t v, Tryd.f3.params[j]? = some t → args[j]? = some v → Value.okWide Tryd.prog W .any base t v)
    (hW : DataW.Whole enc Tryd.prog Tryd.f3.params.toList Rows.prefixTellsSpec.vars false W args.toList ds gs before)
    (hsz : (DataW.weightsEach Tryd.prog (Tryd.f3.params.toList ++ (OpenSpec.ofChange Rows.prefixTellsSpec).bare.plain.varTypes Tryd.prog) (ds ++ gs)).all (· ≤ reachBytes) = true)
    (hL : laidMetH Tryd.prog Rows.prefixTellsRow.laid W) :
    Calls Tryd.prog 3 args W fun e W' => ∃ v, e = .returned v ∧ Rows.prefixTellsSpec.post enc Tryd.prog Tryd.f3 false true false false W args v W' := by
  have hT : Tab W := tab_of_laid hL
  have hW' := hW
  obtain ⟨p, q, hA0, hV, rfl, hfz, hnd⟩ := hW
  have hA : DataW.TrodAll enc Tryd.prog W 0 (fun _ => true) true Tryd.f3.params.toList args.toList ds p := hA0
  rw [Tryd.params3] at hA hval hsz
  obtain ⟨v0, vs0, d0, ds0, p0, q0, hargs, rfl, rfl, h0, r0⟩ := trodAll_cons hA
  obtain ⟨v1, vs1, d1, ds1, p1, q1, rfl, rfl, rfl, h1, r1⟩ := trodAll_cons r0
  obtain ⟨v2, vs2, d2, ds2, p2, q2, rfl, rfl, rfl, h2, r2⟩ := trodAll_cons r1
  obtain ⟨rfl, rfl, rfl⟩ := trodAll_nil r2
  obtain rfl : args = #[v0, v1, v2] := by cases args; simp_all
  obtain ⟨rfl, rfl⟩ := trodVars_none hV
  obtain ⟨a0, n0, rfl, rfl, rfl, ha0, hn0⟩ := open_prefix (hval 0 25 v0 rfl rfl) h0
  obtain ⟨a1, n1, rfl, rfl, rfl, ha1, hn1⟩ := open_prefix (hval 1 25 v1 rfl rfl) h1
  obtain ⟨a2, rfl, rfl, rfl, ha2⟩ := open_addr (hval 2 23 v2 rfl rfl) h2
  clear hA0
  simp only [List.append_nil] at hW'
  refine (walk a0 n0 ha0 hn0 a1 n1 ha1 hn1 a2 ha2 W hT).mono fun e W' ⟨he, hb⟩ => ?_
  subst he
  exact ⟨_, rfl, _, _, _, [], [], [], hW', (trodAll_cons_mk (shut_bool Tryd.underlying4 _) trodAll_mk0), (trodAll_cons_mk (shut_prefix ha0 hn0) (trodAll_cons_mk (shut_prefix ha1 hn1) (trodAll_cons_mk (shut_addr ha2) trodAll_mk0))), rfl, hb.frame _, fun h => by cases h⟩
theorem reads (os : Os) {H : Type} (enc : TypeId × Value → H) : ∃ places, DataW.whole enc Tryd.prog ((laidWorld os).forCall (fun _ _ => 0) ⟨#[], #[.agg #[.int .u32 0, .int .i64 0], .agg #[.int .u32 0, .int .i64 0], .int .u32 0], []⟩).memory Tryd.f3.params.toList Rows.prefixTellsSpec.vars false (#[.agg #[.int .u32 0, .int .i64 0], .agg #[.int .u32 0, .int .i64 0], .int .u32 0] : Array Value).toList 8 = some ([.agg [.lit (.int .u32 0), .lit (.int .i64 0)], .agg [.lit (.int .u32 0), .lit (.int .i64 0)], .lit (.int .u32 0)], [], places) :=
  ⟨[], by kernel_rfl⟩
theorem lifted (os : Os) (started : os.Started) (H : Type) (enc : TypeId × Value → H) (F : Stop.Interp) :
    ReturnsInHanded {} Tryd.checked os 3 .any ((OpenSpec.ofChange Rows.prefixTellsSpec).preRow enc Tryd.prog Tryd.f3 Rows.prefixTellsRow.domain false Rows.prefixTellsRow.laid) (((OpenSpec.ofChange Rows.prefixTellsSpec).at F).post enc Tryd.prog Tryd.f3 false true false false) := by
  obtain ⟨places, hx⟩ := reads os enc
  refine returnsInHanded_of_row (C := Tryd.checked) (s := OpenSpec.ofChange Rows.prefixTellsSpec) own started (by kernel_rfl) Tryd.func3
    (witness_row_at (enc := enc) (C := Tryd.checked) false (laidWorld os) #[.agg #[.int .u32 0, .int .i64 0], .agg #[.int .u32 0, .int .i64 0], .int .u32 0] rfl (by kernel_rfl) (by kernel_rfl) (by kernel_rfl)
      (OpenSpec.preRow_of_cond 8 hx (by kernel_rfl) (fun k hk => by cases hk) (by kernel_rfl) (laid_met os _))) ?_
  intro W base args ds gs before hval hW _ _ hsz hL _ _
  exact contract H enc W base args ds gs before hval hW hsz hL
theorem said : Rows.PrefixTellsSaid :=
  OpenClaim.holds_of_cond 3 Tryd.f3 rfl rfl rfl rfl rfl rfl rfl ⟨rfl, rfl, rfl, rfl, rfl⟩ rfl rfl rfl rfl rfl (by kernel_rfl) Tryd.func3 (by kernel_rfl)
    (of_decide_eq_true (by kernel_rfl)) (by unfold Func.isWrapper; first | (rw [if_pos (by decide +kernel)]; kernel_rfl) | (rw [if_neg (by decide +kernel)]; exact ⟨rfl, rfl⟩))
    (fun os started H enc _ F => by rw [OpenClaim.pre_eq_preRow]; exact lifted os started H enc F)
theorem plain (f : FuncId) (fn : Func) (hf : Tryd.pinned.checked.prog.funcNamed "routing/routinglaw02.PrefixTells" = some f) (hfn : Tryd.pinned.checked.prog.funcs[f]? = some fn) :
    false = Tryd.pinned.checked.prog.looks [] ∧ ∀ (j : Nat) t, fn.params[j]? = some t → Tryd.pinned.checked.prog.wantsStandIn t = false := by
  obtain rfl : f = 3 := Option.some.inj ((show Tryd.prog.funcNamed "routing/routinglaw02.PrefixTells" = some 3 by kernel_rfl).symm.trans hf) |>.symm
  obtain rfl : fn = Tryd.f3 := (Option.some.inj (Tryd.func3.symm.trans hfn)).symm
  refine ⟨by kernel_rfl, fun j t ht => ?_⟩
  rw [Tryd.params3] at ht
  have hm := Array.mem_of_getElem? ht
  have hall : ∀ t ∈ (#[25, 25, 23] : Array TypeId), Tryd.prog.wantsStandIn t = false := by
    intro t h
    simp at h
    rcases h with rfl | rfl <;> kernel_rfl
  exact hall t hm
theorem card : Rows.PrefixTellsCardSaid :=
  Claim7.holds_tied_plain_at .later [] _ _ _ _ said (fun _ h => by cases h) (by kernel_rfl) (fun _ h => by cases h) prefixTells_row_tie rfl ⟨rfl, rfl⟩ (by kernel_rfl) rfl plain (by kernel_rfl)
#print axioms card
end Go.Proofs.YtbcgfgklajdelaaDoor.prefixTells
