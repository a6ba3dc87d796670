/-
  Proved: for every three prefix values and every address the law PrefixNested returns true (prefixes that overlap cover each other in at least one direction, Covers is transitive, and the examples hold); the row lists three library tables, tied by the card; no other conditions.
-/
import Derived.Test.YtbcgfgklajdelaaDoorFrame
namespace Go.Proofs.YtbcgfgklajdelaaDoor.prefixNested
open Go.ChangeShapes Go.WideShapes Go.ChangeAt Go.RowKit
set_option linter.unusedSimpArgs false
set_option linter.unusedVariables false
set_option maxHeartbeats 4000000
set_option maxRecDepth 100000

theorem keep_keep (x n m : Nat) (h : m ≤ n) (hn : n ≤ 32) : M.keepN (M.keepN x n) m = M.keepN x m := by
  unfold M.keepN
  have e : 2 ^ (32 - m) = 2 ^ (32 - n) * 2 ^ (n - m) := by rw [← Nat.pow_add]; congr 1; omega
  have hp : 0 < 2 ^ (32 - n) := Nat.pow_pos (by omega)
  rw [e, ← Nat.div_div_eq_div_mul, ← Nat.div_div_eq_div_mul, Nat.mul_div_cancel _ hp]
theorem low_in {n : Int} (h0 : 0 ≤ n) (h1 : n ≤ 32) : M.lowN n 32 = n.toNat := by unfold M.lowN; omega
theorem con_parts {a : Nat} {n : Int} {x : Nat} (h : con a n x = true) : vld a n = true ∧ M.keepN x (M.lowN n 32) = a := by unfold con at h; simpa using h
theorem cov_parts {a : Nat} {n : Int} {b : Nat} {m : Int} (h : cov a n b m = true) : vld b m = true ∧ n ≤ m ∧ con a n b = true := by unfold cov at h; simpa using h
theorem cov_mk {a : Nat} {n : Int} {b : Nat} {m : Int} (h1 : vld b m = true) (h2 : n ≤ m) (h3 : con a n b = true) : cov a n b m = true := by unfold cov; simp [h1, h2, h3]
theorem con_mk {a : Nat} {n : Int} {x : Nat} (h1 : vld a n = true) (h2 : M.keepN x (M.lowN n 32) = a) : con a n x = true := by unfold con; simp [h1, h2]
theorem con_le {a b : Nat} {n m : Int} {x : Nat} (h1 : con a n x = true) (h2 : con b m x = true) (h : n ≤ m) : cov a n b m = true := by
  obtain ⟨v1, k1⟩ := con_parts h1
  obtain ⟨v2, k2⟩ := con_parts h2
  have i1 := vld_in v1
  have i2 := vld_in v2
  refine cov_mk v2 h (con_mk v1 ?_)
  rw [← k2, low_in i1.1 i1.2.1, low_in i2.1 i2.2.1, keep_keep x _ _ (by omega) (by omega), ← low_in i1.1 i1.2.1]; exact k1
theorem nested {a b : Nat} {n m : Int} {x : Nat} (h1 : con a n x = true) (h2 : con b m x = true) : cov a n b m = true ∨ cov b m a n = true := by
  rcases (by omega : n ≤ m ∨ m ≤ n) with h | h
  · exact .inl (con_le h1 h2 h)
  · exact .inr (con_le h2 h1 h)
theorem cov_trans {a b c : Nat} {n m k : Int} (h1 : cov a n b m = true) (h2 : cov b m c k = true) : cov a n c k = true := by
  obtain ⟨v1, l1, c1⟩ := cov_parts h1
  obtain ⟨v2, l2, c2⟩ := cov_parts h2
  obtain ⟨u1, k1⟩ := con_parts c1
  obtain ⟨u2, k2⟩ := con_parts c2
  have i1 := vld_in u1
  have i2 := vld_in u2
  refine cov_mk v2 (by omega) (con_mk u1 ?_)
  have := keep_keep c (M.lowN m 32) (M.lowN n 32) (by rw [low_in i1.1 i1.2.1, low_in i2.1 i2.2.1]; omega) (M.lowN_le _ _)
  rw [k2] at this
  rw [← this]; exact k1
theorem boxed2 (w : World) (o1 o2 : Obj) : Boxed w ((w.alloc o1).alloc o2) := ⟨below2 _ _ _, by simp; omega⟩
theorem boxed3 (w : World) (o1 o2 o3 : Obj) : Boxed w (((w.alloc o1).alloc o2).alloc o3) := ⟨below3 _ _ _ _, by simp; omega⟩
theorem keep4 {w W w1 : World} {p0 p1 p2 p3 : Addr} {c0 c1 c2 c3 : Value} (h : W.cell? p0 = some c0 ∧ W.cell? p1 = some c1 ∧ W.cell? p2 = some c2 ∧ W.cell? p3 = some c3 ∧ Boxed w W) (hb : Below W.heap.size W w1) :
    w1.cell? p0 = some c0 ∧ w1.cell? p1 = some c1 ∧ w1.cell? p2 = some c2 ∧ w1.cell? p3 = some c3 ∧ Boxed w w1 :=
  ⟨carry hb h.1, carry hb h.2.1, carry hb h.2.2.1, carry hb h.2.2.2.1, boxed_then h.2.2.2.2 hb⟩
theorem keep6 {w W w1 : World} {p0 p1 p2 p3 p4 p5 : Addr} {c0 c1 c2 c3 c4 c5 : Value} (h : W.cell? p0 = some c0 ∧ W.cell? p1 = some c1 ∧ W.cell? p2 = some c2 ∧ W.cell? p3 = some c3 ∧ W.cell? p4 = some c4 ∧ W.cell? p5 = some c5 ∧ Boxed w W) (hb : Below W.heap.size W w1) :
    w1.cell? p0 = some c0 ∧ w1.cell? p1 = some c1 ∧ w1.cell? p2 = some c2 ∧ w1.cell? p3 = some c3 ∧ w1.cell? p4 = some c4 ∧ w1.cell? p5 = some c5 ∧ Boxed w w1 :=
  ⟨carry hb h.1, carry hb h.2.1, carry hb h.2.2.1, carry hb h.2.2.2.1, carry hb h.2.2.2.2.1, carry hb h.2.2.2.2.2.1, boxed_then h.2.2.2.2.2.2 hb⟩
theorem walk (a0 : Nat) (n0 : Int) (ha0 : a0 < 4294967296) (hn0 : I64 n0) (a1 : Nat) (n1 : Int) (ha1 : a1 < 4294967296) (hn1 : I64 n1) (a2 : Nat) (n2 : Int) (ha2 : a2 < 4294967296) (hn2 : I64 n2) (a3 : Nat) (ha3 : a3 < 4294967296) (w : World) (hT : Tab w) :
    Calls Tryd.prog 10 #[.agg #[.int .u32 (a0 : Nat), .int .i64 n0], .agg #[.int .u32 (a1 : Nat), .int .i64 n1], .agg #[.int .u32 (a2 : Nat), .int .i64 n2], .int .u32 (a3 : Nat)] w fun e w' => e = .returned (.bool true) ∧ Below w.heap.size w w' := by
  have HT := Lib.hid hT
  clear hT
  cases h1 : con a0 n0 a3
  · cases g1 : cov a0 n0 a1 n1
    · go_enter Tryd.func10, Tryd.ntmps10
      go_wp2_with fail
      go_at_call 17
      refine (contains_any _ (by omega) _ (by omega) _ (by omega) _).mono ?_
      rintro e w1 ⟨rfl, h1⟩
      have f0_1 : w1.cell? ⟨w.heap.size, 0, none⟩ = some (.int .u32 (a0 : Nat)) := carry h1 (by go_simp)
      have f1_1 : w1.cell? ⟨w.heap.size, 1, none⟩ = some (.int .i64 n0) := carry h1 (by go_simp)
      have f2_1 : w1.cell? ⟨w.heap.size + 1, 0, none⟩ = some (.int .u32 (a1 : Nat)) := carry h1 (by go_simp)
      have f3_1 : w1.cell? ⟨w.heap.size + 1, 1, none⟩ = some (.int .i64 n1) := carry h1 (by go_simp)
      have f4_1 : w1.cell? ⟨w.heap.size + 1 + 1, 0, none⟩ = some (.int .u32 (a2 : Nat)) := carry h1 (by go_simp)
      have f5_1 : w1.cell? ⟨w.heap.size + 1 + 1, 1, none⟩ = some (.int .i64 n2) := carry h1 (by go_simp)
      have B1 := Lib.hid (below_then (below3 _ _ _ _) h1)
      clear h1
      go_wp2_with fail
      go_at_call 19
      refine (covers_any _ (by omega) _ (by omega) _ (by omega) _ (by omega) _).mono ?_
      rintro e w2 ⟨rfl, h2⟩
      have f0_2 : w2.cell? ⟨w.heap.size, 0, none⟩ = some (.int .u32 (a0 : Nat)) := carry h2 (f0_1)
      have f1_2 : w2.cell? ⟨w.heap.size, 1, none⟩ = some (.int .i64 n0) := carry h2 (f1_1)
      have f2_2 : w2.cell? ⟨w.heap.size + 1, 0, none⟩ = some (.int .u32 (a1 : Nat)) := carry h2 (f2_1)
      have f3_2 : w2.cell? ⟨w.heap.size + 1, 1, none⟩ = some (.int .i64 n1) := carry h2 (f3_1)
      have f4_2 : w2.cell? ⟨w.heap.size + 1 + 1, 0, none⟩ = some (.int .u32 (a2 : Nat)) := carry h2 (f4_1)
      have f5_2 : w2.cell? ⟨w.heap.size + 1 + 1, 1, none⟩ = some (.int .i64 n2) := carry h2 (f5_1)
      have B2 := Lib.hid (below_then B1.out h2)
      clear h2 f0_1 f1_1 f2_1 f3_1 f4_1 f5_1
      go_wp2_with fail
      go_at_call 21
      refine (lives_any _ (tab_below HT.out B2.out)).mono ?_
      rintro e w3 ⟨rfl, h3⟩
      have B3 := Lib.hid (below_then B2.out h3)
      go_wp2_with fail
      go_ret
      exact ⟨rfl, B3.out⟩
    · cases g3 : cov a1 n1 a2 n2
      · go_enter Tryd.func10, Tryd.ntmps10
        go_wp2_with fail
        go_at_call 17
        refine (contains_any _ (by omega) _ (by omega) _ (by omega) _).mono ?_
        rintro e w1 ⟨rfl, h1⟩
        have f0_1 : w1.cell? ⟨w.heap.size, 0, none⟩ = some (.int .u32 (a0 : Nat)) := carry h1 (by go_simp)
        have f1_1 : w1.cell? ⟨w.heap.size, 1, none⟩ = some (.int .i64 n0) := carry h1 (by go_simp)
        have f2_1 : w1.cell? ⟨w.heap.size + 1, 0, none⟩ = some (.int .u32 (a1 : Nat)) := carry h1 (by go_simp)
        have f3_1 : w1.cell? ⟨w.heap.size + 1, 1, none⟩ = some (.int .i64 n1) := carry h1 (by go_simp)
        have f4_1 : w1.cell? ⟨w.heap.size + 1 + 1, 0, none⟩ = some (.int .u32 (a2 : Nat)) := carry h1 (by go_simp)
        have f5_1 : w1.cell? ⟨w.heap.size + 1 + 1, 1, none⟩ = some (.int .i64 n2) := carry h1 (by go_simp)
        have B1 := Lib.hid (below_then (below3 _ _ _ _) h1)
        clear h1
        go_wp2_with fail
        go_at_call 19
        refine (covers_any _ (by omega) _ (by omega) _ (by omega) _ (by omega) _).mono ?_
        rintro e w2 ⟨rfl, h2⟩
        have f0_2 : w2.cell? ⟨w.heap.size, 0, none⟩ = some (.int .u32 (a0 : Nat)) := carry h2 (f0_1)
        have f1_2 : w2.cell? ⟨w.heap.size, 1, none⟩ = some (.int .i64 n0) := carry h2 (f1_1)
        have f2_2 : w2.cell? ⟨w.heap.size + 1, 0, none⟩ = some (.int .u32 (a1 : Nat)) := carry h2 (f2_1)
        have f3_2 : w2.cell? ⟨w.heap.size + 1, 1, none⟩ = some (.int .i64 n1) := carry h2 (f3_1)
        have f4_2 : w2.cell? ⟨w.heap.size + 1 + 1, 0, none⟩ = some (.int .u32 (a2 : Nat)) := carry h2 (f4_1)
        have f5_2 : w2.cell? ⟨w.heap.size + 1 + 1, 1, none⟩ = some (.int .i64 n2) := carry h2 (f5_1)
        have B2 := Lib.hid (below_then B1.out h2)
        clear h2 f0_1 f1_1 f2_1 f3_1 f4_1 f5_1
        go_wp2_with fail
        go_at_call 19
        refine (covers_any _ (by omega) _ (by omega) _ (by omega) _ (by omega) _).mono ?_
        rintro e w3 ⟨rfl, h3⟩
        have f0_3 : w3.cell? ⟨w.heap.size, 0, none⟩ = some (.int .u32 (a0 : Nat)) := carry h3 (f0_2)
        have f1_3 : w3.cell? ⟨w.heap.size, 1, none⟩ = some (.int .i64 n0) := carry h3 (f1_2)
        have f2_3 : w3.cell? ⟨w.heap.size + 1, 0, none⟩ = some (.int .u32 (a1 : Nat)) := carry h3 (f2_2)
        have f3_3 : w3.cell? ⟨w.heap.size + 1, 1, none⟩ = some (.int .i64 n1) := carry h3 (f3_2)
        have f4_3 : w3.cell? ⟨w.heap.size + 1 + 1, 0, none⟩ = some (.int .u32 (a2 : Nat)) := carry h3 (f4_2)
        have f5_3 : w3.cell? ⟨w.heap.size + 1 + 1, 1, none⟩ = some (.int .i64 n2) := carry h3 (f5_2)
        have B3 := Lib.hid (below_then B2.out h3)
        clear h3 f0_2 f1_2 f2_2 f3_2 f4_2 f5_2
        go_wp2_with fail
        go_at_call 21
        refine (lives_any _ (tab_below HT.out B3.out)).mono ?_
        rintro e w4 ⟨rfl, h4⟩
        have B4 := Lib.hid (below_then B3.out h4)
        go_wp2_with fail
        go_ret
        exact ⟨rfl, B4.out⟩
      · have g4 : cov a0 n0 a2 n2 = true := cov_trans g1 g3
        go_enter Tryd.func10, Tryd.ntmps10
        go_wp2_with fail
        go_at_call 17
        refine (contains_any _ (by omega) _ (by omega) _ (by omega) _).mono ?_
        rintro e w1 ⟨rfl, h1⟩
        have f0_1 : w1.cell? ⟨w.heap.size, 0, none⟩ = some (.int .u32 (a0 : Nat)) := carry h1 (by go_simp)
        have f1_1 : w1.cell? ⟨w.heap.size, 1, none⟩ = some (.int .i64 n0) := carry h1 (by go_simp)
        have f2_1 : w1.cell? ⟨w.heap.size + 1, 0, none⟩ = some (.int .u32 (a1 : Nat)) := carry h1 (by go_simp)
        have f3_1 : w1.cell? ⟨w.heap.size + 1, 1, none⟩ = some (.int .i64 n1) := carry h1 (by go_simp)
        have f4_1 : w1.cell? ⟨w.heap.size + 1 + 1, 0, none⟩ = some (.int .u32 (a2 : Nat)) := carry h1 (by go_simp)
        have f5_1 : w1.cell? ⟨w.heap.size + 1 + 1, 1, none⟩ = some (.int .i64 n2) := carry h1 (by go_simp)
        have B1 := Lib.hid (below_then (below3 _ _ _ _) h1)
        clear h1
        go_wp2_with fail
        go_at_call 19
        refine (covers_any _ (by omega) _ (by omega) _ (by omega) _ (by omega) _).mono ?_
        rintro e w2 ⟨rfl, h2⟩
        have f0_2 : w2.cell? ⟨w.heap.size, 0, none⟩ = some (.int .u32 (a0 : Nat)) := carry h2 (f0_1)
        have f1_2 : w2.cell? ⟨w.heap.size, 1, none⟩ = some (.int .i64 n0) := carry h2 (f1_1)
        have f2_2 : w2.cell? ⟨w.heap.size + 1, 0, none⟩ = some (.int .u32 (a1 : Nat)) := carry h2 (f2_1)
        have f3_2 : w2.cell? ⟨w.heap.size + 1, 1, none⟩ = some (.int .i64 n1) := carry h2 (f3_1)
        have f4_2 : w2.cell? ⟨w.heap.size + 1 + 1, 0, none⟩ = some (.int .u32 (a2 : Nat)) := carry h2 (f4_1)
        have f5_2 : w2.cell? ⟨w.heap.size + 1 + 1, 1, none⟩ = some (.int .i64 n2) := carry h2 (f5_1)
        have B2 := Lib.hid (below_then B1.out h2)
        clear h2 f0_1 f1_1 f2_1 f3_1 f4_1 f5_1
        go_wp2_with fail
        go_at_call 19
        refine (covers_any _ (by omega) _ (by omega) _ (by omega) _ (by omega) _).mono ?_
        rintro e w3 ⟨rfl, h3⟩
        have f0_3 : w3.cell? ⟨w.heap.size, 0, none⟩ = some (.int .u32 (a0 : Nat)) := carry h3 (f0_2)
        have f1_3 : w3.cell? ⟨w.heap.size, 1, none⟩ = some (.int .i64 n0) := carry h3 (f1_2)
        have f2_3 : w3.cell? ⟨w.heap.size + 1, 0, none⟩ = some (.int .u32 (a1 : Nat)) := carry h3 (f2_2)
        have f3_3 : w3.cell? ⟨w.heap.size + 1, 1, none⟩ = some (.int .i64 n1) := carry h3 (f3_2)
        have f4_3 : w3.cell? ⟨w.heap.size + 1 + 1, 0, none⟩ = some (.int .u32 (a2 : Nat)) := carry h3 (f4_2)
        have f5_3 : w3.cell? ⟨w.heap.size + 1 + 1, 1, none⟩ = some (.int .i64 n2) := carry h3 (f5_2)
        have B3 := Lib.hid (below_then B2.out h3)
        clear h3 f0_2 f1_2 f2_2 f3_2 f4_2 f5_2
        go_wp2_with fail
        go_at_call 19
        refine (covers_any _ (by omega) _ (by omega) _ (by omega) _ (by omega) _).mono ?_
        rintro e w4 ⟨rfl, h4⟩
        have f0_4 : w4.cell? ⟨w.heap.size, 0, none⟩ = some (.int .u32 (a0 : Nat)) := carry h4 (f0_3)
        have f1_4 : w4.cell? ⟨w.heap.size, 1, none⟩ = some (.int .i64 n0) := carry h4 (f1_3)
        have f2_4 : w4.cell? ⟨w.heap.size + 1, 0, none⟩ = some (.int .u32 (a1 : Nat)) := carry h4 (f2_3)
        have f3_4 : w4.cell? ⟨w.heap.size + 1, 1, none⟩ = some (.int .i64 n1) := carry h4 (f3_3)
        have f4_4 : w4.cell? ⟨w.heap.size + 1 + 1, 0, none⟩ = some (.int .u32 (a2 : Nat)) := carry h4 (f4_3)
        have f5_4 : w4.cell? ⟨w.heap.size + 1 + 1, 1, none⟩ = some (.int .i64 n2) := carry h4 (f5_3)
        have B4 := Lib.hid (below_then B3.out h4)
        clear h4 f0_3 f1_3 f2_3 f3_3 f4_3 f5_3
        go_wp2_with fail
        go_at_call 21
        refine (lives_any _ (tab_below HT.out B4.out)).mono ?_
        rintro e w5 ⟨rfl, h5⟩
        have B5 := Lib.hid (below_then B4.out h5)
        go_wp2_with fail
        go_ret
        exact ⟨rfl, B5.out⟩
  · cases h2 : con a1 n1 a3
    · cases g1 : cov a0 n0 a1 n1
      · go_enter Tryd.func10, Tryd.ntmps10
        go_wp2_with fail
        go_at_call 17
        refine (contains_any _ (by omega) _ (by omega) _ (by omega) _).mono ?_
        rintro e w1 ⟨rfl, h1⟩
        have f0_1 : w1.cell? ⟨w.heap.size, 0, none⟩ = some (.int .u32 (a0 : Nat)) := carry h1 (by go_simp)
        have f1_1 : w1.cell? ⟨w.heap.size, 1, none⟩ = some (.int .i64 n0) := carry h1 (by go_simp)
        have f2_1 : w1.cell? ⟨w.heap.size + 1, 0, none⟩ = some (.int .u32 (a1 : Nat)) := carry h1 (by go_simp)
        have f3_1 : w1.cell? ⟨w.heap.size + 1, 1, none⟩ = some (.int .i64 n1) := carry h1 (by go_simp)
        have f4_1 : w1.cell? ⟨w.heap.size + 1 + 1, 0, none⟩ = some (.int .u32 (a2 : Nat)) := carry h1 (by go_simp)
        have f5_1 : w1.cell? ⟨w.heap.size + 1 + 1, 1, none⟩ = some (.int .i64 n2) := carry h1 (by go_simp)
        have B1 := Lib.hid (below_then (below3 _ _ _ _) h1)
        clear h1
        go_wp2_with fail
        go_at_call 17
        refine (contains_any _ (by omega) _ (by omega) _ (by omega) _).mono ?_
        rintro e w2 ⟨rfl, h2⟩
        have f0_2 : w2.cell? ⟨w.heap.size, 0, none⟩ = some (.int .u32 (a0 : Nat)) := carry h2 (f0_1)
        have f1_2 : w2.cell? ⟨w.heap.size, 1, none⟩ = some (.int .i64 n0) := carry h2 (f1_1)
        have f2_2 : w2.cell? ⟨w.heap.size + 1, 0, none⟩ = some (.int .u32 (a1 : Nat)) := carry h2 (f2_1)
        have f3_2 : w2.cell? ⟨w.heap.size + 1, 1, none⟩ = some (.int .i64 n1) := carry h2 (f3_1)
        have f4_2 : w2.cell? ⟨w.heap.size + 1 + 1, 0, none⟩ = some (.int .u32 (a2 : Nat)) := carry h2 (f4_1)
        have f5_2 : w2.cell? ⟨w.heap.size + 1 + 1, 1, none⟩ = some (.int .i64 n2) := carry h2 (f5_1)
        have B2 := Lib.hid (below_then B1.out h2)
        clear h2 f0_1 f1_1 f2_1 f3_1 f4_1 f5_1
        go_wp2_with fail
        go_at_call 19
        refine (covers_any _ (by omega) _ (by omega) _ (by omega) _ (by omega) _).mono ?_
        rintro e w3 ⟨rfl, h3⟩
        have f0_3 : w3.cell? ⟨w.heap.size, 0, none⟩ = some (.int .u32 (a0 : Nat)) := carry h3 (f0_2)
        have f1_3 : w3.cell? ⟨w.heap.size, 1, none⟩ = some (.int .i64 n0) := carry h3 (f1_2)
        have f2_3 : w3.cell? ⟨w.heap.size + 1, 0, none⟩ = some (.int .u32 (a1 : Nat)) := carry h3 (f2_2)
        have f3_3 : w3.cell? ⟨w.heap.size + 1, 1, none⟩ = some (.int .i64 n1) := carry h3 (f3_2)
        have f4_3 : w3.cell? ⟨w.heap.size + 1 + 1, 0, none⟩ = some (.int .u32 (a2 : Nat)) := carry h3 (f4_2)
        have f5_3 : w3.cell? ⟨w.heap.size + 1 + 1, 1, none⟩ = some (.int .i64 n2) := carry h3 (f5_2)
        have B3 := Lib.hid (below_then B2.out h3)
        clear h3 f0_2 f1_2 f2_2 f3_2 f4_2 f5_2
        go_wp2_with fail
        go_at_call 21
        refine (lives_any _ (tab_below HT.out B3.out)).mono ?_
        rintro e w4 ⟨rfl, h4⟩
        have B4 := Lib.hid (below_then B3.out h4)
        go_wp2_with fail
        go_ret
        exact ⟨rfl, B4.out⟩
      · cases g3 : cov a1 n1 a2 n2
        · go_enter Tryd.func10, Tryd.ntmps10
          go_wp2_with fail
          go_at_call 17
          refine (contains_any _ (by omega) _ (by omega) _ (by omega) _).mono ?_
          rintro e w1 ⟨rfl, h1⟩
          have f0_1 : w1.cell? ⟨w.heap.size, 0, none⟩ = some (.int .u32 (a0 : Nat)) := carry h1 (by go_simp)
          have f1_1 : w1.cell? ⟨w.heap.size, 1, none⟩ = some (.int .i64 n0) := carry h1 (by go_simp)
          have f2_1 : w1.cell? ⟨w.heap.size + 1, 0, none⟩ = some (.int .u32 (a1 : Nat)) := carry h1 (by go_simp)
          have f3_1 : w1.cell? ⟨w.heap.size + 1, 1, none⟩ = some (.int .i64 n1) := carry h1 (by go_simp)
          have f4_1 : w1.cell? ⟨w.heap.size + 1 + 1, 0, none⟩ = some (.int .u32 (a2 : Nat)) := carry h1 (by go_simp)
          have f5_1 : w1.cell? ⟨w.heap.size + 1 + 1, 1, none⟩ = some (.int .i64 n2) := carry h1 (by go_simp)
          have B1 := Lib.hid (below_then (below3 _ _ _ _) h1)
          clear h1
          go_wp2_with fail
          go_at_call 17
          refine (contains_any _ (by omega) _ (by omega) _ (by omega) _).mono ?_
          rintro e w2 ⟨rfl, h2⟩
          have f0_2 : w2.cell? ⟨w.heap.size, 0, none⟩ = some (.int .u32 (a0 : Nat)) := carry h2 (f0_1)
          have f1_2 : w2.cell? ⟨w.heap.size, 1, none⟩ = some (.int .i64 n0) := carry h2 (f1_1)
          have f2_2 : w2.cell? ⟨w.heap.size + 1, 0, none⟩ = some (.int .u32 (a1 : Nat)) := carry h2 (f2_1)
          have f3_2 : w2.cell? ⟨w.heap.size + 1, 1, none⟩ = some (.int .i64 n1) := carry h2 (f3_1)
          have f4_2 : w2.cell? ⟨w.heap.size + 1 + 1, 0, none⟩ = some (.int .u32 (a2 : Nat)) := carry h2 (f4_1)
          have f5_2 : w2.cell? ⟨w.heap.size + 1 + 1, 1, none⟩ = some (.int .i64 n2) := carry h2 (f5_1)
          have B2 := Lib.hid (below_then B1.out h2)
          clear h2 f0_1 f1_1 f2_1 f3_1 f4_1 f5_1
          go_wp2_with fail
          go_at_call 19
          refine (covers_any _ (by omega) _ (by omega) _ (by omega) _ (by omega) _).mono ?_
          rintro e w3 ⟨rfl, h3⟩
          have f0_3 : w3.cell? ⟨w.heap.size, 0, none⟩ = some (.int .u32 (a0 : Nat)) := carry h3 (f0_2)
          have f1_3 : w3.cell? ⟨w.heap.size, 1, none⟩ = some (.int .i64 n0) := carry h3 (f1_2)
          have f2_3 : w3.cell? ⟨w.heap.size + 1, 0, none⟩ = some (.int .u32 (a1 : Nat)) := carry h3 (f2_2)
          have f3_3 : w3.cell? ⟨w.heap.size + 1, 1, none⟩ = some (.int .i64 n1) := carry h3 (f3_2)
          have f4_3 : w3.cell? ⟨w.heap.size + 1 + 1, 0, none⟩ = some (.int .u32 (a2 : Nat)) := carry h3 (f4_2)
          have f5_3 : w3.cell? ⟨w.heap.size + 1 + 1, 1, none⟩ = some (.int .i64 n2) := carry h3 (f5_2)
          have B3 := Lib.hid (below_then B2.out h3)
          clear h3 f0_2 f1_2 f2_2 f3_2 f4_2 f5_2
          go_wp2_with fail
          go_at_call 19
          refine (covers_any _ (by omega) _ (by omega) _ (by omega) _ (by omega) _).mono ?_
          rintro e w4 ⟨rfl, h4⟩
          have f0_4 : w4.cell? ⟨w.heap.size, 0, none⟩ = some (.int .u32 (a0 : Nat)) := carry h4 (f0_3)
          have f1_4 : w4.cell? ⟨w.heap.size, 1, none⟩ = some (.int .i64 n0) := carry h4 (f1_3)
          have f2_4 : w4.cell? ⟨w.heap.size + 1, 0, none⟩ = some (.int .u32 (a1 : Nat)) := carry h4 (f2_3)
          have f3_4 : w4.cell? ⟨w.heap.size + 1, 1, none⟩ = some (.int .i64 n1) := carry h4 (f3_3)
          have f4_4 : w4.cell? ⟨w.heap.size + 1 + 1, 0, none⟩ = some (.int .u32 (a2 : Nat)) := carry h4 (f4_3)
          have f5_4 : w4.cell? ⟨w.heap.size + 1 + 1, 1, none⟩ = some (.int .i64 n2) := carry h4 (f5_3)
          have B4 := Lib.hid (below_then B3.out h4)
          clear h4 f0_3 f1_3 f2_3 f3_3 f4_3 f5_3
          go_wp2_with fail
          go_at_call 21
          refine (lives_any _ (tab_below HT.out B4.out)).mono ?_
          rintro e w5 ⟨rfl, h5⟩
          have B5 := Lib.hid (below_then B4.out h5)
          go_wp2_with fail
          go_ret
          exact ⟨rfl, B5.out⟩
        · have g4 : cov a0 n0 a2 n2 = true := cov_trans g1 g3
          go_enter Tryd.func10, Tryd.ntmps10
          go_wp2_with fail
          go_at_call 17
          refine (contains_any _ (by omega) _ (by omega) _ (by omega) _).mono ?_
          rintro e w1 ⟨rfl, h1⟩
          have f0_1 : w1.cell? ⟨w.heap.size, 0, none⟩ = some (.int .u32 (a0 : Nat)) := carry h1 (by go_simp)
          have f1_1 : w1.cell? ⟨w.heap.size, 1, none⟩ = some (.int .i64 n0) := carry h1 (by go_simp)
          have f2_1 : w1.cell? ⟨w.heap.size + 1, 0, none⟩ = some (.int .u32 (a1 : Nat)) := carry h1 (by go_simp)
          have f3_1 : w1.cell? ⟨w.heap.size + 1, 1, none⟩ = some (.int .i64 n1) := carry h1 (by go_simp)
          have f4_1 : w1.cell? ⟨w.heap.size + 1 + 1, 0, none⟩ = some (.int .u32 (a2 : Nat)) := carry h1 (by go_simp)
          have f5_1 : w1.cell? ⟨w.heap.size + 1 + 1, 1, none⟩ = some (.int .i64 n2) := carry h1 (by go_simp)
          have B1 := Lib.hid (below_then (below3 _ _ _ _) h1)
          clear h1
          go_wp2_with fail
          go_at_call 17
          refine (contains_any _ (by omega) _ (by omega) _ (by omega) _).mono ?_
          rintro e w2 ⟨rfl, h2⟩
          have f0_2 : w2.cell? ⟨w.heap.size, 0, none⟩ = some (.int .u32 (a0 : Nat)) := carry h2 (f0_1)
          have f1_2 : w2.cell? ⟨w.heap.size, 1, none⟩ = some (.int .i64 n0) := carry h2 (f1_1)
          have f2_2 : w2.cell? ⟨w.heap.size + 1, 0, none⟩ = some (.int .u32 (a1 : Nat)) := carry h2 (f2_1)
          have f3_2 : w2.cell? ⟨w.heap.size + 1, 1, none⟩ = some (.int .i64 n1) := carry h2 (f3_1)
          have f4_2 : w2.cell? ⟨w.heap.size + 1 + 1, 0, none⟩ = some (.int .u32 (a2 : Nat)) := carry h2 (f4_1)
          have f5_2 : w2.cell? ⟨w.heap.size + 1 + 1, 1, none⟩ = some (.int .i64 n2) := carry h2 (f5_1)
          have B2 := Lib.hid (below_then B1.out h2)
          clear h2 f0_1 f1_1 f2_1 f3_1 f4_1 f5_1
          go_wp2_with fail
          go_at_call 19
          refine (covers_any _ (by omega) _ (by omega) _ (by omega) _ (by omega) _).mono ?_
          rintro e w3 ⟨rfl, h3⟩
          have f0_3 : w3.cell? ⟨w.heap.size, 0, none⟩ = some (.int .u32 (a0 : Nat)) := carry h3 (f0_2)
          have f1_3 : w3.cell? ⟨w.heap.size, 1, none⟩ = some (.int .i64 n0) := carry h3 (f1_2)
          have f2_3 : w3.cell? ⟨w.heap.size + 1, 0, none⟩ = some (.int .u32 (a1 : Nat)) := carry h3 (f2_2)
          have f3_3 : w3.cell? ⟨w.heap.size + 1, 1, none⟩ = some (.int .i64 n1) := carry h3 (f3_2)
          have f4_3 : w3.cell? ⟨w.heap.size + 1 + 1, 0, none⟩ = some (.int .u32 (a2 : Nat)) := carry h3 (f4_2)
          have f5_3 : w3.cell? ⟨w.heap.size + 1 + 1, 1, none⟩ = some (.int .i64 n2) := carry h3 (f5_2)
          have B3 := Lib.hid (below_then B2.out h3)
          clear h3 f0_2 f1_2 f2_2 f3_2 f4_2 f5_2
          go_wp2_with fail
          go_at_call 19
          refine (covers_any _ (by omega) _ (by omega) _ (by omega) _ (by omega) _).mono ?_
          rintro e w4 ⟨rfl, h4⟩
          have f0_4 : w4.cell? ⟨w.heap.size, 0, none⟩ = some (.int .u32 (a0 : Nat)) := carry h4 (f0_3)
          have f1_4 : w4.cell? ⟨w.heap.size, 1, none⟩ = some (.int .i64 n0) := carry h4 (f1_3)
          have f2_4 : w4.cell? ⟨w.heap.size + 1, 0, none⟩ = some (.int .u32 (a1 : Nat)) := carry h4 (f2_3)
          have f3_4 : w4.cell? ⟨w.heap.size + 1, 1, none⟩ = some (.int .i64 n1) := carry h4 (f3_3)
          have f4_4 : w4.cell? ⟨w.heap.size + 1 + 1, 0, none⟩ = some (.int .u32 (a2 : Nat)) := carry h4 (f4_3)
          have f5_4 : w4.cell? ⟨w.heap.size + 1 + 1, 1, none⟩ = some (.int .i64 n2) := carry h4 (f5_3)
          have B4 := Lib.hid (below_then B3.out h4)
          clear h4 f0_3 f1_3 f2_3 f3_3 f4_3 f5_3
          go_wp2_with fail
          go_at_call 19
          refine (covers_any _ (by omega) _ (by omega) _ (by omega) _ (by omega) _).mono ?_
          rintro e w5 ⟨rfl, h5⟩
          have f0_5 : w5.cell? ⟨w.heap.size, 0, none⟩ = some (.int .u32 (a0 : Nat)) := carry h5 (f0_4)
          have f1_5 : w5.cell? ⟨w.heap.size, 1, none⟩ = some (.int .i64 n0) := carry h5 (f1_4)
          have f2_5 : w5.cell? ⟨w.heap.size + 1, 0, none⟩ = some (.int .u32 (a1 : Nat)) := carry h5 (f2_4)
          have f3_5 : w5.cell? ⟨w.heap.size + 1, 1, none⟩ = some (.int .i64 n1) := carry h5 (f3_4)
          have f4_5 : w5.cell? ⟨w.heap.size + 1 + 1, 0, none⟩ = some (.int .u32 (a2 : Nat)) := carry h5 (f4_4)
          have f5_5 : w5.cell? ⟨w.heap.size + 1 + 1, 1, none⟩ = some (.int .i64 n2) := carry h5 (f5_4)
          have B5 := Lib.hid (below_then B4.out h5)
          clear h5 f0_4 f1_4 f2_4 f3_4 f4_4 f5_4
          go_wp2_with fail
          go_at_call 21
          refine (lives_any _ (tab_below HT.out B5.out)).mono ?_
          rintro e w6 ⟨rfl, h6⟩
          have B6 := Lib.hid (below_then B5.out h6)
          go_wp2_with fail
          go_ret
          exact ⟨rfl, B6.out⟩
    · cases g1 : cov a0 n0 a1 n1
      · have g2 : cov a1 n1 a0 n0 = true := by
          rcases nested h1 h2 with h | h
          · rw [g1] at h; cases h
          · exact h
        go_enter Tryd.func10, Tryd.ntmps10
        go_wp2_with fail
        go_at_call 17
        refine (contains_any _ (by omega) _ (by omega) _ (by omega) _).mono ?_
        rintro e w1 ⟨rfl, h1⟩
        have f0_1 : w1.cell? ⟨w.heap.size, 0, none⟩ = some (.int .u32 (a0 : Nat)) := carry h1 (by go_simp)
        have f1_1 : w1.cell? ⟨w.heap.size, 1, none⟩ = some (.int .i64 n0) := carry h1 (by go_simp)
        have f2_1 : w1.cell? ⟨w.heap.size + 1, 0, none⟩ = some (.int .u32 (a1 : Nat)) := carry h1 (by go_simp)
        have f3_1 : w1.cell? ⟨w.heap.size + 1, 1, none⟩ = some (.int .i64 n1) := carry h1 (by go_simp)
        have f4_1 : w1.cell? ⟨w.heap.size + 1 + 1, 0, none⟩ = some (.int .u32 (a2 : Nat)) := carry h1 (by go_simp)
        have f5_1 : w1.cell? ⟨w.heap.size + 1 + 1, 1, none⟩ = some (.int .i64 n2) := carry h1 (by go_simp)
        have B1 := Lib.hid (below_then (below3 _ _ _ _) h1)
        clear h1
        go_wp2_with fail
        go_at_call 17
        refine (contains_any _ (by omega) _ (by omega) _ (by omega) _).mono ?_
        rintro e w2 ⟨rfl, h2⟩
        have f0_2 : w2.cell? ⟨w.heap.size, 0, none⟩ = some (.int .u32 (a0 : Nat)) := carry h2 (f0_1)
        have f1_2 : w2.cell? ⟨w.heap.size, 1, none⟩ = some (.int .i64 n0) := carry h2 (f1_1)
        have f2_2 : w2.cell? ⟨w.heap.size + 1, 0, none⟩ = some (.int .u32 (a1 : Nat)) := carry h2 (f2_1)
        have f3_2 : w2.cell? ⟨w.heap.size + 1, 1, none⟩ = some (.int .i64 n1) := carry h2 (f3_1)
        have f4_2 : w2.cell? ⟨w.heap.size + 1 + 1, 0, none⟩ = some (.int .u32 (a2 : Nat)) := carry h2 (f4_1)
        have f5_2 : w2.cell? ⟨w.heap.size + 1 + 1, 1, none⟩ = some (.int .i64 n2) := carry h2 (f5_1)
        have B2 := Lib.hid (below_then B1.out h2)
        clear h2 f0_1 f1_1 f2_1 f3_1 f4_1 f5_1
        go_wp2_with fail
        go_at_call 19
        refine (covers_any _ (by omega) _ (by omega) _ (by omega) _ (by omega) _).mono ?_
        rintro e w3 ⟨rfl, h3⟩
        have f0_3 : w3.cell? ⟨w.heap.size, 0, none⟩ = some (.int .u32 (a0 : Nat)) := carry h3 (f0_2)
        have f1_3 : w3.cell? ⟨w.heap.size, 1, none⟩ = some (.int .i64 n0) := carry h3 (f1_2)
        have f2_3 : w3.cell? ⟨w.heap.size + 1, 0, none⟩ = some (.int .u32 (a1 : Nat)) := carry h3 (f2_2)
        have f3_3 : w3.cell? ⟨w.heap.size + 1, 1, none⟩ = some (.int .i64 n1) := carry h3 (f3_2)
        have f4_3 : w3.cell? ⟨w.heap.size + 1 + 1, 0, none⟩ = some (.int .u32 (a2 : Nat)) := carry h3 (f4_2)
        have f5_3 : w3.cell? ⟨w.heap.size + 1 + 1, 1, none⟩ = some (.int .i64 n2) := carry h3 (f5_2)
        have B3 := Lib.hid (below_then B2.out h3)
        clear h3 f0_2 f1_2 f2_2 f3_2 f4_2 f5_2
        go_wp2_with fail
        go_at_call 19
        refine (covers_any _ (by omega) _ (by omega) _ (by omega) _ (by omega) _).mono ?_
        rintro e w4 ⟨rfl, h4⟩
        have f0_4 : w4.cell? ⟨w.heap.size, 0, none⟩ = some (.int .u32 (a0 : Nat)) := carry h4 (f0_3)
        have f1_4 : w4.cell? ⟨w.heap.size, 1, none⟩ = some (.int .i64 n0) := carry h4 (f1_3)
        have f2_4 : w4.cell? ⟨w.heap.size + 1, 0, none⟩ = some (.int .u32 (a1 : Nat)) := carry h4 (f2_3)
        have f3_4 : w4.cell? ⟨w.heap.size + 1, 1, none⟩ = some (.int .i64 n1) := carry h4 (f3_3)
        have f4_4 : w4.cell? ⟨w.heap.size + 1 + 1, 0, none⟩ = some (.int .u32 (a2 : Nat)) := carry h4 (f4_3)
        have f5_4 : w4.cell? ⟨w.heap.size + 1 + 1, 1, none⟩ = some (.int .i64 n2) := carry h4 (f5_3)
        have B4 := Lib.hid (below_then B3.out h4)
        clear h4 f0_3 f1_3 f2_3 f3_3 f4_3 f5_3
        go_wp2_with fail
        go_at_call 19
        refine (covers_any _ (by omega) _ (by omega) _ (by omega) _ (by omega) _).mono ?_
        rintro e w5 ⟨rfl, h5⟩
        have f0_5 : w5.cell? ⟨w.heap.size, 0, none⟩ = some (.int .u32 (a0 : Nat)) := carry h5 (f0_4)
        have f1_5 : w5.cell? ⟨w.heap.size, 1, none⟩ = some (.int .i64 n0) := carry h5 (f1_4)
        have f2_5 : w5.cell? ⟨w.heap.size + 1, 0, none⟩ = some (.int .u32 (a1 : Nat)) := carry h5 (f2_4)
        have f3_5 : w5.cell? ⟨w.heap.size + 1, 1, none⟩ = some (.int .i64 n1) := carry h5 (f3_4)
        have f4_5 : w5.cell? ⟨w.heap.size + 1 + 1, 0, none⟩ = some (.int .u32 (a2 : Nat)) := carry h5 (f4_4)
        have f5_5 : w5.cell? ⟨w.heap.size + 1 + 1, 1, none⟩ = some (.int .i64 n2) := carry h5 (f5_4)
        have B5 := Lib.hid (below_then B4.out h5)
        clear h5 f0_4 f1_4 f2_4 f3_4 f4_4 f5_4
        go_wp2_with fail
        go_at_call 21
        refine (lives_any _ (tab_below HT.out B5.out)).mono ?_
        rintro e w6 ⟨rfl, h6⟩
        have B6 := Lib.hid (below_then B5.out h6)
        go_wp2_with fail
        go_ret
        exact ⟨rfl, B6.out⟩
      · cases g3 : cov a1 n1 a2 n2
        · go_enter Tryd.func10, Tryd.ntmps10
          go_wp2_with fail
          go_at_call 17
          refine (contains_any _ (by omega) _ (by omega) _ (by omega) _).mono ?_
          rintro e w1 ⟨rfl, h1⟩
          have f0_1 : w1.cell? ⟨w.heap.size, 0, none⟩ = some (.int .u32 (a0 : Nat)) := carry h1 (by go_simp)
          have f1_1 : w1.cell? ⟨w.heap.size, 1, none⟩ = some (.int .i64 n0) := carry h1 (by go_simp)
          have f2_1 : w1.cell? ⟨w.heap.size + 1, 0, none⟩ = some (.int .u32 (a1 : Nat)) := carry h1 (by go_simp)
          have f3_1 : w1.cell? ⟨w.heap.size + 1, 1, none⟩ = some (.int .i64 n1) := carry h1 (by go_simp)
          have f4_1 : w1.cell? ⟨w.heap.size + 1 + 1, 0, none⟩ = some (.int .u32 (a2 : Nat)) := carry h1 (by go_simp)
          have f5_1 : w1.cell? ⟨w.heap.size + 1 + 1, 1, none⟩ = some (.int .i64 n2) := carry h1 (by go_simp)
          have B1 := Lib.hid (below_then (below3 _ _ _ _) h1)
          clear h1
          go_wp2_with fail
          go_at_call 17
          refine (contains_any _ (by omega) _ (by omega) _ (by omega) _).mono ?_
          rintro e w2 ⟨rfl, h2⟩
          have f0_2 : w2.cell? ⟨w.heap.size, 0, none⟩ = some (.int .u32 (a0 : Nat)) := carry h2 (f0_1)
          have f1_2 : w2.cell? ⟨w.heap.size, 1, none⟩ = some (.int .i64 n0) := carry h2 (f1_1)
          have f2_2 : w2.cell? ⟨w.heap.size + 1, 0, none⟩ = some (.int .u32 (a1 : Nat)) := carry h2 (f2_1)
          have f3_2 : w2.cell? ⟨w.heap.size + 1, 1, none⟩ = some (.int .i64 n1) := carry h2 (f3_1)
          have f4_2 : w2.cell? ⟨w.heap.size + 1 + 1, 0, none⟩ = some (.int .u32 (a2 : Nat)) := carry h2 (f4_1)
          have f5_2 : w2.cell? ⟨w.heap.size + 1 + 1, 1, none⟩ = some (.int .i64 n2) := carry h2 (f5_1)
          have B2 := Lib.hid (below_then B1.out h2)
          clear h2 f0_1 f1_1 f2_1 f3_1 f4_1 f5_1
          go_wp2_with fail
          go_at_call 19
          refine (covers_any _ (by omega) _ (by omega) _ (by omega) _ (by omega) _).mono ?_
          rintro e w3 ⟨rfl, h3⟩
          have f0_3 : w3.cell? ⟨w.heap.size, 0, none⟩ = some (.int .u32 (a0 : Nat)) := carry h3 (f0_2)
          have f1_3 : w3.cell? ⟨w.heap.size, 1, none⟩ = some (.int .i64 n0) := carry h3 (f1_2)
          have f2_3 : w3.cell? ⟨w.heap.size + 1, 0, none⟩ = some (.int .u32 (a1 : Nat)) := carry h3 (f2_2)
          have f3_3 : w3.cell? ⟨w.heap.size + 1, 1, none⟩ = some (.int .i64 n1) := carry h3 (f3_2)
          have f4_3 : w3.cell? ⟨w.heap.size + 1 + 1, 0, none⟩ = some (.int .u32 (a2 : Nat)) := carry h3 (f4_2)
          have f5_3 : w3.cell? ⟨w.heap.size + 1 + 1, 1, none⟩ = some (.int .i64 n2) := carry h3 (f5_2)
          have B3 := Lib.hid (below_then B2.out h3)
          clear h3 f0_2 f1_2 f2_2 f3_2 f4_2 f5_2
          go_wp2_with fail
          go_at_call 19
          refine (covers_any _ (by omega) _ (by omega) _ (by omega) _ (by omega) _).mono ?_
          rintro e w4 ⟨rfl, h4⟩
          have f0_4 : w4.cell? ⟨w.heap.size, 0, none⟩ = some (.int .u32 (a0 : Nat)) := carry h4 (f0_3)
          have f1_4 : w4.cell? ⟨w.heap.size, 1, none⟩ = some (.int .i64 n0) := carry h4 (f1_3)
          have f2_4 : w4.cell? ⟨w.heap.size + 1, 0, none⟩ = some (.int .u32 (a1 : Nat)) := carry h4 (f2_3)
          have f3_4 : w4.cell? ⟨w.heap.size + 1, 1, none⟩ = some (.int .i64 n1) := carry h4 (f3_3)
          have f4_4 : w4.cell? ⟨w.heap.size + 1 + 1, 0, none⟩ = some (.int .u32 (a2 : Nat)) := carry h4 (f4_3)
          have f5_4 : w4.cell? ⟨w.heap.size + 1 + 1, 1, none⟩ = some (.int .i64 n2) := carry h4 (f5_3)
          have B4 := Lib.hid (below_then B3.out h4)
          clear h4 f0_3 f1_3 f2_3 f3_3 f4_3 f5_3
          go_wp2_with fail
          go_at_call 19
          refine (covers_any _ (by omega) _ (by omega) _ (by omega) _ (by omega) _).mono ?_
          rintro e w5 ⟨rfl, h5⟩
          have f0_5 : w5.cell? ⟨w.heap.size, 0, none⟩ = some (.int .u32 (a0 : Nat)) := carry h5 (f0_4)
          have f1_5 : w5.cell? ⟨w.heap.size, 1, none⟩ = some (.int .i64 n0) := carry h5 (f1_4)
          have f2_5 : w5.cell? ⟨w.heap.size + 1, 0, none⟩ = some (.int .u32 (a1 : Nat)) := carry h5 (f2_4)
          have f3_5 : w5.cell? ⟨w.heap.size + 1, 1, none⟩ = some (.int .i64 n1) := carry h5 (f3_4)
          have f4_5 : w5.cell? ⟨w.heap.size + 1 + 1, 0, none⟩ = some (.int .u32 (a2 : Nat)) := carry h5 (f4_4)
          have f5_5 : w5.cell? ⟨w.heap.size + 1 + 1, 1, none⟩ = some (.int .i64 n2) := carry h5 (f5_4)
          have B5 := Lib.hid (below_then B4.out h5)
          clear h5 f0_4 f1_4 f2_4 f3_4 f4_4 f5_4
          go_wp2_with fail
          go_at_call 21
          refine (lives_any _ (tab_below HT.out B5.out)).mono ?_
          rintro e w6 ⟨rfl, h6⟩
          have B6 := Lib.hid (below_then B5.out h6)
          go_wp2_with fail
          go_ret
          exact ⟨rfl, B6.out⟩
        · have g4 : cov a0 n0 a2 n2 = true := cov_trans g1 g3
          go_enter Tryd.func10, Tryd.ntmps10
          go_wp2_with fail
          go_at_call 17
          refine (contains_any _ (by omega) _ (by omega) _ (by omega) _).mono ?_
          rintro e w1 ⟨rfl, h1⟩
          have f0_1 : w1.cell? ⟨w.heap.size, 0, none⟩ = some (.int .u32 (a0 : Nat)) := carry h1 (by go_simp)
          have f1_1 : w1.cell? ⟨w.heap.size, 1, none⟩ = some (.int .i64 n0) := carry h1 (by go_simp)
          have f2_1 : w1.cell? ⟨w.heap.size + 1, 0, none⟩ = some (.int .u32 (a1 : Nat)) := carry h1 (by go_simp)
          have f3_1 : w1.cell? ⟨w.heap.size + 1, 1, none⟩ = some (.int .i64 n1) := carry h1 (by go_simp)
          have f4_1 : w1.cell? ⟨w.heap.size + 1 + 1, 0, none⟩ = some (.int .u32 (a2 : Nat)) := carry h1 (by go_simp)
          have f5_1 : w1.cell? ⟨w.heap.size + 1 + 1, 1, none⟩ = some (.int .i64 n2) := carry h1 (by go_simp)
          have B1 := Lib.hid (below_then (below3 _ _ _ _) h1)
          clear h1
          go_wp2_with fail
          go_at_call 17
          refine (contains_any _ (by omega) _ (by omega) _ (by omega) _).mono ?_
          rintro e w2 ⟨rfl, h2⟩
          have f0_2 : w2.cell? ⟨w.heap.size, 0, none⟩ = some (.int .u32 (a0 : Nat)) := carry h2 (f0_1)
          have f1_2 : w2.cell? ⟨w.heap.size, 1, none⟩ = some (.int .i64 n0) := carry h2 (f1_1)
          have f2_2 : w2.cell? ⟨w.heap.size + 1, 0, none⟩ = some (.int .u32 (a1 : Nat)) := carry h2 (f2_1)
          have f3_2 : w2.cell? ⟨w.heap.size + 1, 1, none⟩ = some (.int .i64 n1) := carry h2 (f3_1)
          have f4_2 : w2.cell? ⟨w.heap.size + 1 + 1, 0, none⟩ = some (.int .u32 (a2 : Nat)) := carry h2 (f4_1)
          have f5_2 : w2.cell? ⟨w.heap.size + 1 + 1, 1, none⟩ = some (.int .i64 n2) := carry h2 (f5_1)
          have B2 := Lib.hid (below_then B1.out h2)
          clear h2 f0_1 f1_1 f2_1 f3_1 f4_1 f5_1
          go_wp2_with fail
          go_at_call 19
          refine (covers_any _ (by omega) _ (by omega) _ (by omega) _ (by omega) _).mono ?_
          rintro e w3 ⟨rfl, h3⟩
          have f0_3 : w3.cell? ⟨w.heap.size, 0, none⟩ = some (.int .u32 (a0 : Nat)) := carry h3 (f0_2)
          have f1_3 : w3.cell? ⟨w.heap.size, 1, none⟩ = some (.int .i64 n0) := carry h3 (f1_2)
          have f2_3 : w3.cell? ⟨w.heap.size + 1, 0, none⟩ = some (.int .u32 (a1 : Nat)) := carry h3 (f2_2)
          have f3_3 : w3.cell? ⟨w.heap.size + 1, 1, none⟩ = some (.int .i64 n1) := carry h3 (f3_2)
          have f4_3 : w3.cell? ⟨w.heap.size + 1 + 1, 0, none⟩ = some (.int .u32 (a2 : Nat)) := carry h3 (f4_2)
          have f5_3 : w3.cell? ⟨w.heap.size + 1 + 1, 1, none⟩ = some (.int .i64 n2) := carry h3 (f5_2)
          have B3 := Lib.hid (below_then B2.out h3)
          clear h3 f0_2 f1_2 f2_2 f3_2 f4_2 f5_2
          go_wp2_with fail
          go_at_call 19
          refine (covers_any _ (by omega) _ (by omega) _ (by omega) _ (by omega) _).mono ?_
          rintro e w4 ⟨rfl, h4⟩
          have f0_4 : w4.cell? ⟨w.heap.size, 0, none⟩ = some (.int .u32 (a0 : Nat)) := carry h4 (f0_3)
          have f1_4 : w4.cell? ⟨w.heap.size, 1, none⟩ = some (.int .i64 n0) := carry h4 (f1_3)
          have f2_4 : w4.cell? ⟨w.heap.size + 1, 0, none⟩ = some (.int .u32 (a1 : Nat)) := carry h4 (f2_3)
          have f3_4 : w4.cell? ⟨w.heap.size + 1, 1, none⟩ = some (.int .i64 n1) := carry h4 (f3_3)
          have f4_4 : w4.cell? ⟨w.heap.size + 1 + 1, 0, none⟩ = some (.int .u32 (a2 : Nat)) := carry h4 (f4_3)
          have f5_4 : w4.cell? ⟨w.heap.size + 1 + 1, 1, none⟩ = some (.int .i64 n2) := carry h4 (f5_3)
          have B4 := Lib.hid (below_then B3.out h4)
          clear h4 f0_3 f1_3 f2_3 f3_3 f4_3 f5_3
          go_wp2_with fail
          go_at_call 19
          refine (covers_any _ (by omega) _ (by omega) _ (by omega) _ (by omega) _).mono ?_
          rintro e w5 ⟨rfl, h5⟩
          have f0_5 : w5.cell? ⟨w.heap.size, 0, none⟩ = some (.int .u32 (a0 : Nat)) := carry h5 (f0_4)
          have f1_5 : w5.cell? ⟨w.heap.size, 1, none⟩ = some (.int .i64 n0) := carry h5 (f1_4)
          have f2_5 : w5.cell? ⟨w.heap.size + 1, 0, none⟩ = some (.int .u32 (a1 : Nat)) := carry h5 (f2_4)
          have f3_5 : w5.cell? ⟨w.heap.size + 1, 1, none⟩ = some (.int .i64 n1) := carry h5 (f3_4)
          have f4_5 : w5.cell? ⟨w.heap.size + 1 + 1, 0, none⟩ = some (.int .u32 (a2 : Nat)) := carry h5 (f4_4)
          have f5_5 : w5.cell? ⟨w.heap.size + 1 + 1, 1, none⟩ = some (.int .i64 n2) := carry h5 (f5_4)
          have B5 := Lib.hid (below_then B4.out h5)
          clear h5 f0_4 f1_4 f2_4 f3_4 f4_4 f5_4
          go_wp2_with fail
          go_at_call 19
          refine (covers_any _ (by omega) _ (by omega) _ (by omega) _ (by omega) _).mono ?_
          rintro e w6 ⟨rfl, h6⟩
          have f0_6 : w6.cell? ⟨w.heap.size, 0, none⟩ = some (.int .u32 (a0 : Nat)) := carry h6 (f0_5)
          have f1_6 : w6.cell? ⟨w.heap.size, 1, none⟩ = some (.int .i64 n0) := carry h6 (f1_5)
          have f2_6 : w6.cell? ⟨w.heap.size + 1, 0, none⟩ = some (.int .u32 (a1 : Nat)) := carry h6 (f2_5)
          have f3_6 : w6.cell? ⟨w.heap.size + 1, 1, none⟩ = some (.int .i64 n1) := carry h6 (f3_5)
          have f4_6 : w6.cell? ⟨w.heap.size + 1 + 1, 0, none⟩ = some (.int .u32 (a2 : Nat)) := carry h6 (f4_5)
          have f5_6 : w6.cell? ⟨w.heap.size + 1 + 1, 1, none⟩ = some (.int .i64 n2) := carry h6 (f5_5)
          have B6 := Lib.hid (below_then B5.out h6)
          clear h6 f0_5 f1_5 f2_5 f3_5 f4_5 f5_5
          go_wp2_with fail
          go_at_call 21
          refine (lives_any _ (tab_below HT.out B6.out)).mono ?_
          rintro e w7 ⟨rfl, h7⟩
          have B7 := Lib.hid (below_then B6.out h7)
          go_wp2_with fail
          go_ret
          exact ⟨rfl, B7.out⟩
theorem contract (H : Type) (enc : TypeId × Value → H) (W : World) (base : Nat) (args : Array Value) (ds gs : List (DataW H)) (before : List MemPlace)
    (hval : ∀ (j : Nat) t v, Tryd.f10.params[j]? = some t → args[j]? = some v → Value.okWide Tryd.prog W .any base t v)
    (hW : DataW.Whole enc Tryd.prog Tryd.f10.params.toList Rows.prefixNestedSpec.vars false W args.toList ds gs before)
    (hsz : (DataW.weightsEach Tryd.prog (Tryd.f10.params.toList ++ (OpenSpec.ofChange Rows.prefixNestedSpec).bare.plain.varTypes Tryd.prog) (ds ++ gs)).all (· ≤ reachBytes) = true)
    (hL : laidMetH Tryd.prog Rows.prefixNestedRow.laid W) :
    Calls Tryd.prog 10 args W fun e W' => ∃ v, e = .returned v ∧ Rows.prefixNestedSpec.post enc Tryd.prog Tryd.f10 false true false false W args v W' := by
  have hT : Tab W := tab_of_laid hL
  have hW' := hW
  obtain ⟨p, q, hA0, hV, rfl, hfz, hnd⟩ := hW
  have hA : DataW.TrodAll enc Tryd.prog W 0 (fun _ => true) true Tryd.f10.params.toList args.toList ds p := hA0
  rw [Tryd.params10] at hA hval hsz
  obtain ⟨v0, vs0, d0, ds0, p0, q0, hargs, rfl, rfl, h0, r0⟩ := trodAll_cons hA
  obtain ⟨v1, vs1, d1, ds1, p1, q1, rfl, rfl, rfl, h1, r1⟩ := trodAll_cons r0
  obtain ⟨v2, vs2, d2, ds2, p2, q2, rfl, rfl, rfl, h2, r2⟩ := trodAll_cons r1
  obtain ⟨v3, vs3, d3, ds3, p3, q3, rfl, rfl, rfl, h3, r3⟩ := trodAll_cons r2
  obtain ⟨rfl, rfl, rfl⟩ := trodAll_nil r3
  obtain rfl : args = #[v0, v1, v2, v3] := by cases args; simp_all
  obtain ⟨rfl, rfl⟩ := trodVars_none hV
  obtain ⟨a0, n0, rfl, rfl, rfl, ha0, hn0⟩ := open_prefix (hval 0 25 v0 rfl rfl) h0
  obtain ⟨a1, n1, rfl, rfl, rfl, ha1, hn1⟩ := open_prefix (hval 1 25 v1 rfl rfl) h1
  obtain ⟨a2, n2, rfl, rfl, rfl, ha2, hn2⟩ := open_prefix (hval 2 25 v2 rfl rfl) h2
  obtain ⟨a3, rfl, rfl, rfl, ha3⟩ := open_addr (hval 3 23 v3 rfl rfl) h3
  clear hA0
  simp only [List.append_nil] at hW'
  refine (walk a0 n0 ha0 hn0 a1 n1 ha1 hn1 a2 n2 ha2 hn2 a3 ha3 W hT).mono fun e W' ⟨he, hb⟩ => ?_
  subst he
  exact ⟨_, rfl, _, _, _, [], [], [], hW', (trodAll_cons_mk (shut_bool Tryd.underlying4 _) trodAll_mk0), (trodAll_cons_mk (shut_prefix ha0 hn0) (trodAll_cons_mk (shut_prefix ha1 hn1) (trodAll_cons_mk (shut_prefix ha2 hn2) (trodAll_cons_mk (shut_addr ha3) trodAll_mk0)))), rfl, hb.frame _, fun h => by cases h⟩
theorem reads (os : Os) {H : Type} (enc : TypeId × Value → H) : ∃ places, DataW.whole enc Tryd.prog ((laidWorld os).forCall (fun _ _ => 0) ⟨#[], #[.agg #[.int .u32 0, .int .i64 0], .agg #[.int .u32 0, .int .i64 0], .agg #[.int .u32 0, .int .i64 0], .int .u32 0], []⟩).memory Tryd.f10.params.toList Rows.prefixNestedSpec.vars false (#[.agg #[.int .u32 0, .int .i64 0], .agg #[.int .u32 0, .int .i64 0], .agg #[.int .u32 0, .int .i64 0], .int .u32 0] : Array Value).toList 8 = some ([.agg [.lit (.int .u32 0), .lit (.int .i64 0)], .agg [.lit (.int .u32 0), .lit (.int .i64 0)], .agg [.lit (.int .u32 0), .lit (.int .i64 0)], .lit (.int .u32 0)], [], places) :=
  ⟨[], by kernel_rfl⟩
theorem lifted (os : Os) (started : os.Started) (H : Type) (enc : TypeId × Value → H) (F : Stop.Interp) :
    ReturnsInHanded {} Tryd.checked os 10 .any ((OpenSpec.ofChange Rows.prefixNestedSpec).preRow enc Tryd.prog Tryd.f10 Rows.prefixNestedRow.domain false Rows.prefixNestedRow.laid) (((OpenSpec.ofChange Rows.prefixNestedSpec).at F).post enc Tryd.prog Tryd.f10 false true false false) := by
  obtain ⟨places, hx⟩ := reads os enc
  refine returnsInHanded_of_row (C := Tryd.checked) (s := OpenSpec.ofChange Rows.prefixNestedSpec) own started (by kernel_rfl) Tryd.func10
    (witness_row_at (enc := enc) (C := Tryd.checked) false (laidWorld os) #[.agg #[.int .u32 0, .int .i64 0], .agg #[.int .u32 0, .int .i64 0], .agg #[.int .u32 0, .int .i64 0], .int .u32 0] rfl (by kernel_rfl) (by kernel_rfl) (by kernel_rfl)
      (OpenSpec.preRow_of_cond 8 hx (by kernel_rfl) (fun k hk => by cases hk) (by kernel_rfl) (laid_met os _))) ?_
  intro W base args ds gs before hval hW _ _ hsz hL _ _
  exact contract H enc W base args ds gs before hval hW hsz hL
theorem said : Rows.PrefixNestedSaid :=
  OpenClaim.holds_of_cond 10 Tryd.f10 rfl rfl rfl rfl rfl rfl rfl ⟨rfl, rfl, rfl, rfl, rfl⟩ rfl rfl rfl rfl rfl (by kernel_rfl) Tryd.func10 (by kernel_rfl)
    (of_decide_eq_true (by kernel_rfl)) (by unfold Func.isWrapper; first | (rw [if_pos (by decide +kernel)]; kernel_rfl) | (rw [if_neg (by decide +kernel)]; exact ⟨rfl, rfl⟩))
    (fun os started H enc _ F => by rw [OpenClaim.pre_eq_preRow]; exact lifted os started H enc F)
theorem plain (f : FuncId) (fn : Func) (hf : Tryd.pinned.checked.prog.funcNamed "routing/routinglaw02.PrefixNested" = some f) (hfn : Tryd.pinned.checked.prog.funcs[f]? = some fn) :
    false = Tryd.pinned.checked.prog.looks [] ∧ ∀ (j : Nat) t, fn.params[j]? = some t → Tryd.pinned.checked.prog.wantsStandIn t = false := by
  obtain rfl : f = 10 := Option.some.inj ((show Tryd.prog.funcNamed "routing/routinglaw02.PrefixNested" = some 10 by kernel_rfl).symm.trans hf) |>.symm
  obtain rfl : fn = Tryd.f10 := (Option.some.inj (Tryd.func10.symm.trans hfn)).symm
  refine ⟨by kernel_rfl, fun j t ht => ?_⟩
  rw [Tryd.params10] at ht
  have hm := Array.mem_of_getElem? ht
  have hall : ∀ t ∈ (#[25, 25, 25, 23] : Array TypeId), Tryd.prog.wantsStandIn t = false := by
    intro t h
    simp at h
    rcases h with rfl | rfl <;> kernel_rfl
  exact hall t hm
theorem card : Rows.PrefixNestedCardSaid :=
  Claim7.holds_tied_plain_at .later [] _ _ _ _ said (fun _ h => by cases h) (by kernel_rfl) (fun _ h => by cases h) prefixNested_row_tie rfl ⟨rfl, rfl⟩ (by kernel_rfl) rfl plain (by kernel_rfl)
#print axioms card
end Go.Proofs.YtbcgfgklajdelaaDoor.prefixNested
