/-
  Proved: for every three prefix values the law PrefixOrders returns true (Compare returns what the reference returns, and is antisymmetric and transitive, and the examples hold); the row lists three library tables, tied by the card; no other conditions.
-/
import Derived.Test.YtbcgfgklajdelaaDoorFrame
import Derived.Test.YtbcgfgklajdelaaDoorWalkF
namespace Go.Proofs.YtbcgfgklajdelaaDoor.prefixOrders
open Go.ChangeShapes Go.WideShapes Go.ChangeAt Go.RowKit
set_option linter.unusedSimpArgs false
set_option linter.unusedVariables false
set_option maxHeartbeats 4000000
set_option maxRecDepth 100000

theorem boxed2 (w : World) (o1 o2 : Obj) : Boxed w ((w.alloc o1).alloc o2) := ⟨below2 _ _ _, by simp; omega⟩
theorem boxed3 (w : World) (o1 o2 o3 : Obj) : Boxed w (((w.alloc o1).alloc o2).alloc o3) := ⟨below3 _ _ _ _, by simp; omega⟩
theorem keep4 {w W w1 : World} {p0 p1 p2 p3 : Addr} {c0 c1 c2 c3 : Value} (h : W.cell? p0 = some c0 ∧ W.cell? p1 = some c1 ∧ W.cell? p2 = some c2 ∧ W.cell? p3 = some c3 ∧ Boxed w W) (hb : Below W.heap.size W w1) :
    w1.cell? p0 = some c0 ∧ w1.cell? p1 = some c1 ∧ w1.cell? p2 = some c2 ∧ w1.cell? p3 = some c3 ∧ Boxed w w1 :=
  ⟨carry hb h.1, carry hb h.2.1, carry hb h.2.2.1, carry hb h.2.2.2.1, boxed_then h.2.2.2.2 hb⟩
theorem keep6 {w W w1 : World} {p0 p1 p2 p3 p4 p5 : Addr} {c0 c1 c2 c3 c4 c5 : Value} (h : W.cell? p0 = some c0 ∧ W.cell? p1 = some c1 ∧ W.cell? p2 = some c2 ∧ W.cell? p3 = some c3 ∧ W.cell? p4 = some c4 ∧ W.cell? p5 = some c5 ∧ Boxed w W) (hb : Below W.heap.size W w1) :
    w1.cell? p0 = some c0 ∧ w1.cell? p1 = some c1 ∧ w1.cell? p2 = some c2 ∧ w1.cell? p3 = some c3 ∧ w1.cell? p4 = some c4 ∧ w1.cell? p5 = some c5 ∧ Boxed w w1 :=
  ⟨carry hb h.1, carry hb h.2.1, carry hb h.2.2.1, carry hb h.2.2.2.1, carry hb h.2.2.2.2.1, carry hb h.2.2.2.2.2.1, boxed_then h.2.2.2.2.2.2 hb⟩
theorem cmp_le (a : Nat) (n : Int) (b : Nat) (m : Int) : cmpP a n b m ≤ 0 ↔ a < b ∨ (a = b ∧ n ≤ m) := by
  rcases (by omega : a < b ∨ b < a ∨ a = b) with h | h | h
  · rw [cmpP_lt h]; omega
  · rw [cmpP_gt h]; omega
  · subst h
    rw [cmpP_eq]
    rcases (by omega : n < m ∨ m < n ∨ n = m) with h | h | h
    · rw [cmpI_lt h]; omega
    · rw [cmpI_gt h]; omega
    · subst h; rw [cmpI_eq]; omega
theorem cmp_vals (a : Nat) (n : Int) (b : Nat) (m : Int) : cmpP a n b m = -1 ∨ cmpP a n b m = 0 ∨ cmpP a n b m = 1 := by
  rcases (by omega : a < b ∨ b < a ∨ a = b) with h | h | h
  · rw [cmpP_lt h]; omega
  · rw [cmpP_gt h]; omega
  · subst h
    rw [cmpP_eq]
    rcases (by omega : n < m ∨ m < n ∨ n = m) with h | h | h
    · rw [cmpI_lt h]; omega
    · rw [cmpI_gt h]; omega
    · subst h; rw [cmpI_eq]; omega
theorem cmp_trans {a b c : Nat} {n m k : Int} (h1 : cmpP a n b m ≤ 0) (h2 : cmpP b m c k ≤ 0) : cmpP a n c k ≤ 0 := by
  rw [cmp_le] at *; omega
theorem cmp_cases (a : Nat) (n : Int) (b : Nat) (m : Int) :
    (cmpP a n b m = -1 ∧ cmpP b m a n = 1 ∧ (((a : Int) == (b : Int)) = false ∨ (a = b ∧ (n == m) = false))) ∨
    (cmpP a n b m = 1 ∧ cmpP b m a n = -1 ∧ (((a : Int) == (b : Int)) = false ∨ (a = b ∧ (n == m) = false))) ∨ (a = b ∧ n = m ∧ cmpP a n a n = 0) := by
  rcases (by omega : a < b ∨ b < a ∨ a = b) with h | h | h
  · exact .inl ⟨cmpP_lt h, cmpP_gt h, .inl (by rw [beq_eq_false_iff_ne]; omega)⟩
  · exact .inr (.inl ⟨cmpP_gt h, cmpP_lt h, .inl (by rw [beq_eq_false_iff_ne]; omega)⟩)
  · subst h
    rcases (by omega : n < m ∨ m < n ∨ n = m) with h | h | h
    · exact .inl ⟨by rw [cmpP_eq, cmpI_lt h], by rw [cmpP_eq, cmpI_gt h], .inr ⟨rfl, by rw [beq_eq_false_iff_ne]; omega⟩⟩
    · exact .inr (.inl ⟨by rw [cmpP_eq, cmpI_gt h], by rw [cmpP_eq, cmpI_lt h], .inr ⟨rfl, by rw [beq_eq_false_iff_ne]; omega⟩⟩)
    · subst h; exact .inr (.inr ⟨rfl, rfl, by rw [cmpP_eq, cmpI_eq]⟩)
theorem boxed_drew {w W : World} (h : Boxed w W) : Boxed w W.drew := ⟨h.1.drew, h.2⟩
theorem walk (a0 : Nat) (n0 : Int) (ha0 : a0 < 4294967296) (hn0 : I64 n0) (a1 : Nat) (n1 : Int) (ha1 : a1 < 4294967296) (hn1 : I64 n1) (a2 : Nat) (n2 : Int) (ha2 : a2 < 4294967296) (hn2 : I64 n2) (w : World) (hT : Tab w) :
    Calls Tryd.prog 4 #[.agg #[.int .u32 (a0 : Nat), .int .i64 n0], .agg #[.int .u32 (a1 : Nat), .int .i64 n1], .agg #[.int .u32 (a2 : Nat), .int .i64 n2]] w fun e w' => e = .returned (.bool true) ∧ Below w.heap.size w w' := by
  have HT := Lib.hid hT
  clear hT
  rcases cmp_cases a0 n0 a1 n1 with ⟨hx, hx', he⟩ | ⟨hx, hx', he⟩ | ⟨rfl, rfl, hx⟩
  · rcases he with he | ⟨rfl, he⟩
    · rcases cmp_vals a1 n1 a2 n2 with hy | hy | hy
      · have hz := cmp_trans (a := a0) (n := n0) (b := a1) (m := n1) (c := a2) (k := n2) (by rw [hx]; omega) (by rw [hy]; omega)
        have hd : decide (cmpP a0 n0 a2 n2 ≤ 0) = true := decide_eq_true hz
        clear hz
        go_enter Tryd.func4, Tryd.ntmps4
        go_wp2
        go_region_held3 (fun w' => w'.cell? ⟨w.heap.size, 0, none⟩ = some (.int .u32 (a0 : Nat)) ∧ w'.cell? ⟨w.heap.size, 1, none⟩ = some (.int .i64 n0) ∧ w'.cell? ⟨w.heap.size + 1, 0, none⟩ = some (.int .u32 (a1 : Nat)) ∧ w'.cell? ⟨w.heap.size + 1, 1, none⟩ = some (.int .i64 n1) ∧ w'.cell? ⟨w.heap.size + 1 + 1, 0, none⟩ = some (.int .u32 (a2 : Nat)) ∧ w'.cell? ⟨w.heap.size + 1 + 1, 1, none⟩ = some (.int .i64 n2) ∧ Boxed w w')
          (first | exact ⟨by go_simp, by go_simp, by go_simp, by go_simp, by go_simp, by go_simp, boxed_drew (boxed3 _ _ _ _)⟩ | go_keep)
          (first | (go_at_call 22; refine (compare_any _ _ _ _ _).mono ?_; rintro e w1 ⟨rfl, hb⟩; have hk := keep6 ‹_› hb; clear hb))
        obtain ⟨f0_1, f1_1, f2_1, f3_1, f4_1, f5_1, HB⟩ := hk
        have B1 := Lib.hid HB.1
        clear HB
        go_wp2_with fail
        go_at_call 23
        refine (rcompare_any _ _ _ _ _).mono ?_
        rintro e w2 ⟨rfl, h2⟩
        have f0_2 : w2.cell? ⟨w.heap.size, 0, none⟩ = some (.int .u32 (a0 : Nat)) := carry h2 f0_1
        have f1_2 : w2.cell? ⟨w.heap.size, 1, none⟩ = some (.int .i64 n0) := carry h2 f1_1
        have f2_2 : w2.cell? ⟨w.heap.size + 1, 0, none⟩ = some (.int .u32 (a1 : Nat)) := carry h2 f2_1
        have f3_2 : w2.cell? ⟨w.heap.size + 1, 1, none⟩ = some (.int .i64 n1) := carry h2 f3_1
        have f4_2 : w2.cell? ⟨w.heap.size + 1 + 1, 0, none⟩ = some (.int .u32 (a2 : Nat)) := carry h2 f4_1
        have f5_2 : w2.cell? ⟨w.heap.size + 1 + 1, 1, none⟩ = some (.int .i64 n2) := carry h2 f5_1
        have B2 := Lib.hid (below_then B1.out h2)
        clear h2 f0_1 f1_1 f2_1 f3_1 f4_1 f5_1
        go_wp2_with fail
        go_at_call 22
        refine (compare_any _ _ _ _ _).mono ?_
        rintro e w3 ⟨rfl, h3⟩
        have f0_3 : w3.cell? ⟨w.heap.size, 0, none⟩ = some (.int .u32 (a0 : Nat)) := carry h3 f0_2
        have f1_3 : w3.cell? ⟨w.heap.size, 1, none⟩ = some (.int .i64 n0) := carry h3 f1_2
        have f2_3 : w3.cell? ⟨w.heap.size + 1, 0, none⟩ = some (.int .u32 (a1 : Nat)) := carry h3 f2_2
        have f3_3 : w3.cell? ⟨w.heap.size + 1, 1, none⟩ = some (.int .i64 n1) := carry h3 f3_2
        have f4_3 : w3.cell? ⟨w.heap.size + 1 + 1, 0, none⟩ = some (.int .u32 (a2 : Nat)) := carry h3 f4_2
        have f5_3 : w3.cell? ⟨w.heap.size + 1 + 1, 1, none⟩ = some (.int .i64 n2) := carry h3 f5_2
        have B3 := Lib.hid (below_then B2.out h3)
        clear h3 f0_2 f1_2 f2_2 f3_2 f4_2 f5_2
        go_wp2_with fail
        go_at_call 22
        refine (compare_any _ _ _ _ _).mono ?_
        rintro e w4 ⟨rfl, h4⟩
        have f0_4 : w4.cell? ⟨w.heap.size, 0, none⟩ = some (.int .u32 (a0 : Nat)) := carry h4 f0_3
        have f1_4 : w4.cell? ⟨w.heap.size, 1, none⟩ = some (.int .i64 n0) := carry h4 f1_3
        have f2_4 : w4.cell? ⟨w.heap.size + 1, 0, none⟩ = some (.int .u32 (a1 : Nat)) := carry h4 f2_3
        have f3_4 : w4.cell? ⟨w.heap.size + 1, 1, none⟩ = some (.int .i64 n1) := carry h4 f3_3
        have f4_4 : w4.cell? ⟨w.heap.size + 1 + 1, 0, none⟩ = some (.int .u32 (a2 : Nat)) := carry h4 f4_3
        have f5_4 : w4.cell? ⟨w.heap.size + 1 + 1, 1, none⟩ = some (.int .i64 n2) := carry h4 f5_3
        have B4 := Lib.hid (below_then B3.out h4)
        clear h4 f0_3 f1_3 f2_3 f3_3 f4_3 f5_3
        go_wp2_with fail
        go_at_call 21
        refine (lives_any _ (tab_below HT.out B4.out)).mono ?_
        rintro e w5 ⟨rfl, h5⟩
        have f0_5 : w5.cell? ⟨w.heap.size, 0, none⟩ = some (.int .u32 (a0 : Nat)) := carry h5 f0_4
        have f1_5 : w5.cell? ⟨w.heap.size, 1, none⟩ = some (.int .i64 n0) := carry h5 f1_4
        have f2_5 : w5.cell? ⟨w.heap.size + 1, 0, none⟩ = some (.int .u32 (a1 : Nat)) := carry h5 f2_4
        have f3_5 : w5.cell? ⟨w.heap.size + 1, 1, none⟩ = some (.int .i64 n1) := carry h5 f3_4
        have f4_5 : w5.cell? ⟨w.heap.size + 1 + 1, 0, none⟩ = some (.int .u32 (a2 : Nat)) := carry h5 f4_4
        have f5_5 : w5.cell? ⟨w.heap.size + 1 + 1, 1, none⟩ = some (.int .i64 n2) := carry h5 f5_4
        have B5 := Lib.hid (below_then B4.out h5)
        clear h5 f0_4 f1_4 f2_4 f3_4 f4_4 f5_4
        go_wp2_with fail
        go_ret
        exact ⟨rfl, B5.out⟩
      · have hz := cmp_trans (a := a0) (n := n0) (b := a1) (m := n1) (c := a2) (k := n2) (by rw [hx]; omega) (by rw [hy]; omega)
        have hd : decide (cmpP a0 n0 a2 n2 ≤ 0) = true := decide_eq_true hz
        clear hz
        go_enter Tryd.func4, Tryd.ntmps4
        go_wp2
        go_region_held3 (fun w' => w'.cell? ⟨w.heap.size, 0, none⟩ = some (.int .u32 (a0 : Nat)) ∧ w'.cell? ⟨w.heap.size, 1, none⟩ = some (.int .i64 n0) ∧ w'.cell? ⟨w.heap.size + 1, 0, none⟩ = some (.int .u32 (a1 : Nat)) ∧ w'.cell? ⟨w.heap.size + 1, 1, none⟩ = some (.int .i64 n1) ∧ w'.cell? ⟨w.heap.size + 1 + 1, 0, none⟩ = some (.int .u32 (a2 : Nat)) ∧ w'.cell? ⟨w.heap.size + 1 + 1, 1, none⟩ = some (.int .i64 n2) ∧ Boxed w w')
          (first | exact ⟨by go_simp, by go_simp, by go_simp, by go_simp, by go_simp, by go_simp, boxed_drew (boxed3 _ _ _ _)⟩ | go_keep)
          (first | (go_at_call 22; refine (compare_any _ _ _ _ _).mono ?_; rintro e w1 ⟨rfl, hb⟩; have hk := keep6 ‹_› hb; clear hb))
        obtain ⟨f0_1, f1_1, f2_1, f3_1, f4_1, f5_1, HB⟩ := hk
        have B1 := Lib.hid HB.1
        clear HB
        go_wp2_with fail
        go_at_call 23
        refine (rcompare_any _ _ _ _ _).mono ?_
        rintro e w2 ⟨rfl, h2⟩
        have f0_2 : w2.cell? ⟨w.heap.size, 0, none⟩ = some (.int .u32 (a0 : Nat)) := carry h2 f0_1
        have f1_2 : w2.cell? ⟨w.heap.size, 1, none⟩ = some (.int .i64 n0) := carry h2 f1_1
        have f2_2 : w2.cell? ⟨w.heap.size + 1, 0, none⟩ = some (.int .u32 (a1 : Nat)) := carry h2 f2_1
        have f3_2 : w2.cell? ⟨w.heap.size + 1, 1, none⟩ = some (.int .i64 n1) := carry h2 f3_1
        have f4_2 : w2.cell? ⟨w.heap.size + 1 + 1, 0, none⟩ = some (.int .u32 (a2 : Nat)) := carry h2 f4_1
        have f5_2 : w2.cell? ⟨w.heap.size + 1 + 1, 1, none⟩ = some (.int .i64 n2) := carry h2 f5_1
        have B2 := Lib.hid (below_then B1.out h2)
        clear h2 f0_1 f1_1 f2_1 f3_1 f4_1 f5_1
        go_wp2_with fail
        go_at_call 22
        refine (compare_any _ _ _ _ _).mono ?_
        rintro e w3 ⟨rfl, h3⟩
        have f0_3 : w3.cell? ⟨w.heap.size, 0, none⟩ = some (.int .u32 (a0 : Nat)) := carry h3 f0_2
        have f1_3 : w3.cell? ⟨w.heap.size, 1, none⟩ = some (.int .i64 n0) := carry h3 f1_2
        have f2_3 : w3.cell? ⟨w.heap.size + 1, 0, none⟩ = some (.int .u32 (a1 : Nat)) := carry h3 f2_2
        have f3_3 : w3.cell? ⟨w.heap.size + 1, 1, none⟩ = some (.int .i64 n1) := carry h3 f3_2
        have f4_3 : w3.cell? ⟨w.heap.size + 1 + 1, 0, none⟩ = some (.int .u32 (a2 : Nat)) := carry h3 f4_2
        have f5_3 : w3.cell? ⟨w.heap.size + 1 + 1, 1, none⟩ = some (.int .i64 n2) := carry h3 f5_2
        have B3 := Lib.hid (below_then B2.out h3)
        clear h3 f0_2 f1_2 f2_2 f3_2 f4_2 f5_2
        go_wp2_with fail
        go_at_call 22
        refine (compare_any _ _ _ _ _).mono ?_
        rintro e w4 ⟨rfl, h4⟩
        have f0_4 : w4.cell? ⟨w.heap.size, 0, none⟩ = some (.int .u32 (a0 : Nat)) := carry h4 f0_3
        have f1_4 : w4.cell? ⟨w.heap.size, 1, none⟩ = some (.int .i64 n0) := carry h4 f1_3
        have f2_4 : w4.cell? ⟨w.heap.size + 1, 0, none⟩ = some (.int .u32 (a1 : Nat)) := carry h4 f2_3
        have f3_4 : w4.cell? ⟨w.heap.size + 1, 1, none⟩ = some (.int .i64 n1) := carry h4 f3_3
        have f4_4 : w4.cell? ⟨w.heap.size + 1 + 1, 0, none⟩ = some (.int .u32 (a2 : Nat)) := carry h4 f4_3
        have f5_4 : w4.cell? ⟨w.heap.size + 1 + 1, 1, none⟩ = some (.int .i64 n2) := carry h4 f5_3
        have B4 := Lib.hid (below_then B3.out h4)
        clear h4 f0_3 f1_3 f2_3 f3_3 f4_3 f5_3
        go_wp2_with fail
        go_at_call 21
        refine (lives_any _ (tab_below HT.out B4.out)).mono ?_
        rintro e w5 ⟨rfl, h5⟩
        have f0_5 : w5.cell? ⟨w.heap.size, 0, none⟩ = some (.int .u32 (a0 : Nat)) := carry h5 f0_4
        have f1_5 : w5.cell? ⟨w.heap.size, 1, none⟩ = some (.int .i64 n0) := carry h5 f1_4
        have f2_5 : w5.cell? ⟨w.heap.size + 1, 0, none⟩ = some (.int .u32 (a1 : Nat)) := carry h5 f2_4
        have f3_5 : w5.cell? ⟨w.heap.size + 1, 1, none⟩ = some (.int .i64 n1) := carry h5 f3_4
        have f4_5 : w5.cell? ⟨w.heap.size + 1 + 1, 0, none⟩ = some (.int .u32 (a2 : Nat)) := carry h5 f4_4
        have f5_5 : w5.cell? ⟨w.heap.size + 1 + 1, 1, none⟩ = some (.int .i64 n2) := carry h5 f5_4
        have B5 := Lib.hid (below_then B4.out h5)
        clear h5 f0_4 f1_4 f2_4 f3_4 f4_4 f5_4
        go_wp2_with fail
        go_ret
        exact ⟨rfl, B5.out⟩
      · go_enter Tryd.func4, Tryd.ntmps4
        go_wp2
        go_region_held3 (fun w' => w'.cell? ⟨w.heap.size, 0, none⟩ = some (.int .u32 (a0 : Nat)) ∧ w'.cell? ⟨w.heap.size, 1, none⟩ = some (.int .i64 n0) ∧ w'.cell? ⟨w.heap.size + 1, 0, none⟩ = some (.int .u32 (a1 : Nat)) ∧ w'.cell? ⟨w.heap.size + 1, 1, none⟩ = some (.int .i64 n1) ∧ w'.cell? ⟨w.heap.size + 1 + 1, 0, none⟩ = some (.int .u32 (a2 : Nat)) ∧ w'.cell? ⟨w.heap.size + 1 + 1, 1, none⟩ = some (.int .i64 n2) ∧ Boxed w w')
          (first | exact ⟨by go_simp, by go_simp, by go_simp, by go_simp, by go_simp, by go_simp, boxed_drew (boxed3 _ _ _ _)⟩ | go_keep)
          (first | (go_at_call 22; refine (compare_any _ _ _ _ _).mono ?_; rintro e w1 ⟨rfl, hb⟩; have hk := keep6 ‹_› hb; clear hb))
        obtain ⟨f0_1, f1_1, f2_1, f3_1, f4_1, f5_1, HB⟩ := hk
        have B1 := Lib.hid HB.1
        clear HB
        go_wp2_with fail
        go_at_call 23
        refine (rcompare_any _ _ _ _ _).mono ?_
        rintro e w2 ⟨rfl, h2⟩
        have f0_2 : w2.cell? ⟨w.heap.size, 0, none⟩ = some (.int .u32 (a0 : Nat)) := carry h2 f0_1
        have f1_2 : w2.cell? ⟨w.heap.size, 1, none⟩ = some (.int .i64 n0) := carry h2 f1_1
        have f2_2 : w2.cell? ⟨w.heap.size + 1, 0, none⟩ = some (.int .u32 (a1 : Nat)) := carry h2 f2_1
        have f3_2 : w2.cell? ⟨w.heap.size + 1, 1, none⟩ = some (.int .i64 n1) := carry h2 f3_1
        have f4_2 : w2.cell? ⟨w.heap.size + 1 + 1, 0, none⟩ = some (.int .u32 (a2 : Nat)) := carry h2 f4_1
        have f5_2 : w2.cell? ⟨w.heap.size + 1 + 1, 1, none⟩ = some (.int .i64 n2) := carry h2 f5_1
        have B2 := Lib.hid (below_then B1.out h2)
        clear h2 f0_1 f1_1 f2_1 f3_1 f4_1 f5_1
        go_wp2_with fail
        go_at_call 22
        refine (compare_any _ _ _ _ _).mono ?_
        rintro e w3 ⟨rfl, h3⟩
        have f0_3 : w3.cell? ⟨w.heap.size, 0, none⟩ = some (.int .u32 (a0 : Nat)) := carry h3 f0_2
        have f1_3 : w3.cell? ⟨w.heap.size, 1, none⟩ = some (.int .i64 n0) := carry h3 f1_2
        have f2_3 : w3.cell? ⟨w.heap.size + 1, 0, none⟩ = some (.int .u32 (a1 : Nat)) := carry h3 f2_2
        have f3_3 : w3.cell? ⟨w.heap.size + 1, 1, none⟩ = some (.int .i64 n1) := carry h3 f3_2
        have f4_3 : w3.cell? ⟨w.heap.size + 1 + 1, 0, none⟩ = some (.int .u32 (a2 : Nat)) := carry h3 f4_2
        have f5_3 : w3.cell? ⟨w.heap.size + 1 + 1, 1, none⟩ = some (.int .i64 n2) := carry h3 f5_2
        have B3 := Lib.hid (below_then B2.out h3)
        clear h3 f0_2 f1_2 f2_2 f3_2 f4_2 f5_2
        go_wp2_with fail
        go_at_call 21
        refine (lives_any _ (tab_below HT.out B3.out)).mono ?_
        rintro e w4 ⟨rfl, h4⟩
        have f0_4 : w4.cell? ⟨w.heap.size, 0, none⟩ = some (.int .u32 (a0 : Nat)) := carry h4 f0_3
        have f1_4 : w4.cell? ⟨w.heap.size, 1, none⟩ = some (.int .i64 n0) := carry h4 f1_3
        have f2_4 : w4.cell? ⟨w.heap.size + 1, 0, none⟩ = some (.int .u32 (a1 : Nat)) := carry h4 f2_3
        have f3_4 : w4.cell? ⟨w.heap.size + 1, 1, none⟩ = some (.int .i64 n1) := carry h4 f3_3
        have f4_4 : w4.cell? ⟨w.heap.size + 1 + 1, 0, none⟩ = some (.int .u32 (a2 : Nat)) := carry h4 f4_3
        have f5_4 : w4.cell? ⟨w.heap.size + 1 + 1, 1, none⟩ = some (.int .i64 n2) := carry h4 f5_3
        have B4 := Lib.hid (below_then B3.out h4)
        clear h4 f0_3 f1_3 f2_3 f3_3 f4_3 f5_3
        go_wp2_with fail
        go_ret
        exact ⟨rfl, B4.out⟩
    · rcases cmp_vals a0 n1 a2 n2 with hy | hy | hy
      · have hz := cmp_trans (a := a0) (n := n0) (b := a0) (m := n1) (c := a2) (k := n2) (by rw [hx]; omega) (by rw [hy]; omega)
        have hd : decide (cmpP a0 n0 a2 n2 ≤ 0) = true := decide_eq_true hz
        clear hz
        go_enter Tryd.func4, Tryd.ntmps4
        go_wp2
        go_region_held3 (fun w' => w'.cell? ⟨w.heap.size, 0, none⟩ = some (.int .u32 (a0 : Nat)) ∧ w'.cell? ⟨w.heap.size, 1, none⟩ = some (.int .i64 n0) ∧ w'.cell? ⟨w.heap.size + 1, 0, none⟩ = some (.int .u32 (a0 : Nat)) ∧ w'.cell? ⟨w.heap.size + 1, 1, none⟩ = some (.int .i64 n1) ∧ w'.cell? ⟨w.heap.size + 1 + 1, 0, none⟩ = some (.int .u32 (a2 : Nat)) ∧ w'.cell? ⟨w.heap.size + 1 + 1, 1, none⟩ = some (.int .i64 n2) ∧ Boxed w w')
          (first | exact ⟨by go_simp, by go_simp, by go_simp, by go_simp, by go_simp, by go_simp, boxed_drew (boxed3 _ _ _ _)⟩ | go_keep)
          (first | (go_at_call 22; refine (compare_any _ _ _ _ _).mono ?_; rintro e w1 ⟨rfl, hb⟩; have hk := keep6 ‹_› hb; clear hb))
        obtain ⟨f0_1, f1_1, f2_1, f3_1, f4_1, f5_1, HB⟩ := hk
        have B1 := Lib.hid HB.1
        clear HB
        go_wp2_with fail
        go_at_call 23
        refine (rcompare_any _ _ _ _ _).mono ?_
        rintro e w2 ⟨rfl, h2⟩
        have f0_2 : w2.cell? ⟨w.heap.size, 0, none⟩ = some (.int .u32 (a0 : Nat)) := carry h2 f0_1
        have f1_2 : w2.cell? ⟨w.heap.size, 1, none⟩ = some (.int .i64 n0) := carry h2 f1_1
        have f2_2 : w2.cell? ⟨w.heap.size + 1, 0, none⟩ = some (.int .u32 (a0 : Nat)) := carry h2 f2_1
        have f3_2 : w2.cell? ⟨w.heap.size + 1, 1, none⟩ = some (.int .i64 n1) := carry h2 f3_1
        have f4_2 : w2.cell? ⟨w.heap.size + 1 + 1, 0, none⟩ = some (.int .u32 (a2 : Nat)) := carry h2 f4_1
        have f5_2 : w2.cell? ⟨w.heap.size + 1 + 1, 1, none⟩ = some (.int .i64 n2) := carry h2 f5_1
        have B2 := Lib.hid (below_then B1.out h2)
        clear h2 f0_1 f1_1 f2_1 f3_1 f4_1 f5_1
        go_wp2_with fail
        go_at_call 22
        refine (compare_any _ _ _ _ _).mono ?_
        rintro e w3 ⟨rfl, h3⟩
        have f0_3 : w3.cell? ⟨w.heap.size, 0, none⟩ = some (.int .u32 (a0 : Nat)) := carry h3 f0_2
        have f1_3 : w3.cell? ⟨w.heap.size, 1, none⟩ = some (.int .i64 n0) := carry h3 f1_2
        have f2_3 : w3.cell? ⟨w.heap.size + 1, 0, none⟩ = some (.int .u32 (a0 : Nat)) := carry h3 f2_2
        have f3_3 : w3.cell? ⟨w.heap.size + 1, 1, none⟩ = some (.int .i64 n1) := carry h3 f3_2
        have f4_3 : w3.cell? ⟨w.heap.size + 1 + 1, 0, none⟩ = some (.int .u32 (a2 : Nat)) := carry h3 f4_2
        have f5_3 : w3.cell? ⟨w.heap.size + 1 + 1, 1, none⟩ = some (.int .i64 n2) := carry h3 f5_2
        have B3 := Lib.hid (below_then B2.out h3)
        clear h3 f0_2 f1_2 f2_2 f3_2 f4_2 f5_2
        go_wp2_with fail
        go_at_call 22
        refine (compare_any _ _ _ _ _).mono ?_
        rintro e w4 ⟨rfl, h4⟩
        have f0_4 : w4.cell? ⟨w.heap.size, 0, none⟩ = some (.int .u32 (a0 : Nat)) := carry h4 f0_3
        have f1_4 : w4.cell? ⟨w.heap.size, 1, none⟩ = some (.int .i64 n0) := carry h4 f1_3
        have f2_4 : w4.cell? ⟨w.heap.size + 1, 0, none⟩ = some (.int .u32 (a0 : Nat)) := carry h4 f2_3
        have f3_4 : w4.cell? ⟨w.heap.size + 1, 1, none⟩ = some (.int .i64 n1) := carry h4 f3_3
        have f4_4 : w4.cell? ⟨w.heap.size + 1 + 1, 0, none⟩ = some (.int .u32 (a2 : Nat)) := carry h4 f4_3
        have f5_4 : w4.cell? ⟨w.heap.size + 1 + 1, 1, none⟩ = some (.int .i64 n2) := carry h4 f5_3
        have B4 := Lib.hid (below_then B3.out h4)
        clear h4 f0_3 f1_3 f2_3 f3_3 f4_3 f5_3
        go_wp2_with fail
        go_at_call 21
        refine (lives_any _ (tab_below HT.out B4.out)).mono ?_
        rintro e w5 ⟨rfl, h5⟩
        have f0_5 : w5.cell? ⟨w.heap.size, 0, none⟩ = some (.int .u32 (a0 : Nat)) := carry h5 f0_4
        have f1_5 : w5.cell? ⟨w.heap.size, 1, none⟩ = some (.int .i64 n0) := carry h5 f1_4
        have f2_5 : w5.cell? ⟨w.heap.size + 1, 0, none⟩ = some (.int .u32 (a0 : Nat)) := carry h5 f2_4
        have f3_5 : w5.cell? ⟨w.heap.size + 1, 1, none⟩ = some (.int .i64 n1) := carry h5 f3_4
        have f4_5 : w5.cell? ⟨w.heap.size + 1 + 1, 0, none⟩ = some (.int .u32 (a2 : Nat)) := carry h5 f4_4
        have f5_5 : w5.cell? ⟨w.heap.size + 1 + 1, 1, none⟩ = some (.int .i64 n2) := carry h5 f5_4
        have B5 := Lib.hid (below_then B4.out h5)
        clear h5 f0_4 f1_4 f2_4 f3_4 f4_4 f5_4
        go_wp2_with fail
        go_ret
        exact ⟨rfl, B5.out⟩
      · have hz := cmp_trans (a := a0) (n := n0) (b := a0) (m := n1) (c := a2) (k := n2) (by rw [hx]; omega) (by rw [hy]; omega)
        have hd : decide (cmpP a0 n0 a2 n2 ≤ 0) = true := decide_eq_true hz
        clear hz
        go_enter Tryd.func4, Tryd.ntmps4
        go_wp2
        go_region_held3 (fun w' => w'.cell? ⟨w.heap.size, 0, none⟩ = some (.int .u32 (a0 : Nat)) ∧ w'.cell? ⟨w.heap.size, 1, none⟩ = some (.int .i64 n0) ∧ w'.cell? ⟨w.heap.size + 1, 0, none⟩ = some (.int .u32 (a0 : Nat)) ∧ w'.cell? ⟨w.heap.size + 1, 1, none⟩ = some (.int .i64 n1) ∧ w'.cell? ⟨w.heap.size + 1 + 1, 0, none⟩ = some (.int .u32 (a2 : Nat)) ∧ w'.cell? ⟨w.heap.size + 1 + 1, 1, none⟩ = some (.int .i64 n2) ∧ Boxed w w')
          (first | exact ⟨by go_simp, by go_simp, by go_simp, by go_simp, by go_simp, by go_simp, boxed_drew (boxed3 _ _ _ _)⟩ | go_keep)
          (first | (go_at_call 22; refine (compare_any _ _ _ _ _).mono ?_; rintro e w1 ⟨rfl, hb⟩; have hk := keep6 ‹_› hb; clear hb))
        obtain ⟨f0_1, f1_1, f2_1, f3_1, f4_1, f5_1, HB⟩ := hk
        have B1 := Lib.hid HB.1
        clear HB
        go_wp2_with fail
        go_at_call 23
        refine (rcompare_any _ _ _ _ _).mono ?_
        rintro e w2 ⟨rfl, h2⟩
        have f0_2 : w2.cell? ⟨w.heap.size, 0, none⟩ = some (.int .u32 (a0 : Nat)) := carry h2 f0_1
        have f1_2 : w2.cell? ⟨w.heap.size, 1, none⟩ = some (.int .i64 n0) := carry h2 f1_1
        have f2_2 : w2.cell? ⟨w.heap.size + 1, 0, none⟩ = some (.int .u32 (a0 : Nat)) := carry h2 f2_1
        have f3_2 : w2.cell? ⟨w.heap.size + 1, 1, none⟩ = some (.int .i64 n1) := carry h2 f3_1
        have f4_2 : w2.cell? ⟨w.heap.size + 1 + 1, 0, none⟩ = some (.int .u32 (a2 : Nat)) := carry h2 f4_1
        have f5_2 : w2.cell? ⟨w.heap.size + 1 + 1, 1, none⟩ = some (.int .i64 n2) := carry h2 f5_1
        have B2 := Lib.hid (below_then B1.out h2)
        clear h2 f0_1 f1_1 f2_1 f3_1 f4_1 f5_1
        go_wp2_with fail
        go_at_call 22
        refine (compare_any _ _ _ _ _).mono ?_
        rintro e w3 ⟨rfl, h3⟩
        have f0_3 : w3.cell? ⟨w.heap.size, 0, none⟩ = some (.int .u32 (a0 : Nat)) := carry h3 f0_2
        have f1_3 : w3.cell? ⟨w.heap.size, 1, none⟩ = some (.int .i64 n0) := carry h3 f1_2
        have f2_3 : w3.cell? ⟨w.heap.size + 1, 0, none⟩ = some (.int .u32 (a0 : Nat)) := carry h3 f2_2
        have f3_3 : w3.cell? ⟨w.heap.size + 1, 1, none⟩ = some (.int .i64 n1) := carry h3 f3_2
        have f4_3 : w3.cell? ⟨w.heap.size + 1 + 1, 0, none⟩ = some (.int .u32 (a2 : Nat)) := carry h3 f4_2
        have f5_3 : w3.cell? ⟨w.heap.size + 1 + 1, 1, none⟩ = some (.int .i64 n2) := carry h3 f5_2
        have B3 := Lib.hid (below_then B2.out h3)
        clear h3 f0_2 f1_2 f2_2 f3_2 f4_2 f5_2
        go_wp2_with fail
        go_at_call 22
        refine (compare_any _ _ _ _ _).mono ?_
        rintro e w4 ⟨rfl, h4⟩
        have f0_4 : w4.cell? ⟨w.heap.size, 0, none⟩ = some (.int .u32 (a0 : Nat)) := carry h4 f0_3
        have f1_4 : w4.cell? ⟨w.heap.size, 1, none⟩ = some (.int .i64 n0) := carry h4 f1_3
        have f2_4 : w4.cell? ⟨w.heap.size + 1, 0, none⟩ = some (.int .u32 (a0 : Nat)) := carry h4 f2_3
        have f3_4 : w4.cell? ⟨w.heap.size + 1, 1, none⟩ = some (.int .i64 n1) := carry h4 f3_3
        have f4_4 : w4.cell? ⟨w.heap.size + 1 + 1, 0, none⟩ = some (.int .u32 (a2 : Nat)) := carry h4 f4_3
        have f5_4 : w4.cell? ⟨w.heap.size + 1 + 1, 1, none⟩ = some (.int .i64 n2) := carry h4 f5_3
        have B4 := Lib.hid (below_then B3.out h4)
        clear h4 f0_3 f1_3 f2_3 f3_3 f4_3 f5_3
        go_wp2_with fail
        go_at_call 21
        refine (lives_any _ (tab_below HT.out B4.out)).mono ?_
        rintro e w5 ⟨rfl, h5⟩
        have f0_5 : w5.cell? ⟨w.heap.size, 0, none⟩ = some (.int .u32 (a0 : Nat)) := carry h5 f0_4
        have f1_5 : w5.cell? ⟨w.heap.size, 1, none⟩ = some (.int .i64 n0) := carry h5 f1_4
        have f2_5 : w5.cell? ⟨w.heap.size + 1, 0, none⟩ = some (.int .u32 (a0 : Nat)) := carry h5 f2_4
        have f3_5 : w5.cell? ⟨w.heap.size + 1, 1, none⟩ = some (.int .i64 n1) := carry h5 f3_4
        have f4_5 : w5.cell? ⟨w.heap.size + 1 + 1, 0, none⟩ = some (.int .u32 (a2 : Nat)) := carry h5 f4_4
        have f5_5 : w5.cell? ⟨w.heap.size + 1 + 1, 1, none⟩ = some (.int .i64 n2) := carry h5 f5_4
        have B5 := Lib.hid (below_then B4.out h5)
        clear h5 f0_4 f1_4 f2_4 f3_4 f4_4 f5_4
        go_wp2_with fail
        go_ret
        exact ⟨rfl, B5.out⟩
      · go_enter Tryd.func4, Tryd.ntmps4
        go_wp2
        go_region_held3 (fun w' => w'.cell? ⟨w.heap.size, 0, none⟩ = some (.int .u32 (a0 : Nat)) ∧ w'.cell? ⟨w.heap.size, 1, none⟩ = some (.int .i64 n0) ∧ w'.cell? ⟨w.heap.size + 1, 0, none⟩ = some (.int .u32 (a0 : Nat)) ∧ w'.cell? ⟨w.heap.size + 1, 1, none⟩ = some (.int .i64 n1) ∧ w'.cell? ⟨w.heap.size + 1 + 1, 0, none⟩ = some (.int .u32 (a2 : Nat)) ∧ w'.cell? ⟨w.heap.size + 1 + 1, 1, none⟩ = some (.int .i64 n2) ∧ Boxed w w')
          (first | exact ⟨by go_simp, by go_simp, by go_simp, by go_simp, by go_simp, by go_simp, boxed_drew (boxed3 _ _ _ _)⟩ | go_keep)
          (first | (go_at_call 22; refine (compare_any _ _ _ _ _).mono ?_; rintro e w1 ⟨rfl, hb⟩; have hk := keep6 ‹_› hb; clear hb))
        obtain ⟨f0_1, f1_1, f2_1, f3_1, f4_1, f5_1, HB⟩ := hk
        have B1 := Lib.hid HB.1
        clear HB
        go_wp2_with fail
        go_at_call 23
        refine (rcompare_any _ _ _ _ _).mono ?_
        rintro e w2 ⟨rfl, h2⟩
        have f0_2 : w2.cell? ⟨w.heap.size, 0, none⟩ = some (.int .u32 (a0 : Nat)) := carry h2 f0_1
        have f1_2 : w2.cell? ⟨w.heap.size, 1, none⟩ = some (.int .i64 n0) := carry h2 f1_1
        have f2_2 : w2.cell? ⟨w.heap.size + 1, 0, none⟩ = some (.int .u32 (a0 : Nat)) := carry h2 f2_1
        have f3_2 : w2.cell? ⟨w.heap.size + 1, 1, none⟩ = some (.int .i64 n1) := carry h2 f3_1
        have f4_2 : w2.cell? ⟨w.heap.size + 1 + 1, 0, none⟩ = some (.int .u32 (a2 : Nat)) := carry h2 f4_1
        have f5_2 : w2.cell? ⟨w.heap.size + 1 + 1, 1, none⟩ = some (.int .i64 n2) := carry h2 f5_1
        have B2 := Lib.hid (below_then B1.out h2)
        clear h2 f0_1 f1_1 f2_1 f3_1 f4_1 f5_1
        go_wp2_with fail
        go_at_call 22
        refine (compare_any _ _ _ _ _).mono ?_
        rintro e w3 ⟨rfl, h3⟩
        have f0_3 : w3.cell? ⟨w.heap.size, 0, none⟩ = some (.int .u32 (a0 : Nat)) := carry h3 f0_2
        have f1_3 : w3.cell? ⟨w.heap.size, 1, none⟩ = some (.int .i64 n0) := carry h3 f1_2
        have f2_3 : w3.cell? ⟨w.heap.size + 1, 0, none⟩ = some (.int .u32 (a0 : Nat)) := carry h3 f2_2
        have f3_3 : w3.cell? ⟨w.heap.size + 1, 1, none⟩ = some (.int .i64 n1) := carry h3 f3_2
        have f4_3 : w3.cell? ⟨w.heap.size + 1 + 1, 0, none⟩ = some (.int .u32 (a2 : Nat)) := carry h3 f4_2
        have f5_3 : w3.cell? ⟨w.heap.size + 1 + 1, 1, none⟩ = some (.int .i64 n2) := carry h3 f5_2
        have B3 := Lib.hid (below_then B2.out h3)
        clear h3 f0_2 f1_2 f2_2 f3_2 f4_2 f5_2
        go_wp2_with fail
        go_at_call 21
        refine (lives_any _ (tab_below HT.out B3.out)).mono ?_
        rintro e w4 ⟨rfl, h4⟩
        have f0_4 : w4.cell? ⟨w.heap.size, 0, none⟩ = some (.int .u32 (a0 : Nat)) := carry h4 f0_3
        have f1_4 : w4.cell? ⟨w.heap.size, 1, none⟩ = some (.int .i64 n0) := carry h4 f1_3
        have f2_4 : w4.cell? ⟨w.heap.size + 1, 0, none⟩ = some (.int .u32 (a0 : Nat)) := carry h4 f2_3
        have f3_4 : w4.cell? ⟨w.heap.size + 1, 1, none⟩ = some (.int .i64 n1) := carry h4 f3_3
        have f4_4 : w4.cell? ⟨w.heap.size + 1 + 1, 0, none⟩ = some (.int .u32 (a2 : Nat)) := carry h4 f4_3
        have f5_4 : w4.cell? ⟨w.heap.size + 1 + 1, 1, none⟩ = some (.int .i64 n2) := carry h4 f5_3
        have B4 := Lib.hid (below_then B3.out h4)
        clear h4 f0_3 f1_3 f2_3 f3_3 f4_3 f5_3
        go_wp2_with fail
        go_ret
        exact ⟨rfl, B4.out⟩
  · rcases he with he | ⟨rfl, he⟩
    · go_enter Tryd.func4, Tryd.ntmps4
      go_wp2
      go_region_held3 (fun w' => w'.cell? ⟨w.heap.size, 0, none⟩ = some (.int .u32 (a0 : Nat)) ∧ w'.cell? ⟨w.heap.size, 1, none⟩ = some (.int .i64 n0) ∧ w'.cell? ⟨w.heap.size + 1, 0, none⟩ = some (.int .u32 (a1 : Nat)) ∧ w'.cell? ⟨w.heap.size + 1, 1, none⟩ = some (.int .i64 n1) ∧ w'.cell? ⟨w.heap.size + 1 + 1, 0, none⟩ = some (.int .u32 (a2 : Nat)) ∧ w'.cell? ⟨w.heap.size + 1 + 1, 1, none⟩ = some (.int .i64 n2) ∧ Boxed w w')
        (first | exact ⟨by go_simp, by go_simp, by go_simp, by go_simp, by go_simp, by go_simp, boxed_drew (boxed3 _ _ _ _)⟩ | go_keep)
        (first | (go_at_call 22; refine (compare_any _ _ _ _ _).mono ?_; rintro e w1 ⟨rfl, hb⟩; have hk := keep6 ‹_› hb; clear hb))
      obtain ⟨f0_1, f1_1, f2_1, f3_1, f4_1, f5_1, HB⟩ := hk
      have B1 := Lib.hid HB.1
      clear HB
      go_wp2_with fail
      go_at_call 23
      refine (rcompare_any _ _ _ _ _).mono ?_
      rintro e w2 ⟨rfl, h2⟩
      have f0_2 : w2.cell? ⟨w.heap.size, 0, none⟩ = some (.int .u32 (a0 : Nat)) := carry h2 f0_1
      have f1_2 : w2.cell? ⟨w.heap.size, 1, none⟩ = some (.int .i64 n0) := carry h2 f1_1
      have f2_2 : w2.cell? ⟨w.heap.size + 1, 0, none⟩ = some (.int .u32 (a1 : Nat)) := carry h2 f2_1
      have f3_2 : w2.cell? ⟨w.heap.size + 1, 1, none⟩ = some (.int .i64 n1) := carry h2 f3_1
      have f4_2 : w2.cell? ⟨w.heap.size + 1 + 1, 0, none⟩ = some (.int .u32 (a2 : Nat)) := carry h2 f4_1
      have f5_2 : w2.cell? ⟨w.heap.size + 1 + 1, 1, none⟩ = some (.int .i64 n2) := carry h2 f5_1
      have B2 := Lib.hid (below_then B1.out h2)
      clear h2 f0_1 f1_1 f2_1 f3_1 f4_1 f5_1
      go_wp2_with fail
      go_at_call 22
      refine (compare_any _ _ _ _ _).mono ?_
      rintro e w3 ⟨rfl, h3⟩
      have f0_3 : w3.cell? ⟨w.heap.size, 0, none⟩ = some (.int .u32 (a0 : Nat)) := carry h3 f0_2
      have f1_3 : w3.cell? ⟨w.heap.size, 1, none⟩ = some (.int .i64 n0) := carry h3 f1_2
      have f2_3 : w3.cell? ⟨w.heap.size + 1, 0, none⟩ = some (.int .u32 (a1 : Nat)) := carry h3 f2_2
      have f3_3 : w3.cell? ⟨w.heap.size + 1, 1, none⟩ = some (.int .i64 n1) := carry h3 f3_2
      have f4_3 : w3.cell? ⟨w.heap.size + 1 + 1, 0, none⟩ = some (.int .u32 (a2 : Nat)) := carry h3 f4_2
      have f5_3 : w3.cell? ⟨w.heap.size + 1 + 1, 1, none⟩ = some (.int .i64 n2) := carry h3 f5_2
      have B3 := Lib.hid (below_then B2.out h3)
      clear h3 f0_2 f1_2 f2_2 f3_2 f4_2 f5_2
      go_wp2_with fail
      go_at_call 21
      refine (lives_any _ (tab_below HT.out B3.out)).mono ?_
      rintro e w4 ⟨rfl, h4⟩
      have f0_4 : w4.cell? ⟨w.heap.size, 0, none⟩ = some (.int .u32 (a0 : Nat)) := carry h4 f0_3
      have f1_4 : w4.cell? ⟨w.heap.size, 1, none⟩ = some (.int .i64 n0) := carry h4 f1_3
      have f2_4 : w4.cell? ⟨w.heap.size + 1, 0, none⟩ = some (.int .u32 (a1 : Nat)) := carry h4 f2_3
      have f3_4 : w4.cell? ⟨w.heap.size + 1, 1, none⟩ = some (.int .i64 n1) := carry h4 f3_3
      have f4_4 : w4.cell? ⟨w.heap.size + 1 + 1, 0, none⟩ = some (.int .u32 (a2 : Nat)) := carry h4 f4_3
      have f5_4 : w4.cell? ⟨w.heap.size + 1 + 1, 1, none⟩ = some (.int .i64 n2) := carry h4 f5_3
      have B4 := Lib.hid (below_then B3.out h4)
      clear h4 f0_3 f1_3 f2_3 f3_3 f4_3 f5_3
      go_wp2_with fail
      go_ret
      exact ⟨rfl, B4.out⟩
    · go_enter Tryd.func4, Tryd.ntmps4
      go_wp2
      go_region_held3 (fun w' => w'.cell? ⟨w.heap.size, 0, none⟩ = some (.int .u32 (a0 : Nat)) ∧ w'.cell? ⟨w.heap.size, 1, none⟩ = some (.int .i64 n0) ∧ w'.cell? ⟨w.heap.size + 1, 0, none⟩ = some (.int .u32 (a0 : Nat)) ∧ w'.cell? ⟨w.heap.size + 1, 1, none⟩ = some (.int .i64 n1) ∧ w'.cell? ⟨w.heap.size + 1 + 1, 0, none⟩ = some (.int .u32 (a2 : Nat)) ∧ w'.cell? ⟨w.heap.size + 1 + 1, 1, none⟩ = some (.int .i64 n2) ∧ Boxed w w')
        (first | exact ⟨by go_simp, by go_simp, by go_simp, by go_simp, by go_simp, by go_simp, boxed_drew (boxed3 _ _ _ _)⟩ | go_keep)
        (first | (go_at_call 22; refine (compare_any _ _ _ _ _).mono ?_; rintro e w1 ⟨rfl, hb⟩; have hk := keep6 ‹_› hb; clear hb))
      obtain ⟨f0_1, f1_1, f2_1, f3_1, f4_1, f5_1, HB⟩ := hk
      have B1 := Lib.hid HB.1
      clear HB
      go_wp2_with fail
      go_at_call 23
      refine (rcompare_any _ _ _ _ _).mono ?_
      rintro e w2 ⟨rfl, h2⟩
      have f0_2 : w2.cell? ⟨w.heap.size, 0, none⟩ = some (.int .u32 (a0 : Nat)) := carry h2 f0_1
      have f1_2 : w2.cell? ⟨w.heap.size, 1, none⟩ = some (.int .i64 n0) := carry h2 f1_1
      have f2_2 : w2.cell? ⟨w.heap.size + 1, 0, none⟩ = some (.int .u32 (a0 : Nat)) := carry h2 f2_1
      have f3_2 : w2.cell? ⟨w.heap.size + 1, 1, none⟩ = some (.int .i64 n1) := carry h2 f3_1
      have f4_2 : w2.cell? ⟨w.heap.size + 1 + 1, 0, none⟩ = some (.int .u32 (a2 : Nat)) := carry h2 f4_1
      have f5_2 : w2.cell? ⟨w.heap.size + 1 + 1, 1, none⟩ = some (.int .i64 n2) := carry h2 f5_1
      have B2 := Lib.hid (below_then B1.out h2)
      clear h2 f0_1 f1_1 f2_1 f3_1 f4_1 f5_1
      go_wp2_with fail
      go_at_call 22
      refine (compare_any _ _ _ _ _).mono ?_
      rintro e w3 ⟨rfl, h3⟩
      have f0_3 : w3.cell? ⟨w.heap.size, 0, none⟩ = some (.int .u32 (a0 : Nat)) := carry h3 f0_2
      have f1_3 : w3.cell? ⟨w.heap.size, 1, none⟩ = some (.int .i64 n0) := carry h3 f1_2
      have f2_3 : w3.cell? ⟨w.heap.size + 1, 0, none⟩ = some (.int .u32 (a0 : Nat)) := carry h3 f2_2
      have f3_3 : w3.cell? ⟨w.heap.size + 1, 1, none⟩ = some (.int .i64 n1) := carry h3 f3_2
      have f4_3 : w3.cell? ⟨w.heap.size + 1 + 1, 0, none⟩ = some (.int .u32 (a2 : Nat)) := carry h3 f4_2
      have f5_3 : w3.cell? ⟨w.heap.size + 1 + 1, 1, none⟩ = some (.int .i64 n2) := carry h3 f5_2
      have B3 := Lib.hid (below_then B2.out h3)
      clear h3 f0_2 f1_2 f2_2 f3_2 f4_2 f5_2
      go_wp2_with fail
      go_at_call 21
      refine (lives_any _ (tab_below HT.out B3.out)).mono ?_
      rintro e w4 ⟨rfl, h4⟩
      have f0_4 : w4.cell? ⟨w.heap.size, 0, none⟩ = some (.int .u32 (a0 : Nat)) := carry h4 f0_3
      have f1_4 : w4.cell? ⟨w.heap.size, 1, none⟩ = some (.int .i64 n0) := carry h4 f1_3
      have f2_4 : w4.cell? ⟨w.heap.size + 1, 0, none⟩ = some (.int .u32 (a0 : Nat)) := carry h4 f2_3
      have f3_4 : w4.cell? ⟨w.heap.size + 1, 1, none⟩ = some (.int .i64 n1) := carry h4 f3_3
      have f4_4 : w4.cell? ⟨w.heap.size + 1 + 1, 0, none⟩ = some (.int .u32 (a2 : Nat)) := carry h4 f4_3
      have f5_4 : w4.cell? ⟨w.heap.size + 1 + 1, 1, none⟩ = some (.int .i64 n2) := carry h4 f5_3
      have B4 := Lib.hid (below_then B3.out h4)
      clear h4 f0_3 f1_3 f2_3 f3_3 f4_3 f5_3
      go_wp2_with fail
      go_ret
      exact ⟨rfl, B4.out⟩
  · rcases cmp_vals a0 n0 a2 n2 with hy | hy | hy
    · have hz := cmp_trans (a := a0) (n := n0) (b := a0) (m := n0) (c := a2) (k := n2) (by rw [hx]; omega) (by rw [hy]; omega)
      have hd : decide (cmpP a0 n0 a2 n2 ≤ 0) = true := decide_eq_true hz
      clear hz
      go_enter Tryd.func4, Tryd.ntmps4
      go_wp2
      go_region_held3 (fun w' => w'.cell? ⟨w.heap.size, 0, none⟩ = some (.int .u32 (a0 : Nat)) ∧ w'.cell? ⟨w.heap.size, 1, none⟩ = some (.int .i64 n0) ∧ w'.cell? ⟨w.heap.size + 1, 0, none⟩ = some (.int .u32 (a0 : Nat)) ∧ w'.cell? ⟨w.heap.size + 1, 1, none⟩ = some (.int .i64 n0) ∧ w'.cell? ⟨w.heap.size + 1 + 1, 0, none⟩ = some (.int .u32 (a2 : Nat)) ∧ w'.cell? ⟨w.heap.size + 1 + 1, 1, none⟩ = some (.int .i64 n2) ∧ Boxed w w')
        (first | exact ⟨by go_simp, by go_simp, by go_simp, by go_simp, by go_simp, by go_simp, boxed_drew (boxed3 _ _ _ _)⟩ | go_keep)
        (first | (go_at_call 22; refine (compare_any _ _ _ _ _).mono ?_; rintro e w1 ⟨rfl, hb⟩; have hk := keep6 ‹_› hb; clear hb))
      obtain ⟨f0_1, f1_1, f2_1, f3_1, f4_1, f5_1, HB⟩ := hk
      have B1 := Lib.hid HB.1
      clear HB
      go_wp2_with fail
      go_at_call 23
      refine (rcompare_any _ _ _ _ _).mono ?_
      rintro e w2 ⟨rfl, h2⟩
      have f0_2 : w2.cell? ⟨w.heap.size, 0, none⟩ = some (.int .u32 (a0 : Nat)) := carry h2 f0_1
      have f1_2 : w2.cell? ⟨w.heap.size, 1, none⟩ = some (.int .i64 n0) := carry h2 f1_1
      have f2_2 : w2.cell? ⟨w.heap.size + 1, 0, none⟩ = some (.int .u32 (a0 : Nat)) := carry h2 f2_1
      have f3_2 : w2.cell? ⟨w.heap.size + 1, 1, none⟩ = some (.int .i64 n0) := carry h2 f3_1
      have f4_2 : w2.cell? ⟨w.heap.size + 1 + 1, 0, none⟩ = some (.int .u32 (a2 : Nat)) := carry h2 f4_1
      have f5_2 : w2.cell? ⟨w.heap.size + 1 + 1, 1, none⟩ = some (.int .i64 n2) := carry h2 f5_1
      have B2 := Lib.hid (below_then B1.out h2)
      clear h2 f0_1 f1_1 f2_1 f3_1 f4_1 f5_1
      go_wp2_with fail
      go_at_call 22
      refine (compare_any _ _ _ _ _).mono ?_
      rintro e w3 ⟨rfl, h3⟩
      have f0_3 : w3.cell? ⟨w.heap.size, 0, none⟩ = some (.int .u32 (a0 : Nat)) := carry h3 f0_2
      have f1_3 : w3.cell? ⟨w.heap.size, 1, none⟩ = some (.int .i64 n0) := carry h3 f1_2
      have f2_3 : w3.cell? ⟨w.heap.size + 1, 0, none⟩ = some (.int .u32 (a0 : Nat)) := carry h3 f2_2
      have f3_3 : w3.cell? ⟨w.heap.size + 1, 1, none⟩ = some (.int .i64 n0) := carry h3 f3_2
      have f4_3 : w3.cell? ⟨w.heap.size + 1 + 1, 0, none⟩ = some (.int .u32 (a2 : Nat)) := carry h3 f4_2
      have f5_3 : w3.cell? ⟨w.heap.size + 1 + 1, 1, none⟩ = some (.int .i64 n2) := carry h3 f5_2
      have B3 := Lib.hid (below_then B2.out h3)
      clear h3 f0_2 f1_2 f2_2 f3_2 f4_2 f5_2
      go_wp2_with fail
      go_at_call 22
      refine (compare_any _ _ _ _ _).mono ?_
      rintro e w4 ⟨rfl, h4⟩
      have f0_4 : w4.cell? ⟨w.heap.size, 0, none⟩ = some (.int .u32 (a0 : Nat)) := carry h4 f0_3
      have f1_4 : w4.cell? ⟨w.heap.size, 1, none⟩ = some (.int .i64 n0) := carry h4 f1_3
      have f2_4 : w4.cell? ⟨w.heap.size + 1, 0, none⟩ = some (.int .u32 (a0 : Nat)) := carry h4 f2_3
      have f3_4 : w4.cell? ⟨w.heap.size + 1, 1, none⟩ = some (.int .i64 n0) := carry h4 f3_3
      have f4_4 : w4.cell? ⟨w.heap.size + 1 + 1, 0, none⟩ = some (.int .u32 (a2 : Nat)) := carry h4 f4_3
      have f5_4 : w4.cell? ⟨w.heap.size + 1 + 1, 1, none⟩ = some (.int .i64 n2) := carry h4 f5_3
      have B4 := Lib.hid (below_then B3.out h4)
      clear h4 f0_3 f1_3 f2_3 f3_3 f4_3 f5_3
      go_wp2_with fail
      go_at_call 21
      refine (lives_any _ (tab_below HT.out B4.out)).mono ?_
      rintro e w5 ⟨rfl, h5⟩
      have f0_5 : w5.cell? ⟨w.heap.size, 0, none⟩ = some (.int .u32 (a0 : Nat)) := carry h5 f0_4
      have f1_5 : w5.cell? ⟨w.heap.size, 1, none⟩ = some (.int .i64 n0) := carry h5 f1_4
      have f2_5 : w5.cell? ⟨w.heap.size + 1, 0, none⟩ = some (.int .u32 (a0 : Nat)) := carry h5 f2_4
      have f3_5 : w5.cell? ⟨w.heap.size + 1, 1, none⟩ = some (.int .i64 n0) := carry h5 f3_4
      have f4_5 : w5.cell? ⟨w.heap.size + 1 + 1, 0, none⟩ = some (.int .u32 (a2 : Nat)) := carry h5 f4_4
      have f5_5 : w5.cell? ⟨w.heap.size + 1 + 1, 1, none⟩ = some (.int .i64 n2) := carry h5 f5_4
      have B5 := Lib.hid (below_then B4.out h5)
      clear h5 f0_4 f1_4 f2_4 f3_4 f4_4 f5_4
      go_wp2_with fail
      go_ret
      exact ⟨rfl, B5.out⟩
    · have hz := cmp_trans (a := a0) (n := n0) (b := a0) (m := n0) (c := a2) (k := n2) (by rw [hx]; omega) (by rw [hy]; omega)
      have hd : decide (cmpP a0 n0 a2 n2 ≤ 0) = true := decide_eq_true hz
      clear hz
      go_enter Tryd.func4, Tryd.ntmps4
      go_wp2
      go_region_held3 (fun w' => w'.cell? ⟨w.heap.size, 0, none⟩ = some (.int .u32 (a0 : Nat)) ∧ w'.cell? ⟨w.heap.size, 1, none⟩ = some (.int .i64 n0) ∧ w'.cell? ⟨w.heap.size + 1, 0, none⟩ = some (.int .u32 (a0 : Nat)) ∧ w'.cell? ⟨w.heap.size + 1, 1, none⟩ = some (.int .i64 n0) ∧ w'.cell? ⟨w.heap.size + 1 + 1, 0, none⟩ = some (.int .u32 (a2 : Nat)) ∧ w'.cell? ⟨w.heap.size + 1 + 1, 1, none⟩ = some (.int .i64 n2) ∧ Boxed w w')
        (first | exact ⟨by go_simp, by go_simp, by go_simp, by go_simp, by go_simp, by go_simp, boxed_drew (boxed3 _ _ _ _)⟩ | go_keep)
        (first | (go_at_call 22; refine (compare_any _ _ _ _ _).mono ?_; rintro e w1 ⟨rfl, hb⟩; have hk := keep6 ‹_› hb; clear hb))
      obtain ⟨f0_1, f1_1, f2_1, f3_1, f4_1, f5_1, HB⟩ := hk
      have B1 := Lib.hid HB.1
      clear HB
      go_wp2_with fail
      go_at_call 23
      refine (rcompare_any _ _ _ _ _).mono ?_
      rintro e w2 ⟨rfl, h2⟩
      have f0_2 : w2.cell? ⟨w.heap.size, 0, none⟩ = some (.int .u32 (a0 : Nat)) := carry h2 f0_1
      have f1_2 : w2.cell? ⟨w.heap.size, 1, none⟩ = some (.int .i64 n0) := carry h2 f1_1
      have f2_2 : w2.cell? ⟨w.heap.size + 1, 0, none⟩ = some (.int .u32 (a0 : Nat)) := carry h2 f2_1
      have f3_2 : w2.cell? ⟨w.heap.size + 1, 1, none⟩ = some (.int .i64 n0) := carry h2 f3_1
      have f4_2 : w2.cell? ⟨w.heap.size + 1 + 1, 0, none⟩ = some (.int .u32 (a2 : Nat)) := carry h2 f4_1
      have f5_2 : w2.cell? ⟨w.heap.size + 1 + 1, 1, none⟩ = some (.int .i64 n2) := carry h2 f5_1
      have B2 := Lib.hid (below_then B1.out h2)
      clear h2 f0_1 f1_1 f2_1 f3_1 f4_1 f5_1
      go_wp2_with fail
      go_at_call 22
      refine (compare_any _ _ _ _ _).mono ?_
      rintro e w3 ⟨rfl, h3⟩
      have f0_3 : w3.cell? ⟨w.heap.size, 0, none⟩ = some (.int .u32 (a0 : Nat)) := carry h3 f0_2
      have f1_3 : w3.cell? ⟨w.heap.size, 1, none⟩ = some (.int .i64 n0) := carry h3 f1_2
      have f2_3 : w3.cell? ⟨w.heap.size + 1, 0, none⟩ = some (.int .u32 (a0 : Nat)) := carry h3 f2_2
      have f3_3 : w3.cell? ⟨w.heap.size + 1, 1, none⟩ = some (.int .i64 n0) := carry h3 f3_2
      have f4_3 : w3.cell? ⟨w.heap.size + 1 + 1, 0, none⟩ = some (.int .u32 (a2 : Nat)) := carry h3 f4_2
      have f5_3 : w3.cell? ⟨w.heap.size + 1 + 1, 1, none⟩ = some (.int .i64 n2) := carry h3 f5_2
      have B3 := Lib.hid (below_then B2.out h3)
      clear h3 f0_2 f1_2 f2_2 f3_2 f4_2 f5_2
      go_wp2_with fail
      go_at_call 22
      refine (compare_any _ _ _ _ _).mono ?_
      rintro e w4 ⟨rfl, h4⟩
      have f0_4 : w4.cell? ⟨w.heap.size, 0, none⟩ = some (.int .u32 (a0 : Nat)) := carry h4 f0_3
      have f1_4 : w4.cell? ⟨w.heap.size, 1, none⟩ = some (.int .i64 n0) := carry h4 f1_3
      have f2_4 : w4.cell? ⟨w.heap.size + 1, 0, none⟩ = some (.int .u32 (a0 : Nat)) := carry h4 f2_3
      have f3_4 : w4.cell? ⟨w.heap.size + 1, 1, none⟩ = some (.int .i64 n0) := carry h4 f3_3
      have f4_4 : w4.cell? ⟨w.heap.size + 1 + 1, 0, none⟩ = some (.int .u32 (a2 : Nat)) := carry h4 f4_3
      have f5_4 : w4.cell? ⟨w.heap.size + 1 + 1, 1, none⟩ = some (.int .i64 n2) := carry h4 f5_3
      have B4 := Lib.hid (below_then B3.out h4)
      clear h4 f0_3 f1_3 f2_3 f3_3 f4_3 f5_3
      go_wp2_with fail
      go_at_call 21
      refine (lives_any _ (tab_below HT.out B4.out)).mono ?_
      rintro e w5 ⟨rfl, h5⟩
      have f0_5 : w5.cell? ⟨w.heap.size, 0, none⟩ = some (.int .u32 (a0 : Nat)) := carry h5 f0_4
      have f1_5 : w5.cell? ⟨w.heap.size, 1, none⟩ = some (.int .i64 n0) := carry h5 f1_4
      have f2_5 : w5.cell? ⟨w.heap.size + 1, 0, none⟩ = some (.int .u32 (a0 : Nat)) := carry h5 f2_4
      have f3_5 : w5.cell? ⟨w.heap.size + 1, 1, none⟩ = some (.int .i64 n0) := carry h5 f3_4
      have f4_5 : w5.cell? ⟨w.heap.size + 1 + 1, 0, none⟩ = some (.int .u32 (a2 : Nat)) := carry h5 f4_4
      have f5_5 : w5.cell? ⟨w.heap.size + 1 + 1, 1, none⟩ = some (.int .i64 n2) := carry h5 f5_4
      have B5 := Lib.hid (below_then B4.out h5)
      clear h5 f0_4 f1_4 f2_4 f3_4 f4_4 f5_4
      go_wp2_with fail
      go_ret
      exact ⟨rfl, B5.out⟩
    · go_enter Tryd.func4, Tryd.ntmps4
      go_wp2
      go_region_held3 (fun w' => w'.cell? ⟨w.heap.size, 0, none⟩ = some (.int .u32 (a0 : Nat)) ∧ w'.cell? ⟨w.heap.size, 1, none⟩ = some (.int .i64 n0) ∧ w'.cell? ⟨w.heap.size + 1, 0, none⟩ = some (.int .u32 (a0 : Nat)) ∧ w'.cell? ⟨w.heap.size + 1, 1, none⟩ = some (.int .i64 n0) ∧ w'.cell? ⟨w.heap.size + 1 + 1, 0, none⟩ = some (.int .u32 (a2 : Nat)) ∧ w'.cell? ⟨w.heap.size + 1 + 1, 1, none⟩ = some (.int .i64 n2) ∧ Boxed w w')
        (first | exact ⟨by go_simp, by go_simp, by go_simp, by go_simp, by go_simp, by go_simp, boxed_drew (boxed3 _ _ _ _)⟩ | go_keep)
        (first | (go_at_call 22; refine (compare_any _ _ _ _ _).mono ?_; rintro e w1 ⟨rfl, hb⟩; have hk := keep6 ‹_› hb; clear hb))
      obtain ⟨f0_1, f1_1, f2_1, f3_1, f4_1, f5_1, HB⟩ := hk
      have B1 := Lib.hid HB.1
      clear HB
      go_wp2_with fail
      go_at_call 23
      refine (rcompare_any _ _ _ _ _).mono ?_
      rintro e w2 ⟨rfl, h2⟩
      have f0_2 : w2.cell? ⟨w.heap.size, 0, none⟩ = some (.int .u32 (a0 : Nat)) := carry h2 f0_1
      have f1_2 : w2.cell? ⟨w.heap.size, 1, none⟩ = some (.int .i64 n0) := carry h2 f1_1
      have f2_2 : w2.cell? ⟨w.heap.size + 1, 0, none⟩ = some (.int .u32 (a0 : Nat)) := carry h2 f2_1
      have f3_2 : w2.cell? ⟨w.heap.size + 1, 1, none⟩ = some (.int .i64 n0) := carry h2 f3_1
      have f4_2 : w2.cell? ⟨w.heap.size + 1 + 1, 0, none⟩ = some (.int .u32 (a2 : Nat)) := carry h2 f4_1
      have f5_2 : w2.cell? ⟨w.heap.size + 1 + 1, 1, none⟩ = some (.int .i64 n2) := carry h2 f5_1
      have B2 := Lib.hid (below_then B1.out h2)
      clear h2 f0_1 f1_1 f2_1 f3_1 f4_1 f5_1
      go_wp2_with fail
      go_at_call 22
      refine (compare_any _ _ _ _ _).mono ?_
      rintro e w3 ⟨rfl, h3⟩
      have f0_3 : w3.cell? ⟨w.heap.size, 0, none⟩ = some (.int .u32 (a0 : Nat)) := carry h3 f0_2
      have f1_3 : w3.cell? ⟨w.heap.size, 1, none⟩ = some (.int .i64 n0) := carry h3 f1_2
      have f2_3 : w3.cell? ⟨w.heap.size + 1, 0, none⟩ = some (.int .u32 (a0 : Nat)) := carry h3 f2_2
      have f3_3 : w3.cell? ⟨w.heap.size + 1, 1, none⟩ = some (.int .i64 n0) := carry h3 f3_2
      have f4_3 : w3.cell? ⟨w.heap.size + 1 + 1, 0, none⟩ = some (.int .u32 (a2 : Nat)) := carry h3 f4_2
      have f5_3 : w3.cell? ⟨w.heap.size + 1 + 1, 1, none⟩ = some (.int .i64 n2) := carry h3 f5_2
      have B3 := Lib.hid (below_then B2.out h3)
      clear h3 f0_2 f1_2 f2_2 f3_2 f4_2 f5_2
      go_wp2_with fail
      go_at_call 21
      refine (lives_any _ (tab_below HT.out B3.out)).mono ?_
      rintro e w4 ⟨rfl, h4⟩
      have f0_4 : w4.cell? ⟨w.heap.size, 0, none⟩ = some (.int .u32 (a0 : Nat)) := carry h4 f0_3
      have f1_4 : w4.cell? ⟨w.heap.size, 1, none⟩ = some (.int .i64 n0) := carry h4 f1_3
      have f2_4 : w4.cell? ⟨w.heap.size + 1, 0, none⟩ = some (.int .u32 (a0 : Nat)) := carry h4 f2_3
      have f3_4 : w4.cell? ⟨w.heap.size + 1, 1, none⟩ = some (.int .i64 n0) := carry h4 f3_3
      have f4_4 : w4.cell? ⟨w.heap.size + 1 + 1, 0, none⟩ = some (.int .u32 (a2 : Nat)) := carry h4 f4_3
      have f5_4 : w4.cell? ⟨w.heap.size + 1 + 1, 1, none⟩ = some (.int .i64 n2) := carry h4 f5_3
      have B4 := Lib.hid (below_then B3.out h4)
      clear h4 f0_3 f1_3 f2_3 f3_3 f4_3 f5_3
      go_wp2_with fail
      go_ret
      exact ⟨rfl, B4.out⟩
theorem contract (H : Type) (enc : TypeId × Value → H) (W : World) (base : Nat) (args : Array Value) (ds gs : List (DataW H)) (before : List MemPlace)
    (hval : ∀ (j : Nat) t v, Tryd.f4.params[j]? = some t → args[j]? = some v → Value.okWide Tryd.prog W .any base t v)
    (hW : DataW.Whole enc Tryd.prog Tryd.f4.params.toList Rows.prefixOrdersSpec.vars false W args.toList ds gs before)
    (hsz : (DataW.weightsEach Tryd.prog (Tryd.f4.params.toList ++ (OpenSpec.ofChange Rows.prefixOrdersSpec).bare.plain.varTypes Tryd.prog) (ds ++ gs)).all (· ≤ reachBytes) = true)
    (hL : laidMetH Tryd.prog Rows.prefixOrdersRow.laid W) :
    Calls Tryd.prog 4 args W fun e W' => ∃ v, e = .returned v ∧ Rows.prefixOrdersSpec.post enc Tryd.prog Tryd.f4 false true false false W args v W' := by
  have hT : Tab W := tab_of_laid hL
  have hW' := hW
  obtain ⟨p, q, hA0, hV, rfl, hfz, hnd⟩ := hW
  have hA : DataW.TrodAll enc Tryd.prog W 0 (fun _ => true) true Tryd.f4.params.toList args.toList ds p := hA0
  rw [Tryd.params4] at hA hval hsz
  obtain ⟨v0, vs0, d0, ds0, p0, q0, hargs, rfl, rfl, h0, r0⟩ := trodAll_cons hA
  obtain ⟨v1, vs1, d1, ds1, p1, q1, rfl, rfl, rfl, h1, r1⟩ := trodAll_cons r0
  obtain ⟨v2, vs2, d2, ds2, p2, q2, rfl, rfl, rfl, h2, r2⟩ := trodAll_cons r1
  obtain ⟨rfl, rfl, rfl⟩ := trodAll_nil r2
  obtain rfl : args = #[v0, v1, v2] := by cases args; simp_all
  obtain ⟨rfl, rfl⟩ := trodVars_none hV
  obtain ⟨a0, n0, rfl, rfl, rfl, ha0, hn0⟩ := open_prefix (hval 0 25 v0 rfl rfl) h0
  obtain ⟨a1, n1, rfl, rfl, rfl, ha1, hn1⟩ := open_prefix (hval 1 25 v1 rfl rfl) h1
  obtain ⟨a2, n2, rfl, rfl, rfl, ha2, hn2⟩ := open_prefix (hval 2 25 v2 rfl rfl) h2
  clear hA0
  simp only [List.append_nil] at hW'
  refine (walk a0 n0 ha0 hn0 a1 n1 ha1 hn1 a2 n2 ha2 hn2 W hT).mono fun e W' ⟨he, hb⟩ => ?_
  subst he
  exact ⟨_, rfl, _, _, _, [], [], [], hW', (trodAll_cons_mk (shut_bool Tryd.underlying4 _) trodAll_mk0), (trodAll_cons_mk (shut_prefix ha0 hn0) (trodAll_cons_mk (shut_prefix ha1 hn1) (trodAll_cons_mk (shut_prefix ha2 hn2) trodAll_mk0))), rfl, hb.frame _, fun h => by cases h⟩
theorem reads (os : Os) {H : Type} (enc : TypeId × Value → H) : ∃ places, DataW.whole enc Tryd.prog ((laidWorld os).forCall (fun _ _ => 0) ⟨#[], #[.agg #[.int .u32 0, .int .i64 0], .agg #[.int .u32 0, .int .i64 0], .agg #[.int .u32 0, .int .i64 0]], []⟩).memory Tryd.f4.params.toList Rows.prefixOrdersSpec.vars false (#[.agg #[.int .u32 0, .int .i64 0], .agg #[.int .u32 0, .int .i64 0], .agg #[.int .u32 0, .int .i64 0]] : Array Value).toList 8 = some ([.agg [.lit (.int .u32 0), .lit (.int .i64 0)], .agg [.lit (.int .u32 0), .lit (.int .i64 0)], .agg [.lit (.int .u32 0), .lit (.int .i64 0)]], [], places) :=
  ⟨[], by kernel_rfl⟩
theorem lifted (os : Os) (started : os.Started) (H : Type) (enc : TypeId × Value → H) (F : Stop.Interp) :
    ReturnsInHanded {} Tryd.checked os 4 .any ((OpenSpec.ofChange Rows.prefixOrdersSpec).preRow enc Tryd.prog Tryd.f4 Rows.prefixOrdersRow.domain false Rows.prefixOrdersRow.laid) (((OpenSpec.ofChange Rows.prefixOrdersSpec).at F).post enc Tryd.prog Tryd.f4 false true false false) := by
  obtain ⟨places, hx⟩ := reads os enc
  refine returnsInHanded_of_row (C := Tryd.checked) (s := OpenSpec.ofChange Rows.prefixOrdersSpec) own started (by kernel_rfl) Tryd.func4
    (witness_row_at (enc := enc) (C := Tryd.checked) false (laidWorld os) #[.agg #[.int .u32 0, .int .i64 0], .agg #[.int .u32 0, .int .i64 0], .agg #[.int .u32 0, .int .i64 0]] rfl (by kernel_rfl) (by kernel_rfl) (by kernel_rfl)
      (OpenSpec.preRow_of_cond 8 hx (by kernel_rfl) (fun k hk => by cases hk) (by kernel_rfl) (laid_met os _))) ?_
  intro W base args ds gs before hval hW _ _ hsz hL _ _
  exact contract H enc W base args ds gs before hval hW hsz hL
theorem said : Rows.PrefixOrdersSaid :=
  OpenClaim.holds_of_cond 4 Tryd.f4 rfl rfl rfl rfl rfl rfl rfl ⟨rfl, rfl, rfl, rfl, rfl⟩ rfl rfl rfl rfl rfl (by kernel_rfl) Tryd.func4 (by kernel_rfl)
    (of_decide_eq_true (by kernel_rfl)) (by unfold Func.isWrapper; first | (rw [if_pos (by decide +kernel)]; kernel_rfl) | (rw [if_neg (by decide +kernel)]; exact ⟨rfl, rfl⟩))
    (fun os started H enc _ F => by rw [OpenClaim.pre_eq_preRow]; exact lifted os started H enc F)
theorem plain (f : FuncId) (fn : Func) (hf : Tryd.pinned.checked.prog.funcNamed "routing/routinglaw02.PrefixOrders" = some f) (hfn : Tryd.pinned.checked.prog.funcs[f]? = some fn) :
    false = Tryd.pinned.checked.prog.looks [] ∧ ∀ (j : Nat) t, fn.params[j]? = some t → Tryd.pinned.checked.prog.wantsStandIn t = false := by
  obtain rfl : f = 4 := Option.some.inj ((show Tryd.prog.funcNamed "routing/routinglaw02.PrefixOrders" = some 4 by kernel_rfl).symm.trans hf) |>.symm
  obtain rfl : fn = Tryd.f4 := (Option.some.inj (Tryd.func4.symm.trans hfn)).symm
  refine ⟨by kernel_rfl, fun j t ht => ?_⟩
  rw [Tryd.params4] at ht
  have hm := Array.mem_of_getElem? ht
  have hall : ∀ t ∈ (#[25, 25, 25] : Array TypeId), Tryd.prog.wantsStandIn t = false := by
    intro t h
    simp at h
    rcases h with rfl <;> kernel_rfl
  exact hall t hm
theorem card : Rows.PrefixOrdersCardSaid :=
  Claim7.holds_tied_plain_at .later [] _ _ _ _ said (fun _ h => by cases h) (by kernel_rfl) (fun _ h => by cases h) prefixOrders_row_tie rfl ⟨rfl, rfl⟩ (by kernel_rfl) rfl plain (by kernel_rfl)
#print axioms card
end Go.Proofs.YtbcgfgklajdelaaDoor.prefixOrders
