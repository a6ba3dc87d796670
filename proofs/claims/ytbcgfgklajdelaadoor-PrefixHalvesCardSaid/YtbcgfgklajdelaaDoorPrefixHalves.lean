/-
  Proved: for every two prefix values and every address the law PrefixHalves returns true (each address of a prefix lies in exactly one of its halves, and of the prefixes of one length exactly one contains it, and the examples hold); the row lists three library tables, tied by the card; no other conditions.
-/
import Derived.Test.YtbcgfgklajdelaaDoorFrame
import Derived.Test.YtbcgfgklajdelaaDoorWalkE
namespace Go.Proofs.YtbcgfgklajdelaaDoor.prefixHalves
open Go.ChangeShapes Go.WideShapes Go.ChangeAt Go.RowKit
set_option linter.unusedSimpArgs false
set_option linter.unusedVariables false
set_option maxHeartbeats 4000000
set_option maxRecDepth 100000

theorem keep_keep (x n m : Nat) (h : m ≤ n) (hn : n ≤ 32) : M.keepN (M.keepN x n) m = M.keepN x m := by
  unfold M.keepN
  have e : 2 ^ (32 - m) = 2 ^ (32 - n) * 2 ^ (n - m) := by rw [← Nat.pow_add]; congr 1; omega
  have hp : 0 < 2 ^ (32 - n) := Nat.pow_pos (by omega)
  rw [e, ← Nat.div_div_eq_div_mul, ← Nat.div_div_eq_div_mul, Nat.mul_div_cancel _ hp]
theorem low_in {n : Int} (h0 : 0 ≤ n) (h1 : n ≤ 32) : M.lowN n 32 = n.toNat := by unfold M.lowN; omega
theorem con_parts {a : Nat} {n : Int} {x : Nat} (h : con a n x = true) : vld a n = true ∧ M.keepN x (M.lowN n 32) = a := by unfold con at h; simpa using h
theorem cov_parts {a : Nat} {n : Int} {b : Nat} {m : Int} (h : cov a n b m = true) : vld b m = true ∧ n ≤ m ∧ con a n b = true := by unfold cov at h; simpa using h
theorem cov_mk {a : Nat} {n : Int} {b : Nat} {m : Int} (h1 : vld b m = true) (h2 : n ≤ m) (h3 : con a n b = true) : cov a n b m = true := by unfold cov; simp [h1, h2, h3]
theorem con_mk {a : Nat} {n : Int} {x : Nat} (h1 : vld a n = true) (h2 : M.keepN x (M.lowN n 32) = a) : con a n x = true := by unfold con; simp [h1, h2]
theorem con_le {a b : Nat} {n m : Int} {x : Nat} (h1 : con a n x = true) (h2 : con b m x = true) (h : n ≤ m) : cov a n b m = true := by
  obtain ⟨v1, k1⟩ := con_parts h1
  obtain ⟨v2, k2⟩ := con_parts h2
  have i1 := vld_in v1
  have i2 := vld_in v2
  refine cov_mk v2 h (con_mk v1 ?_)
  rw [← k2, low_in i1.1 i1.2.1, low_in i2.1 i2.2.1, keep_keep x _ _ (by omega) (by omega), ← low_in i1.1 i1.2.1]; exact k1
theorem nested {a b : Nat} {n m : Int} {x : Nat} (h1 : con a n x = true) (h2 : con b m x = true) : cov a n b m = true ∨ cov b m a n = true := by
  rcases (by omega : n ≤ m ∨ m ≤ n) with h | h
  · exact .inl (con_le h1 h2 h)
  · exact .inr (con_le h2 h1 h)
theorem cov_trans {a b c : Nat} {n m k : Int} (h1 : cov a n b m = true) (h2 : cov b m c k = true) : cov a n c k = true := by
  obtain ⟨v1, l1, c1⟩ := cov_parts h1
  obtain ⟨v2, l2, c2⟩ := cov_parts h2
  obtain ⟨u1, k1⟩ := con_parts c1
  obtain ⟨u2, k2⟩ := con_parts c2
  have i1 := vld_in u1
  have i2 := vld_in u2
  refine cov_mk v2 (by omega) (con_mk u1 ?_)
  have := keep_keep c (M.lowN m 32) (M.lowN n 32) (by rw [low_in i1.1 i1.2.1, low_in i2.1 i2.2.1]; omega) (M.lowN_le _ _)
  rw [k2] at this
  rw [← this]; exact k1
theorem boxed2 (w : World) (o1 o2 : Obj) : Boxed w ((w.alloc o1).alloc o2) := ⟨below2 _ _ _, by simp; omega⟩
theorem boxed3 (w : World) (o1 o2 o3 : Obj) : Boxed w (((w.alloc o1).alloc o2).alloc o3) := ⟨below3 _ _ _ _, by simp; omega⟩
theorem keep4 {w W w1 : World} {p0 p1 p2 p3 : Addr} {c0 c1 c2 c3 : Value} (h : W.cell? p0 = some c0 ∧ W.cell? p1 = some c1 ∧ W.cell? p2 = some c2 ∧ W.cell? p3 = some c3 ∧ Boxed w W) (hb : Below W.heap.size W w1) :
    w1.cell? p0 = some c0 ∧ w1.cell? p1 = some c1 ∧ w1.cell? p2 = some c2 ∧ w1.cell? p3 = some c3 ∧ Boxed w w1 :=
  ⟨carry hb h.1, carry hb h.2.1, carry hb h.2.2.1, carry hb h.2.2.2.1, boxed_then h.2.2.2.2 hb⟩
theorem keep6 {w W w1 : World} {p0 p1 p2 p3 p4 p5 : Addr} {c0 c1 c2 c3 c4 c5 : Value} (h : W.cell? p0 = some c0 ∧ W.cell? p1 = some c1 ∧ W.cell? p2 = some c2 ∧ W.cell? p3 = some c3 ∧ W.cell? p4 = some c4 ∧ W.cell? p5 = some c5 ∧ Boxed w W) (hb : Below W.heap.size W w1) :
    w1.cell? p0 = some c0 ∧ w1.cell? p1 = some c1 ∧ w1.cell? p2 = some c2 ∧ w1.cell? p3 = some c3 ∧ w1.cell? p4 = some c4 ∧ w1.cell? p5 = some c5 ∧ Boxed w w1 :=
  ⟨carry hb h.1, carry hb h.2.1, carry hb h.2.2.1, carry hb h.2.2.2.1, carry hb h.2.2.2.2.1, carry hb h.2.2.2.2.2.1, boxed_then h.2.2.2.2.2.2 hb⟩
theorem boxed_drew {w W : World} (h : Boxed w W) : Boxed w W.drew := ⟨h.1.drew, h.2⟩
theorem keep8 {w W w1 : World} {p0 p1 p2 p3 p4 p5 p6 p7 : Addr} {c0 c1 c2 c3 c4 c5 c6 c7 : Value} (h : W.cell? p0 = some c0 ∧ W.cell? p1 = some c1 ∧ W.cell? p2 = some c2 ∧ W.cell? p3 = some c3 ∧ W.cell? p4 = some c4 ∧ W.cell? p5 = some c5 ∧ W.cell? p6 = some c6 ∧ W.cell? p7 = some c7 ∧ Boxed w W) (hb : Below W.heap.size W w1) :
    w1.cell? p0 = some c0 ∧ w1.cell? p1 = some c1 ∧ w1.cell? p2 = some c2 ∧ w1.cell? p3 = some c3 ∧ w1.cell? p4 = some c4 ∧ w1.cell? p5 = some c5 ∧ w1.cell? p6 = some c6 ∧ w1.cell? p7 = some c7 ∧ Boxed w w1 :=
  ⟨carry hb h.1, carry hb h.2.1, carry hb h.2.2.1, carry hb h.2.2.2.1, carry hb h.2.2.2.2.1, carry hb h.2.2.2.2.2.1, carry hb h.2.2.2.2.2.2.1, carry hb h.2.2.2.2.2.2.2.1, boxed_then h.2.2.2.2.2.2.2.2 hb⟩
theorem contains_zero (x : Nat) (hx : x < 4294967296) (w : World) : Calls Tryd.prog 17 #[.agg #[.int .u32 0, .int .i64 0], .int .u32 x] w fun e w' => e = .returned (.bool (con 0 0 x)) ∧ Below w.heap.size w w' :=
  contains_any 0 (by omega) 0 (by omega) x hx w
theorem keepN_fix {a k : Nat} (hk : k ≤ 32) : M.keepN a k = a ↔ a % 2 ^ (32 - k) = 0 := by
  unfold M.keepN
  have := Nat.div_add_mod a (2 ^ (32 - k))
  rw [Nat.mul_comm] at this
  omega
theorem mid_add {a : Nat} {n : Int} (h0 : 0 ≤ n) (h31 : n ≤ 31) (hk : M.keepN a (M.lowN n 32) = a) : midN a n = a + 2 ^ (31 - n.toNat) := by
  rw [low_in h0 (by omega), keepN_fix (by omega)] at hk
  unfold midN
  refine M.nat_join (32 - n.toNat) _ _ hk ?_
  exact Nat.pow_lt_pow_right (by omega) (by omega)
theorem con_dec {a : Nat} {n : Int} {x : Nat} (h : vld a n = true) : con a n x = decide (M.keepN x (M.lowN n 32) = a) := by unfold con; rw [h]; rfl
theorem vld_mk {a : Nat} {n : Int} (h0 : 0 ≤ n) (h1 : n ≤ 32) (h : M.keepN a (M.lowN n 32) = a) : vld a n = true := vld_yes h0 h1 h
theorem halves_con (a : Nat) (n : Int) (hv : vld a n = true) (h31 : n ≤ 31) (x : Nat) :
    con a n x = (con a (n + 1) x || con (midN a n) (n + 1) x) ∧ (con a (n + 1) x && con (midN a n) (n + 1) x) = false := by
  obtain ⟨h0, _, hk⟩ := vld_in hv
  have hm := mid_add h0 h31 hk
  have hl1 : M.lowN (n + 1) 32 = n.toNat + 1 := by rw [low_in (by omega) (by omega)]; omega
  have hl0 : M.lowN n 32 = n.toNat := low_in h0 (by omega)
  generalize hkk : n.toNat = k at *
  have hk31 : k ≤ 31 := by omega
  rw [hl0] at hk
  have e32 : 32 - k = (31 - k) + 1 := by omega
  have e31 : 32 - (k + 1) = 31 - k := by omega
  have hp : 0 < 2 ^ (31 - k) := Nat.pow_pos (by omega)
  have hmod := (keepN_fix (by omega)).1 hk
  rw [e32, Nat.pow_succ] at hmod
  generalize hq : 2 ^ (31 - k) = q at *
  obtain ⟨m, hma⟩ : ∃ m, a = q * 2 * m := ⟨a / (q * 2), by have := Nat.div_add_mod a (q * 2); omega⟩
  have hx1 : M.keepN x (k + 1) = x / q * q := by unfold M.keepN; rw [e31, hq]
  have hx0 : M.keepN x k = x / q / 2 * (q * 2) := by unfold M.keepN; rw [e32, Nat.pow_succ, hq, Nat.div_div_eq_div_mul]
  have va : vld a (n + 1) = true := by
    refine vld_mk (by omega) (by omega) ?_
    rw [hl1, keepN_fix (by omega), e31, hq, hma, Nat.mul_assoc]; exact Nat.mul_mod_right _ _
  have vm : vld (midN a n) (n + 1) = true := by
    refine vld_mk (by omega) (by omega) ?_
    rw [hl1, keepN_fix (by omega), e31, hq, hm, hma, Nat.mul_assoc, Nat.mul_add_mod]; exact Nat.mod_self q
  rw [con_dec hv, con_dec va, con_dec vm, hl0, hl1, hx0, hx1, hm, hma]
  generalize x / q = y
  have c1 : (y * q = q * 2 * m) ↔ y = 2 * m := by
    rw [show q * 2 * m = 2 * m * q by rw [Nat.mul_comm q 2, Nat.mul_assoc, Nat.mul_comm q m, ← Nat.mul_assoc]]
    exact ⟨fun h => Nat.eq_of_mul_eq_mul_right hp h, fun h => by rw [h]⟩
  have c2 : (y * q = q * 2 * m + q) ↔ y = 2 * m + 1 := by
    rw [show q * 2 * m + q = (2 * m + 1) * q by rw [Nat.add_mul, Nat.one_mul, Nat.mul_comm q 2, Nat.mul_assoc, Nat.mul_comm q m, ← Nat.mul_assoc]]
    exact ⟨fun h => Nat.eq_of_mul_eq_mul_right hp h, fun h => by rw [h]⟩
  have c0 : (y / 2 * (q * 2) = q * 2 * m) ↔ y / 2 = m := by
    rw [Nat.mul_comm (q * 2) m]
    exact ⟨fun h => Nat.eq_of_mul_eq_mul_right (by omega) h, fun h => by rw [h]⟩
  simp only [c0, c1, c2]
  constructor
  · rw [Bool.eq_iff_iff]; simp; omega
  · by_cases h : y = 2 * m
    · simp [h]
    · simp [h]
theorem con_make (x : Nat) (n : Int) (h0 : 0 ≤ n) (h1 : n ≤ 32) : con (M.keepN x (M.lowN n 32)) n x = true := by
  have hv : vld (M.keepN x (M.lowN n 32)) n = true := vld_mk h0 h1 (keep_keep x _ _ (Nat.le_refl _) (M.lowN_le _ _))
  rw [con_dec hv]; simp
theorem walk (a0 : Nat) (n0 : Int) (ha0 : a0 < 4294967296) (hn0 : I64 n0) (a1 : Nat) (n1 : Int) (ha1 : a1 < 4294967296) (hn1 : I64 n1) (a2 : Nat) (ha2 : a2 < 4294967296) (w : World) (hT : Tab w) :
    Calls Tryd.prog 9 #[.agg #[.int .u32 (a0 : Nat), .int .i64 n0], .agg #[.int .u32 (a1 : Nat), .int .i64 n1], .int .u32 (a2 : Nat)] w fun e w' => e = .returned (.bool true) ∧ Below w.heap.size w w' := by
  have HT := Lib.hid hT
  clear hT
  by_cases hok : vld a0 n0 = true ∧ n0 ≠ 32
  · obtain ⟨hv, h32⟩ := hok
    have h0 := (vld_in hv).1
    have h31 : n0 ≤ 31 := by have := (vld_in hv).2.1; omega
    have hmid := midN_lt a0 ha0 n0
    obtain ⟨F1, F2⟩ := halves_con a0 n0 hv h31 a2
    clear h32
    cases hc1 : con a0 (n0 + 1) a2 <;> cases hc2 : con (midN a0 n0) (n0 + 1) a2 <;> rw [hc1, hc2] at F1 F2
    · have hc0 : con a0 n0 a2 = false := F1
      clear F1 F2
      cases hqv : vld a1 n1
      · go_enter Tryd.func9, Tryd.ntmps9
        go_wp2_with fail
        go_at_call 27
        refine (halves_yes _ ha0 _ hn0 _ hv h0 h31).mono ?_
        rintro e w1 ⟨rfl, h1⟩
        have f0_1 : w1.cell? ⟨w.heap.size, 0, none⟩ = some (.int .u32 (a0 : Nat)) := carry h1 (by go_simp)
        have f1_1 : w1.cell? ⟨w.heap.size, 1, none⟩ = some (.int .i64 n0) := carry h1 (by go_simp)
        have f2_1 : w1.cell? ⟨w.heap.size + 1, 0, none⟩ = some (.int .u32 (a1 : Nat)) := carry h1 (by go_simp)
        have f3_1 : w1.cell? ⟨w.heap.size + 1, 1, none⟩ = some (.int .i64 n1) := carry h1 (by go_simp)
        have zp1 : w.heap.size < w1.heap.size := World.block_lt_of_cell? _ _ f0_1
        have zq1 : w.heap.size + 1 < w1.heap.size := World.block_lt_of_cell? _ _ f2_1
        have B1 := Lib.hid (below_then (below2 _ _ _) h1)
        clear h1
        go_wp2_with fail
        have HB1 : Boxed w ((w1.alloc (Obj.cells #[Value.int .u32 (a0 : Nat), Value.int .i64 (n0 + 1)] 25)).alloc (Obj.cells #[Value.int .u32 (midN a0 n0 : Nat), Value.int .i64 (n0 + 1)] 25)).drew := ⟨(below_then (below_then B1.out (below_alloc _ _)) (below_alloc _ _)).drew, by simp; omega⟩
        go_region_held3 (fun w' => w'.cell? ⟨w.heap.size, 0, none⟩ = some (.int .u32 (a0 : Nat)) ∧ w'.cell? ⟨w.heap.size, 1, none⟩ = some (.int .i64 n0) ∧ w'.cell? ⟨w.heap.size + 1, 0, none⟩ = some (.int .u32 (a1 : Nat)) ∧ w'.cell? ⟨w.heap.size + 1, 1, none⟩ = some (.int .i64 n1) ∧ w'.cell? ⟨w1.heap.size, 0, none⟩ = some (.int .u32 (a0 : Nat)) ∧ w'.cell? ⟨w1.heap.size, 1, none⟩ = some (.int .i64 (n0 + 1)) ∧ w'.cell? ⟨w1.heap.size + 1, 0, none⟩ = some (.int .u32 (midN a0 n0 : Nat)) ∧ w'.cell? ⟨w1.heap.size + 1, 1, none⟩ = some (.int .i64 (n0 + 1)) ∧ Boxed w w')
          (first | exact ⟨akeep (akeep f0_1), akeep (akeep f1_1), akeep (akeep f2_1), akeep (akeep f3_1), by go_simp, by go_simp, by go_simp, by go_simp, HB1⟩ | go_keep)
          (first | (go_at_call 17; refine (contains_any _ (by first | exact ha0 | exact hmid) _ (by omega) _ ha2 _).mono ?_; rintro e w2 ⟨rfl, hb⟩; have hk := keep8 ‹_› hb; clear hb))
        all_goals obtain ⟨f0_2, f1_2, f2_2, f3_2, _, _, _, _, HB⟩ := hk
        all_goals have B2 := Lib.hid HB.1
        all_goals clear HB HB1 f0_1 f1_1 f2_1 f3_1 zp1 zq1
        all_goals go_wp2_with fail
        all_goals
          go_at_call 17
          refine (contains_any _ ha0 _ hn0 _ ha2 _).mono ?_
          rintro e w3 ⟨rfl, h3⟩
          have f0_3 : w3.cell? ⟨w.heap.size, 0, none⟩ = some (.int .u32 (a0 : Nat)) := carry h3 (f0_2)
          have f1_3 : w3.cell? ⟨w.heap.size, 1, none⟩ = some (.int .i64 n0) := carry h3 (f1_2)
          have f2_3 : w3.cell? ⟨w.heap.size + 1, 0, none⟩ = some (.int .u32 (a1 : Nat)) := carry h3 (f2_2)
          have f3_3 : w3.cell? ⟨w.heap.size + 1, 1, none⟩ = some (.int .i64 n1) := carry h3 (f3_2)
          have B3 := Lib.hid (below_then B2.out h3)
          clear h3 f0_2 f1_2 f2_2 f3_2
          go_wp2_with fail
          go_at_call 15
          refine (valid_any _ ha1 _ hn1 _).mono ?_
          rintro e w4 ⟨rfl, h4⟩
          have f0_4 : w4.cell? ⟨w.heap.size, 0, none⟩ = some (.int .u32 (a0 : Nat)) := carry h4 (f0_3)
          have f1_4 : w4.cell? ⟨w.heap.size, 1, none⟩ = some (.int .i64 n0) := carry h4 (f1_3)
          have f2_4 : w4.cell? ⟨w.heap.size + 1, 0, none⟩ = some (.int .u32 (a1 : Nat)) := carry h4 (f2_3)
          have f3_4 : w4.cell? ⟨w.heap.size + 1, 1, none⟩ = some (.int .i64 n1) := carry h4 (f3_3)
          have B4 := Lib.hid (below_then B3.out h4)
          clear h4 f0_3 f1_3 f2_3 f3_3
          go_wp2_with fail
          go_at_call 21
          refine (lives_any _ (tab_below HT.out B4.out)).mono ?_
          rintro e w5 ⟨rfl, h5⟩
          have B5 := Lib.hid (below_then B4.out h5)
          clear h5
          go_wp2_with fail
          go_ret
          exact ⟨rfl, B5.out⟩
      · obtain ⟨hq0, hq1, _⟩ := vld_in hqv
        have hcm := con_make a2 n1 hq0 hq1
        have hmk : M.keepN a2 (M.lowN n1 32) < 4294967296 := Nat.lt_of_le_of_lt (M.keepN_le _ _) ha2
        have hcd := con_dec (x := a2) hqv
        by_cases he : M.keepN a2 (M.lowN n1 32) = a1
        · have hcq : con a1 n1 a2 = true := by rw [hcd, he]; simp
          have he2 : ((a1 : Int) == (M.keepN a2 (M.lowN n1 32) : Nat)) = true := by rw [he]; simp
          clear hcd he
          go_enter Tryd.func9, Tryd.ntmps9
          go_wp2_with fail
          go_at_call 27
          refine (halves_yes _ ha0 _ hn0 _ hv h0 h31).mono ?_
          rintro e w1 ⟨rfl, h1⟩
          have f0_1 : w1.cell? ⟨w.heap.size, 0, none⟩ = some (.int .u32 (a0 : Nat)) := carry h1 (by go_simp)
          have f1_1 : w1.cell? ⟨w.heap.size, 1, none⟩ = some (.int .i64 n0) := carry h1 (by go_simp)
          have f2_1 : w1.cell? ⟨w.heap.size + 1, 0, none⟩ = some (.int .u32 (a1 : Nat)) := carry h1 (by go_simp)
          have f3_1 : w1.cell? ⟨w.heap.size + 1, 1, none⟩ = some (.int .i64 n1) := carry h1 (by go_simp)
          have zp1 : w.heap.size < w1.heap.size := World.block_lt_of_cell? _ _ f0_1
          have zq1 : w.heap.size + 1 < w1.heap.size := World.block_lt_of_cell? _ _ f2_1
          have B1 := Lib.hid (below_then (below2 _ _ _) h1)
          clear h1
          go_wp2_with fail
          have HB1 : Boxed w ((w1.alloc (Obj.cells #[Value.int .u32 (a0 : Nat), Value.int .i64 (n0 + 1)] 25)).alloc (Obj.cells #[Value.int .u32 (midN a0 n0 : Nat), Value.int .i64 (n0 + 1)] 25)).drew := ⟨(below_then (below_then B1.out (below_alloc _ _)) (below_alloc _ _)).drew, by simp; omega⟩
          go_region_held3 (fun w' => w'.cell? ⟨w.heap.size, 0, none⟩ = some (.int .u32 (a0 : Nat)) ∧ w'.cell? ⟨w.heap.size, 1, none⟩ = some (.int .i64 n0) ∧ w'.cell? ⟨w.heap.size + 1, 0, none⟩ = some (.int .u32 (a1 : Nat)) ∧ w'.cell? ⟨w.heap.size + 1, 1, none⟩ = some (.int .i64 n1) ∧ w'.cell? ⟨w1.heap.size, 0, none⟩ = some (.int .u32 (a0 : Nat)) ∧ w'.cell? ⟨w1.heap.size, 1, none⟩ = some (.int .i64 (n0 + 1)) ∧ w'.cell? ⟨w1.heap.size + 1, 0, none⟩ = some (.int .u32 (midN a0 n0 : Nat)) ∧ w'.cell? ⟨w1.heap.size + 1, 1, none⟩ = some (.int .i64 (n0 + 1)) ∧ Boxed w w')
            (first | exact ⟨akeep (akeep f0_1), akeep (akeep f1_1), akeep (akeep f2_1), akeep (akeep f3_1), by go_simp, by go_simp, by go_simp, by go_simp, HB1⟩ | go_keep)
            (first | (go_at_call 17; refine (contains_any _ (by first | exact ha0 | exact hmid) _ (by omega) _ ha2 _).mono ?_; rintro e w2 ⟨rfl, hb⟩; have hk := keep8 ‹_› hb; clear hb))
          all_goals obtain ⟨f0_2, f1_2, f2_2, f3_2, _, _, _, _, HB⟩ := hk
          all_goals have B2 := Lib.hid HB.1
          all_goals clear HB HB1 f0_1 f1_1 f2_1 f3_1 zp1 zq1
          all_goals go_wp2_with fail
          all_goals
            go_at_call 17
            refine (contains_any _ ha0 _ hn0 _ ha2 _).mono ?_
            rintro e w3 ⟨rfl, h3⟩
            have f0_3 : w3.cell? ⟨w.heap.size, 0, none⟩ = some (.int .u32 (a0 : Nat)) := carry h3 (f0_2)
            have f1_3 : w3.cell? ⟨w.heap.size, 1, none⟩ = some (.int .i64 n0) := carry h3 (f1_2)
            have f2_3 : w3.cell? ⟨w.heap.size + 1, 0, none⟩ = some (.int .u32 (a1 : Nat)) := carry h3 (f2_2)
            have f3_3 : w3.cell? ⟨w.heap.size + 1, 1, none⟩ = some (.int .i64 n1) := carry h3 (f3_2)
            have B3 := Lib.hid (below_then B2.out h3)
            clear h3 f0_2 f1_2 f2_2 f3_2
            go_wp2_with fail
            go_at_call 15
            refine (valid_any _ ha1 _ hn1 _).mono ?_
            rintro e w4 ⟨rfl, h4⟩
            have f0_4 : w4.cell? ⟨w.heap.size, 0, none⟩ = some (.int .u32 (a0 : Nat)) := carry h4 (f0_3)
            have f1_4 : w4.cell? ⟨w.heap.size, 1, none⟩ = some (.int .i64 n0) := carry h4 (f1_3)
            have f2_4 : w4.cell? ⟨w.heap.size + 1, 0, none⟩ = some (.int .u32 (a1 : Nat)) := carry h4 (f2_3)
            have f3_4 : w4.cell? ⟨w.heap.size + 1, 1, none⟩ = some (.int .i64 n1) := carry h4 (f3_3)
            have B4 := Lib.hid (below_then B3.out h4)
            clear h4 f0_3 f1_3 f2_3 f3_3
            go_wp2_with fail
            go_at_call 12
            refine (make_yes _ ha2 _ hq0 hq1 _).mono ?_
            rintro e w5 ⟨rfl, h5⟩
            have f0_5 : w5.cell? ⟨w.heap.size, 0, none⟩ = some (.int .u32 (a0 : Nat)) := carry h5 (f0_4)
            have f1_5 : w5.cell? ⟨w.heap.size, 1, none⟩ = some (.int .i64 n0) := carry h5 (f1_4)
            have f2_5 : w5.cell? ⟨w.heap.size + 1, 0, none⟩ = some (.int .u32 (a1 : Nat)) := carry h5 (f2_4)
            have f3_5 : w5.cell? ⟨w.heap.size + 1, 1, none⟩ = some (.int .i64 n1) := carry h5 (f3_4)
            have zp5 : w.heap.size < w5.heap.size := World.block_lt_of_cell? _ _ f0_5
            have zq5 : w.heap.size + 1 < w5.heap.size := World.block_lt_of_cell? _ _ f2_5
            have B5 := Lib.hid (below_then B4.out h5)
            clear h5 f0_4 f1_4 f2_4 f3_4
            go_wp2_with fail
            have HBm : Boxed w (w5.alloc (Obj.cells #[Value.int IntKind.u32 (M.keepN a2 (M.lowN n1 32) : Nat), Value.int IntKind.i64 n1] 25)).drew := ⟨(below_then B5.out (below_alloc _ _)).drew, by simp; omega⟩
            go_region_held3 (fun w' => w'.cell? ⟨w.heap.size + 1, 0, none⟩ = some (.int .u32 (a1 : Nat)) ∧ w'.cell? ⟨w.heap.size + 1, 1, none⟩ = some (.int .i64 n1) ∧ w'.cell? ⟨w5.heap.size, 0, none⟩ = some (.int .u32 (M.keepN a2 (M.lowN n1 32) : Nat)) ∧ w'.cell? ⟨w5.heap.size, 1, none⟩ = some (.int .i64 n1) ∧ Boxed w w')
              (first | exact ⟨akeep f2_5, akeep f3_5, by go_simp, by go_simp, HBm⟩ | go_keep)
              (first
                | (go_at_call 17; refine (contains_any _ (by first | exact ha1 | exact hmk) _ hn1 _ ha2 _).mono ?_; rintro e w9 ⟨rfl, hb⟩; have hk := keep4 ‹_› hb; clear hb)
                | (go_at_call 21; refine (lives_any _ (tab_below HT.out (And.left (And.right (And.right (And.right (And.right ‹_ ∧ _ ∧ _ ∧ _ ∧ Boxed w _›))))))).mono ?_; rintro e w9 ⟨rfl, hb⟩; have hk := keep4 ‹_› hb; clear hb))
            all_goals go_wp2
            all_goals go_ret
            all_goals exact ⟨rfl, by obtain ⟨_, _, _, _, hB⟩ := hk; exact hB.1⟩
        · have hcq : con a1 n1 a2 = false := by rw [hcd]; simpa using he
          have he2 : ((a1 : Int) == (M.keepN a2 (M.lowN n1 32) : Nat)) = false := by rw [beq_eq_false_iff_ne]; omega
          clear hcd he
          go_enter Tryd.func9, Tryd.ntmps9
          go_wp2_with fail
          go_at_call 27
          refine (halves_yes _ ha0 _ hn0 _ hv h0 h31).mono ?_
          rintro e w1 ⟨rfl, h1⟩
          have f0_1 : w1.cell? ⟨w.heap.size, 0, none⟩ = some (.int .u32 (a0 : Nat)) := carry h1 (by go_simp)
          have f1_1 : w1.cell? ⟨w.heap.size, 1, none⟩ = some (.int .i64 n0) := carry h1 (by go_simp)
          have f2_1 : w1.cell? ⟨w.heap.size + 1, 0, none⟩ = some (.int .u32 (a1 : Nat)) := carry h1 (by go_simp)
          have f3_1 : w1.cell? ⟨w.heap.size + 1, 1, none⟩ = some (.int .i64 n1) := carry h1 (by go_simp)
          have zp1 : w.heap.size < w1.heap.size := World.block_lt_of_cell? _ _ f0_1
          have zq1 : w.heap.size + 1 < w1.heap.size := World.block_lt_of_cell? _ _ f2_1
          have B1 := Lib.hid (below_then (below2 _ _ _) h1)
          clear h1
          go_wp2_with fail
          have HB1 : Boxed w ((w1.alloc (Obj.cells #[Value.int .u32 (a0 : Nat), Value.int .i64 (n0 + 1)] 25)).alloc (Obj.cells #[Value.int .u32 (midN a0 n0 : Nat), Value.int .i64 (n0 + 1)] 25)).drew := ⟨(below_then (below_then B1.out (below_alloc _ _)) (below_alloc _ _)).drew, by simp; omega⟩
          go_region_held3 (fun w' => w'.cell? ⟨w.heap.size, 0, none⟩ = some (.int .u32 (a0 : Nat)) ∧ w'.cell? ⟨w.heap.size, 1, none⟩ = some (.int .i64 n0) ∧ w'.cell? ⟨w.heap.size + 1, 0, none⟩ = some (.int .u32 (a1 : Nat)) ∧ w'.cell? ⟨w.heap.size + 1, 1, none⟩ = some (.int .i64 n1) ∧ w'.cell? ⟨w1.heap.size, 0, none⟩ = some (.int .u32 (a0 : Nat)) ∧ w'.cell? ⟨w1.heap.size, 1, none⟩ = some (.int .i64 (n0 + 1)) ∧ w'.cell? ⟨w1.heap.size + 1, 0, none⟩ = some (.int .u32 (midN a0 n0 : Nat)) ∧ w'.cell? ⟨w1.heap.size + 1, 1, none⟩ = some (.int .i64 (n0 + 1)) ∧ Boxed w w')
            (first | exact ⟨akeep (akeep f0_1), akeep (akeep f1_1), akeep (akeep f2_1), akeep (akeep f3_1), by go_simp, by go_simp, by go_simp, by go_simp, HB1⟩ | go_keep)
            (first | (go_at_call 17; refine (contains_any _ (by first | exact ha0 | exact hmid) _ (by omega) _ ha2 _).mono ?_; rintro e w2 ⟨rfl, hb⟩; have hk := keep8 ‹_› hb; clear hb))
          all_goals obtain ⟨f0_2, f1_2, f2_2, f3_2, _, _, _, _, HB⟩ := hk
          all_goals have B2 := Lib.hid HB.1
          all_goals clear HB HB1 f0_1 f1_1 f2_1 f3_1 zp1 zq1
          all_goals go_wp2_with fail
          all_goals
            go_at_call 17
            refine (contains_any _ ha0 _ hn0 _ ha2 _).mono ?_
            rintro e w3 ⟨rfl, h3⟩
            have f0_3 : w3.cell? ⟨w.heap.size, 0, none⟩ = some (.int .u32 (a0 : Nat)) := carry h3 (f0_2)
            have f1_3 : w3.cell? ⟨w.heap.size, 1, none⟩ = some (.int .i64 n0) := carry h3 (f1_2)
            have f2_3 : w3.cell? ⟨w.heap.size + 1, 0, none⟩ = some (.int .u32 (a1 : Nat)) := carry h3 (f2_2)
            have f3_3 : w3.cell? ⟨w.heap.size + 1, 1, none⟩ = some (.int .i64 n1) := carry h3 (f3_2)
            have B3 := Lib.hid (below_then B2.out h3)
            clear h3 f0_2 f1_2 f2_2 f3_2
            go_wp2_with fail
            go_at_call 15
            refine (valid_any _ ha1 _ hn1 _).mono ?_
            rintro e w4 ⟨rfl, h4⟩
            have f0_4 : w4.cell? ⟨w.heap.size, 0, none⟩ = some (.int .u32 (a0 : Nat)) := carry h4 (f0_3)
            have f1_4 : w4.cell? ⟨w.heap.size, 1, none⟩ = some (.int .i64 n0) := carry h4 (f1_3)
            have f2_4 : w4.cell? ⟨w.heap.size + 1, 0, none⟩ = some (.int .u32 (a1 : Nat)) := carry h4 (f2_3)
            have f3_4 : w4.cell? ⟨w.heap.size + 1, 1, none⟩ = some (.int .i64 n1) := carry h4 (f3_3)
            have B4 := Lib.hid (below_then B3.out h4)
            clear h4 f0_3 f1_3 f2_3 f3_3
            go_wp2_with fail
            go_at_call 12
            refine (make_yes _ ha2 _ hq0 hq1 _).mono ?_
            rintro e w5 ⟨rfl, h5⟩
            have f0_5 : w5.cell? ⟨w.heap.size, 0, none⟩ = some (.int .u32 (a0 : Nat)) := carry h5 (f0_4)
            have f1_5 : w5.cell? ⟨w.heap.size, 1, none⟩ = some (.int .i64 n0) := carry h5 (f1_4)
            have f2_5 : w5.cell? ⟨w.heap.size + 1, 0, none⟩ = some (.int .u32 (a1 : Nat)) := carry h5 (f2_4)
            have f3_5 : w5.cell? ⟨w.heap.size + 1, 1, none⟩ = some (.int .i64 n1) := carry h5 (f3_4)
            have zp5 : w.heap.size < w5.heap.size := World.block_lt_of_cell? _ _ f0_5
            have zq5 : w.heap.size + 1 < w5.heap.size := World.block_lt_of_cell? _ _ f2_5
            have B5 := Lib.hid (below_then B4.out h5)
            clear h5 f0_4 f1_4 f2_4 f3_4
            go_wp2_with fail
            have HBm : Boxed w (w5.alloc (Obj.cells #[Value.int IntKind.u32 (M.keepN a2 (M.lowN n1 32) : Nat), Value.int IntKind.i64 n1] 25)).drew := ⟨(below_then B5.out (below_alloc _ _)).drew, by simp; omega⟩
            go_region_held3 (fun w' => w'.cell? ⟨w.heap.size + 1, 0, none⟩ = some (.int .u32 (a1 : Nat)) ∧ w'.cell? ⟨w.heap.size + 1, 1, none⟩ = some (.int .i64 n1) ∧ w'.cell? ⟨w5.heap.size, 0, none⟩ = some (.int .u32 (M.keepN a2 (M.lowN n1 32) : Nat)) ∧ w'.cell? ⟨w5.heap.size, 1, none⟩ = some (.int .i64 n1) ∧ Boxed w w')
              (first | exact ⟨akeep f2_5, akeep f3_5, by go_simp, by go_simp, HBm⟩ | go_keep)
              (first
                | (go_at_call 17; refine (contains_any _ (by first | exact ha1 | exact hmk) _ hn1 _ ha2 _).mono ?_; rintro e w9 ⟨rfl, hb⟩; have hk := keep4 ‹_› hb; clear hb)
                | (go_at_call 21; refine (lives_any _ (tab_below HT.out (And.left (And.right (And.right (And.right (And.right ‹_ ∧ _ ∧ _ ∧ _ ∧ Boxed w _›))))))).mono ?_; rintro e w9 ⟨rfl, hb⟩; have hk := keep4 ‹_› hb; clear hb))
            all_goals go_wp2
            all_goals go_ret
            all_goals exact ⟨rfl, by obtain ⟨_, _, _, _, hB⟩ := hk; exact hB.1⟩
    · have hc0 : con a0 n0 a2 = true := F1
      clear F1 F2
      cases hqv : vld a1 n1
      · go_enter Tryd.func9, Tryd.ntmps9
        go_wp2_with fail
        go_at_call 27
        refine (halves_yes _ ha0 _ hn0 _ hv h0 h31).mono ?_
        rintro e w1 ⟨rfl, h1⟩
        have f0_1 : w1.cell? ⟨w.heap.size, 0, none⟩ = some (.int .u32 (a0 : Nat)) := carry h1 (by go_simp)
        have f1_1 : w1.cell? ⟨w.heap.size, 1, none⟩ = some (.int .i64 n0) := carry h1 (by go_simp)
        have f2_1 : w1.cell? ⟨w.heap.size + 1, 0, none⟩ = some (.int .u32 (a1 : Nat)) := carry h1 (by go_simp)
        have f3_1 : w1.cell? ⟨w.heap.size + 1, 1, none⟩ = some (.int .i64 n1) := carry h1 (by go_simp)
        have zp1 : w.heap.size < w1.heap.size := World.block_lt_of_cell? _ _ f0_1
        have zq1 : w.heap.size + 1 < w1.heap.size := World.block_lt_of_cell? _ _ f2_1
        have B1 := Lib.hid (below_then (below2 _ _ _) h1)
        clear h1
        go_wp2_with fail
        have HB1 : Boxed w ((w1.alloc (Obj.cells #[Value.int .u32 (a0 : Nat), Value.int .i64 (n0 + 1)] 25)).alloc (Obj.cells #[Value.int .u32 (midN a0 n0 : Nat), Value.int .i64 (n0 + 1)] 25)).drew := ⟨(below_then (below_then B1.out (below_alloc _ _)) (below_alloc _ _)).drew, by simp; omega⟩
        go_region_held3 (fun w' => w'.cell? ⟨w.heap.size, 0, none⟩ = some (.int .u32 (a0 : Nat)) ∧ w'.cell? ⟨w.heap.size, 1, none⟩ = some (.int .i64 n0) ∧ w'.cell? ⟨w.heap.size + 1, 0, none⟩ = some (.int .u32 (a1 : Nat)) ∧ w'.cell? ⟨w.heap.size + 1, 1, none⟩ = some (.int .i64 n1) ∧ w'.cell? ⟨w1.heap.size, 0, none⟩ = some (.int .u32 (a0 : Nat)) ∧ w'.cell? ⟨w1.heap.size, 1, none⟩ = some (.int .i64 (n0 + 1)) ∧ w'.cell? ⟨w1.heap.size + 1, 0, none⟩ = some (.int .u32 (midN a0 n0 : Nat)) ∧ w'.cell? ⟨w1.heap.size + 1, 1, none⟩ = some (.int .i64 (n0 + 1)) ∧ Boxed w w')
          (first | exact ⟨akeep (akeep f0_1), akeep (akeep f1_1), akeep (akeep f2_1), akeep (akeep f3_1), by go_simp, by go_simp, by go_simp, by go_simp, HB1⟩ | go_keep)
          (first | (go_at_call 17; refine (contains_any _ (by first | exact ha0 | exact hmid) _ (by omega) _ ha2 _).mono ?_; rintro e w2 ⟨rfl, hb⟩; have hk := keep8 ‹_› hb; clear hb))
        all_goals obtain ⟨f0_2, f1_2, f2_2, f3_2, _, _, _, _, HB⟩ := hk
        all_goals have B2 := Lib.hid HB.1
        all_goals clear HB HB1 f0_1 f1_1 f2_1 f3_1 zp1 zq1
        all_goals go_wp2_with fail
        all_goals
          go_at_call 17
          refine (contains_any _ ha0 _ hn0 _ ha2 _).mono ?_
          rintro e w3 ⟨rfl, h3⟩
          have f0_3 : w3.cell? ⟨w.heap.size, 0, none⟩ = some (.int .u32 (a0 : Nat)) := carry h3 (f0_2)
          have f1_3 : w3.cell? ⟨w.heap.size, 1, none⟩ = some (.int .i64 n0) := carry h3 (f1_2)
          have f2_3 : w3.cell? ⟨w.heap.size + 1, 0, none⟩ = some (.int .u32 (a1 : Nat)) := carry h3 (f2_2)
          have f3_3 : w3.cell? ⟨w.heap.size + 1, 1, none⟩ = some (.int .i64 n1) := carry h3 (f3_2)
          have B3 := Lib.hid (below_then B2.out h3)
          clear h3 f0_2 f1_2 f2_2 f3_2
          go_wp2_with fail
          go_at_call 15
          refine (valid_any _ ha1 _ hn1 _).mono ?_
          rintro e w4 ⟨rfl, h4⟩
          have f0_4 : w4.cell? ⟨w.heap.size, 0, none⟩ = some (.int .u32 (a0 : Nat)) := carry h4 (f0_3)
          have f1_4 : w4.cell? ⟨w.heap.size, 1, none⟩ = some (.int .i64 n0) := carry h4 (f1_3)
          have f2_4 : w4.cell? ⟨w.heap.size + 1, 0, none⟩ = some (.int .u32 (a1 : Nat)) := carry h4 (f2_3)
          have f3_4 : w4.cell? ⟨w.heap.size + 1, 1, none⟩ = some (.int .i64 n1) := carry h4 (f3_3)
          have B4 := Lib.hid (below_then B3.out h4)
          clear h4 f0_3 f1_3 f2_3 f3_3
          go_wp2_with fail
          go_at_call 21
          refine (lives_any _ (tab_below HT.out B4.out)).mono ?_
          rintro e w5 ⟨rfl, h5⟩
          have B5 := Lib.hid (below_then B4.out h5)
          clear h5
          go_wp2_with fail
          go_ret
          exact ⟨rfl, B5.out⟩
      · obtain ⟨hq0, hq1, _⟩ := vld_in hqv
        have hcm := con_make a2 n1 hq0 hq1
        have hmk : M.keepN a2 (M.lowN n1 32) < 4294967296 := Nat.lt_of_le_of_lt (M.keepN_le _ _) ha2
        have hcd := con_dec (x := a2) hqv
        by_cases he : M.keepN a2 (M.lowN n1 32) = a1
        · have hcq : con a1 n1 a2 = true := by rw [hcd, he]; simp
          have he2 : ((a1 : Int) == (M.keepN a2 (M.lowN n1 32) : Nat)) = true := by rw [he]; simp
          clear hcd he
          go_enter Tryd.func9, Tryd.ntmps9
          go_wp2_with fail
          go_at_call 27
          refine (halves_yes _ ha0 _ hn0 _ hv h0 h31).mono ?_
          rintro e w1 ⟨rfl, h1⟩
          have f0_1 : w1.cell? ⟨w.heap.size, 0, none⟩ = some (.int .u32 (a0 : Nat)) := carry h1 (by go_simp)
          have f1_1 : w1.cell? ⟨w.heap.size, 1, none⟩ = some (.int .i64 n0) := carry h1 (by go_simp)
          have f2_1 : w1.cell? ⟨w.heap.size + 1, 0, none⟩ = some (.int .u32 (a1 : Nat)) := carry h1 (by go_simp)
          have f3_1 : w1.cell? ⟨w.heap.size + 1, 1, none⟩ = some (.int .i64 n1) := carry h1 (by go_simp)
          have zp1 : w.heap.size < w1.heap.size := World.block_lt_of_cell? _ _ f0_1
          have zq1 : w.heap.size + 1 < w1.heap.size := World.block_lt_of_cell? _ _ f2_1
          have B1 := Lib.hid (below_then (below2 _ _ _) h1)
          clear h1
          go_wp2_with fail
          have HB1 : Boxed w ((w1.alloc (Obj.cells #[Value.int .u32 (a0 : Nat), Value.int .i64 (n0 + 1)] 25)).alloc (Obj.cells #[Value.int .u32 (midN a0 n0 : Nat), Value.int .i64 (n0 + 1)] 25)).drew := ⟨(below_then (below_then B1.out (below_alloc _ _)) (below_alloc _ _)).drew, by simp; omega⟩
          go_region_held3 (fun w' => w'.cell? ⟨w.heap.size, 0, none⟩ = some (.int .u32 (a0 : Nat)) ∧ w'.cell? ⟨w.heap.size, 1, none⟩ = some (.int .i64 n0) ∧ w'.cell? ⟨w.heap.size + 1, 0, none⟩ = some (.int .u32 (a1 : Nat)) ∧ w'.cell? ⟨w.heap.size + 1, 1, none⟩ = some (.int .i64 n1) ∧ w'.cell? ⟨w1.heap.size, 0, none⟩ = some (.int .u32 (a0 : Nat)) ∧ w'.cell? ⟨w1.heap.size, 1, none⟩ = some (.int .i64 (n0 + 1)) ∧ w'.cell? ⟨w1.heap.size + 1, 0, none⟩ = some (.int .u32 (midN a0 n0 : Nat)) ∧ w'.cell? ⟨w1.heap.size + 1, 1, none⟩ = some (.int .i64 (n0 + 1)) ∧ Boxed w w')
            (first | exact ⟨akeep (akeep f0_1), akeep (akeep f1_1), akeep (akeep f2_1), akeep (akeep f3_1), by go_simp, by go_simp, by go_simp, by go_simp, HB1⟩ | go_keep)
            (first | (go_at_call 17; refine (contains_any _ (by first | exact ha0 | exact hmid) _ (by omega) _ ha2 _).mono ?_; rintro e w2 ⟨rfl, hb⟩; have hk := keep8 ‹_› hb; clear hb))
          all_goals obtain ⟨f0_2, f1_2, f2_2, f3_2, _, _, _, _, HB⟩ := hk
          all_goals have B2 := Lib.hid HB.1
          all_goals clear HB HB1 f0_1 f1_1 f2_1 f3_1 zp1 zq1
          all_goals go_wp2_with fail
          all_goals
            go_at_call 17
            refine (contains_any _ ha0 _ hn0 _ ha2 _).mono ?_
            rintro e w3 ⟨rfl, h3⟩
            have f0_3 : w3.cell? ⟨w.heap.size, 0, none⟩ = some (.int .u32 (a0 : Nat)) := carry h3 (f0_2)
            have f1_3 : w3.cell? ⟨w.heap.size, 1, none⟩ = some (.int .i64 n0) := carry h3 (f1_2)
            have f2_3 : w3.cell? ⟨w.heap.size + 1, 0, none⟩ = some (.int .u32 (a1 : Nat)) := carry h3 (f2_2)
            have f3_3 : w3.cell? ⟨w.heap.size + 1, 1, none⟩ = some (.int .i64 n1) := carry h3 (f3_2)
            have B3 := Lib.hid (below_then B2.out h3)
            clear h3 f0_2 f1_2 f2_2 f3_2
            go_wp2_with fail
            go_at_call 15
            refine (valid_any _ ha1 _ hn1 _).mono ?_
            rintro e w4 ⟨rfl, h4⟩
            have f0_4 : w4.cell? ⟨w.heap.size, 0, none⟩ = some (.int .u32 (a0 : Nat)) := carry h4 (f0_3)
            have f1_4 : w4.cell? ⟨w.heap.size, 1, none⟩ = some (.int .i64 n0) := carry h4 (f1_3)
            have f2_4 : w4.cell? ⟨w.heap.size + 1, 0, none⟩ = some (.int .u32 (a1 : Nat)) := carry h4 (f2_3)
            have f3_4 : w4.cell? ⟨w.heap.size + 1, 1, none⟩ = some (.int .i64 n1) := carry h4 (f3_3)
            have B4 := Lib.hid (below_then B3.out h4)
            clear h4 f0_3 f1_3 f2_3 f3_3
            go_wp2_with fail
            go_at_call 12
            refine (make_yes _ ha2 _ hq0 hq1 _).mono ?_
            rintro e w5 ⟨rfl, h5⟩
            have f0_5 : w5.cell? ⟨w.heap.size, 0, none⟩ = some (.int .u32 (a0 : Nat)) := carry h5 (f0_4)
            have f1_5 : w5.cell? ⟨w.heap.size, 1, none⟩ = some (.int .i64 n0) := carry h5 (f1_4)
            have f2_5 : w5.cell? ⟨w.heap.size + 1, 0, none⟩ = some (.int .u32 (a1 : Nat)) := carry h5 (f2_4)
            have f3_5 : w5.cell? ⟨w.heap.size + 1, 1, none⟩ = some (.int .i64 n1) := carry h5 (f3_4)
            have zp5 : w.heap.size < w5.heap.size := World.block_lt_of_cell? _ _ f0_5
            have zq5 : w.heap.size + 1 < w5.heap.size := World.block_lt_of_cell? _ _ f2_5
            have B5 := Lib.hid (below_then B4.out h5)
            clear h5 f0_4 f1_4 f2_4 f3_4
            go_wp2_with fail
            have HBm : Boxed w (w5.alloc (Obj.cells #[Value.int IntKind.u32 (M.keepN a2 (M.lowN n1 32) : Nat), Value.int IntKind.i64 n1] 25)).drew := ⟨(below_then B5.out (below_alloc _ _)).drew, by simp; omega⟩
            go_region_held3 (fun w' => w'.cell? ⟨w.heap.size + 1, 0, none⟩ = some (.int .u32 (a1 : Nat)) ∧ w'.cell? ⟨w.heap.size + 1, 1, none⟩ = some (.int .i64 n1) ∧ w'.cell? ⟨w5.heap.size, 0, none⟩ = some (.int .u32 (M.keepN a2 (M.lowN n1 32) : Nat)) ∧ w'.cell? ⟨w5.heap.size, 1, none⟩ = some (.int .i64 n1) ∧ Boxed w w')
              (first | exact ⟨akeep f2_5, akeep f3_5, by go_simp, by go_simp, HBm⟩ | go_keep)
              (first
                | (go_at_call 17; refine (contains_any _ (by first | exact ha1 | exact hmk) _ hn1 _ ha2 _).mono ?_; rintro e w9 ⟨rfl, hb⟩; have hk := keep4 ‹_› hb; clear hb)
                | (go_at_call 21; refine (lives_any _ (tab_below HT.out (And.left (And.right (And.right (And.right (And.right ‹_ ∧ _ ∧ _ ∧ _ ∧ Boxed w _›))))))).mono ?_; rintro e w9 ⟨rfl, hb⟩; have hk := keep4 ‹_› hb; clear hb))
            all_goals go_wp2
            all_goals go_ret
            all_goals exact ⟨rfl, by obtain ⟨_, _, _, _, hB⟩ := hk; exact hB.1⟩
        · have hcq : con a1 n1 a2 = false := by rw [hcd]; simpa using he
          have he2 : ((a1 : Int) == (M.keepN a2 (M.lowN n1 32) : Nat)) = false := by rw [beq_eq_false_iff_ne]; omega
          clear hcd he
          go_enter Tryd.func9, Tryd.ntmps9
          go_wp2_with fail
          go_at_call 27
          refine (halves_yes _ ha0 _ hn0 _ hv h0 h31).mono ?_
          rintro e w1 ⟨rfl, h1⟩
          have f0_1 : w1.cell? ⟨w.heap.size, 0, none⟩ = some (.int .u32 (a0 : Nat)) := carry h1 (by go_simp)
          have f1_1 : w1.cell? ⟨w.heap.size, 1, none⟩ = some (.int .i64 n0) := carry h1 (by go_simp)
          have f2_1 : w1.cell? ⟨w.heap.size + 1, 0, none⟩ = some (.int .u32 (a1 : Nat)) := carry h1 (by go_simp)
          have f3_1 : w1.cell? ⟨w.heap.size + 1, 1, none⟩ = some (.int .i64 n1) := carry h1 (by go_simp)
          have zp1 : w.heap.size < w1.heap.size := World.block_lt_of_cell? _ _ f0_1
          have zq1 : w.heap.size + 1 < w1.heap.size := World.block_lt_of_cell? _ _ f2_1
          have B1 := Lib.hid (below_then (below2 _ _ _) h1)
          clear h1
          go_wp2_with fail
          have HB1 : Boxed w ((w1.alloc (Obj.cells #[Value.int .u32 (a0 : Nat), Value.int .i64 (n0 + 1)] 25)).alloc (Obj.cells #[Value.int .u32 (midN a0 n0 : Nat), Value.int .i64 (n0 + 1)] 25)).drew := ⟨(below_then (below_then B1.out (below_alloc _ _)) (below_alloc _ _)).drew, by simp; omega⟩
          go_region_held3 (fun w' => w'.cell? ⟨w.heap.size, 0, none⟩ = some (.int .u32 (a0 : Nat)) ∧ w'.cell? ⟨w.heap.size, 1, none⟩ = some (.int .i64 n0) ∧ w'.cell? ⟨w.heap.size + 1, 0, none⟩ = some (.int .u32 (a1 : Nat)) ∧ w'.cell? ⟨w.heap.size + 1, 1, none⟩ = some (.int .i64 n1) ∧ w'.cell? ⟨w1.heap.size, 0, none⟩ = some (.int .u32 (a0 : Nat)) ∧ w'.cell? ⟨w1.heap.size, 1, none⟩ = some (.int .i64 (n0 + 1)) ∧ w'.cell? ⟨w1.heap.size + 1, 0, none⟩ = some (.int .u32 (midN a0 n0 : Nat)) ∧ w'.cell? ⟨w1.heap.size + 1, 1, none⟩ = some (.int .i64 (n0 + 1)) ∧ Boxed w w')
            (first | exact ⟨akeep (akeep f0_1), akeep (akeep f1_1), akeep (akeep f2_1), akeep (akeep f3_1), by go_simp, by go_simp, by go_simp, by go_simp, HB1⟩ | go_keep)
            (first | (go_at_call 17; refine (contains_any _ (by first | exact ha0 | exact hmid) _ (by omega) _ ha2 _).mono ?_; rintro e w2 ⟨rfl, hb⟩; have hk := keep8 ‹_› hb; clear hb))
          all_goals obtain ⟨f0_2, f1_2, f2_2, f3_2, _, _, _, _, HB⟩ := hk
          all_goals have B2 := Lib.hid HB.1
          all_goals clear HB HB1 f0_1 f1_1 f2_1 f3_1 zp1 zq1
          all_goals go_wp2_with fail
          all_goals
            go_at_call 17
            refine (contains_any _ ha0 _ hn0 _ ha2 _).mono ?_
            rintro e w3 ⟨rfl, h3⟩
            have f0_3 : w3.cell? ⟨w.heap.size, 0, none⟩ = some (.int .u32 (a0 : Nat)) := carry h3 (f0_2)
            have f1_3 : w3.cell? ⟨w.heap.size, 1, none⟩ = some (.int .i64 n0) := carry h3 (f1_2)
            have f2_3 : w3.cell? ⟨w.heap.size + 1, 0, none⟩ = some (.int .u32 (a1 : Nat)) := carry h3 (f2_2)
            have f3_3 : w3.cell? ⟨w.heap.size + 1, 1, none⟩ = some (.int .i64 n1) := carry h3 (f3_2)
            have B3 := Lib.hid (below_then B2.out h3)
            clear h3 f0_2 f1_2 f2_2 f3_2
            go_wp2_with fail
            go_at_call 15
            refine (valid_any _ ha1 _ hn1 _).mono ?_
            rintro e w4 ⟨rfl, h4⟩
            have f0_4 : w4.cell? ⟨w.heap.size, 0, none⟩ = some (.int .u32 (a0 : Nat)) := carry h4 (f0_3)
            have f1_4 : w4.cell? ⟨w.heap.size, 1, none⟩ = some (.int .i64 n0) := carry h4 (f1_3)
            have f2_4 : w4.cell? ⟨w.heap.size + 1, 0, none⟩ = some (.int .u32 (a1 : Nat)) := carry h4 (f2_3)
            have f3_4 : w4.cell? ⟨w.heap.size + 1, 1, none⟩ = some (.int .i64 n1) := carry h4 (f3_3)
            have B4 := Lib.hid (below_then B3.out h4)
            clear h4 f0_3 f1_3 f2_3 f3_3
            go_wp2_with fail
            go_at_call 12
            refine (make_yes _ ha2 _ hq0 hq1 _).mono ?_
            rintro e w5 ⟨rfl, h5⟩
            have f0_5 : w5.cell? ⟨w.heap.size, 0, none⟩ = some (.int .u32 (a0 : Nat)) := carry h5 (f0_4)
            have f1_5 : w5.cell? ⟨w.heap.size, 1, none⟩ = some (.int .i64 n0) := carry h5 (f1_4)
            have f2_5 : w5.cell? ⟨w.heap.size + 1, 0, none⟩ = some (.int .u32 (a1 : Nat)) := carry h5 (f2_4)
            have f3_5 : w5.cell? ⟨w.heap.size + 1, 1, none⟩ = some (.int .i64 n1) := carry h5 (f3_4)
            have zp5 : w.heap.size < w5.heap.size := World.block_lt_of_cell? _ _ f0_5
            have zq5 : w.heap.size + 1 < w5.heap.size := World.block_lt_of_cell? _ _ f2_5
            have B5 := Lib.hid (below_then B4.out h5)
            clear h5 f0_4 f1_4 f2_4 f3_4
            go_wp2_with fail
            have HBm : Boxed w (w5.alloc (Obj.cells #[Value.int IntKind.u32 (M.keepN a2 (M.lowN n1 32) : Nat), Value.int IntKind.i64 n1] 25)).drew := ⟨(below_then B5.out (below_alloc _ _)).drew, by simp; omega⟩
            go_region_held3 (fun w' => w'.cell? ⟨w.heap.size + 1, 0, none⟩ = some (.int .u32 (a1 : Nat)) ∧ w'.cell? ⟨w.heap.size + 1, 1, none⟩ = some (.int .i64 n1) ∧ w'.cell? ⟨w5.heap.size, 0, none⟩ = some (.int .u32 (M.keepN a2 (M.lowN n1 32) : Nat)) ∧ w'.cell? ⟨w5.heap.size, 1, none⟩ = some (.int .i64 n1) ∧ Boxed w w')
              (first | exact ⟨akeep f2_5, akeep f3_5, by go_simp, by go_simp, HBm⟩ | go_keep)
              (first
                | (go_at_call 17; refine (contains_any _ (by first | exact ha1 | exact hmk) _ hn1 _ ha2 _).mono ?_; rintro e w9 ⟨rfl, hb⟩; have hk := keep4 ‹_› hb; clear hb)
                | (go_at_call 21; refine (lives_any _ (tab_below HT.out (And.left (And.right (And.right (And.right (And.right ‹_ ∧ _ ∧ _ ∧ _ ∧ Boxed w _›))))))).mono ?_; rintro e w9 ⟨rfl, hb⟩; have hk := keep4 ‹_› hb; clear hb))
            all_goals go_wp2
            all_goals go_ret
            all_goals exact ⟨rfl, by obtain ⟨_, _, _, _, hB⟩ := hk; exact hB.1⟩
    · have hc0 : con a0 n0 a2 = true := F1
      clear F1 F2
      cases hqv : vld a1 n1
      · go_enter Tryd.func9, Tryd.ntmps9
        go_wp2_with fail
        go_at_call 27
        refine (halves_yes _ ha0 _ hn0 _ hv h0 h31).mono ?_
        rintro e w1 ⟨rfl, h1⟩
        have f0_1 : w1.cell? ⟨w.heap.size, 0, none⟩ = some (.int .u32 (a0 : Nat)) := carry h1 (by go_simp)
        have f1_1 : w1.cell? ⟨w.heap.size, 1, none⟩ = some (.int .i64 n0) := carry h1 (by go_simp)
        have f2_1 : w1.cell? ⟨w.heap.size + 1, 0, none⟩ = some (.int .u32 (a1 : Nat)) := carry h1 (by go_simp)
        have f3_1 : w1.cell? ⟨w.heap.size + 1, 1, none⟩ = some (.int .i64 n1) := carry h1 (by go_simp)
        have zp1 : w.heap.size < w1.heap.size := World.block_lt_of_cell? _ _ f0_1
        have zq1 : w.heap.size + 1 < w1.heap.size := World.block_lt_of_cell? _ _ f2_1
        have B1 := Lib.hid (below_then (below2 _ _ _) h1)
        clear h1
        go_wp2_with fail
        have HB1 : Boxed w ((w1.alloc (Obj.cells #[Value.int .u32 (a0 : Nat), Value.int .i64 (n0 + 1)] 25)).alloc (Obj.cells #[Value.int .u32 (midN a0 n0 : Nat), Value.int .i64 (n0 + 1)] 25)).drew := ⟨(below_then (below_then B1.out (below_alloc _ _)) (below_alloc _ _)).drew, by simp; omega⟩
        go_region_held3 (fun w' => w'.cell? ⟨w.heap.size, 0, none⟩ = some (.int .u32 (a0 : Nat)) ∧ w'.cell? ⟨w.heap.size, 1, none⟩ = some (.int .i64 n0) ∧ w'.cell? ⟨w.heap.size + 1, 0, none⟩ = some (.int .u32 (a1 : Nat)) ∧ w'.cell? ⟨w.heap.size + 1, 1, none⟩ = some (.int .i64 n1) ∧ w'.cell? ⟨w1.heap.size, 0, none⟩ = some (.int .u32 (a0 : Nat)) ∧ w'.cell? ⟨w1.heap.size, 1, none⟩ = some (.int .i64 (n0 + 1)) ∧ w'.cell? ⟨w1.heap.size + 1, 0, none⟩ = some (.int .u32 (midN a0 n0 : Nat)) ∧ w'.cell? ⟨w1.heap.size + 1, 1, none⟩ = some (.int .i64 (n0 + 1)) ∧ Boxed w w')
          (first | exact ⟨akeep (akeep f0_1), akeep (akeep f1_1), akeep (akeep f2_1), akeep (akeep f3_1), by go_simp, by go_simp, by go_simp, by go_simp, HB1⟩ | go_keep)
          (first | (go_at_call 17; refine (contains_any _ (by first | exact ha0 | exact hmid) _ (by omega) _ ha2 _).mono ?_; rintro e w2 ⟨rfl, hb⟩; have hk := keep8 ‹_› hb; clear hb))
        all_goals obtain ⟨f0_2, f1_2, f2_2, f3_2, _, _, _, _, HB⟩ := hk
        all_goals have B2 := Lib.hid HB.1
        all_goals clear HB HB1 f0_1 f1_1 f2_1 f3_1 zp1 zq1
        all_goals go_wp2_with fail
        all_goals
          go_at_call 17
          refine (contains_any _ ha0 _ hn0 _ ha2 _).mono ?_
          rintro e w3 ⟨rfl, h3⟩
          have f0_3 : w3.cell? ⟨w.heap.size, 0, none⟩ = some (.int .u32 (a0 : Nat)) := carry h3 (f0_2)
          have f1_3 : w3.cell? ⟨w.heap.size, 1, none⟩ = some (.int .i64 n0) := carry h3 (f1_2)
          have f2_3 : w3.cell? ⟨w.heap.size + 1, 0, none⟩ = some (.int .u32 (a1 : Nat)) := carry h3 (f2_2)
          have f3_3 : w3.cell? ⟨w.heap.size + 1, 1, none⟩ = some (.int .i64 n1) := carry h3 (f3_2)
          have B3 := Lib.hid (below_then B2.out h3)
          clear h3 f0_2 f1_2 f2_2 f3_2
          go_wp2_with fail
          go_at_call 15
          refine (valid_any _ ha1 _ hn1 _).mono ?_
          rintro e w4 ⟨rfl, h4⟩
          have f0_4 : w4.cell? ⟨w.heap.size, 0, none⟩ = some (.int .u32 (a0 : Nat)) := carry h4 (f0_3)
          have f1_4 : w4.cell? ⟨w.heap.size, 1, none⟩ = some (.int .i64 n0) := carry h4 (f1_3)
          have f2_4 : w4.cell? ⟨w.heap.size + 1, 0, none⟩ = some (.int .u32 (a1 : Nat)) := carry h4 (f2_3)
          have f3_4 : w4.cell? ⟨w.heap.size + 1, 1, none⟩ = some (.int .i64 n1) := carry h4 (f3_3)
          have B4 := Lib.hid (below_then B3.out h4)
          clear h4 f0_3 f1_3 f2_3 f3_3
          go_wp2_with fail
          go_at_call 21
          refine (lives_any _ (tab_below HT.out B4.out)).mono ?_
          rintro e w5 ⟨rfl, h5⟩
          have B5 := Lib.hid (below_then B4.out h5)
          clear h5
          go_wp2_with fail
          go_ret
          exact ⟨rfl, B5.out⟩
      · obtain ⟨hq0, hq1, _⟩ := vld_in hqv
        have hcm := con_make a2 n1 hq0 hq1
        have hmk : M.keepN a2 (M.lowN n1 32) < 4294967296 := Nat.lt_of_le_of_lt (M.keepN_le _ _) ha2
        have hcd := con_dec (x := a2) hqv
        by_cases he : M.keepN a2 (M.lowN n1 32) = a1
        · have hcq : con a1 n1 a2 = true := by rw [hcd, he]; simp
          have he2 : ((a1 : Int) == (M.keepN a2 (M.lowN n1 32) : Nat)) = true := by rw [he]; simp
          clear hcd he
          go_enter Tryd.func9, Tryd.ntmps9
          go_wp2_with fail
          go_at_call 27
          refine (halves_yes _ ha0 _ hn0 _ hv h0 h31).mono ?_
          rintro e w1 ⟨rfl, h1⟩
          have f0_1 : w1.cell? ⟨w.heap.size, 0, none⟩ = some (.int .u32 (a0 : Nat)) := carry h1 (by go_simp)
          have f1_1 : w1.cell? ⟨w.heap.size, 1, none⟩ = some (.int .i64 n0) := carry h1 (by go_simp)
          have f2_1 : w1.cell? ⟨w.heap.size + 1, 0, none⟩ = some (.int .u32 (a1 : Nat)) := carry h1 (by go_simp)
          have f3_1 : w1.cell? ⟨w.heap.size + 1, 1, none⟩ = some (.int .i64 n1) := carry h1 (by go_simp)
          have zp1 : w.heap.size < w1.heap.size := World.block_lt_of_cell? _ _ f0_1
          have zq1 : w.heap.size + 1 < w1.heap.size := World.block_lt_of_cell? _ _ f2_1
          have B1 := Lib.hid (below_then (below2 _ _ _) h1)
          clear h1
          go_wp2_with fail
          have HB1 : Boxed w ((w1.alloc (Obj.cells #[Value.int .u32 (a0 : Nat), Value.int .i64 (n0 + 1)] 25)).alloc (Obj.cells #[Value.int .u32 (midN a0 n0 : Nat), Value.int .i64 (n0 + 1)] 25)).drew := ⟨(below_then (below_then B1.out (below_alloc _ _)) (below_alloc _ _)).drew, by simp; omega⟩
          go_region_held3 (fun w' => w'.cell? ⟨w.heap.size, 0, none⟩ = some (.int .u32 (a0 : Nat)) ∧ w'.cell? ⟨w.heap.size, 1, none⟩ = some (.int .i64 n0) ∧ w'.cell? ⟨w.heap.size + 1, 0, none⟩ = some (.int .u32 (a1 : Nat)) ∧ w'.cell? ⟨w.heap.size + 1, 1, none⟩ = some (.int .i64 n1) ∧ w'.cell? ⟨w1.heap.size, 0, none⟩ = some (.int .u32 (a0 : Nat)) ∧ w'.cell? ⟨w1.heap.size, 1, none⟩ = some (.int .i64 (n0 + 1)) ∧ w'.cell? ⟨w1.heap.size + 1, 0, none⟩ = some (.int .u32 (midN a0 n0 : Nat)) ∧ w'.cell? ⟨w1.heap.size + 1, 1, none⟩ = some (.int .i64 (n0 + 1)) ∧ Boxed w w')
            (first | exact ⟨akeep (akeep f0_1), akeep (akeep f1_1), akeep (akeep f2_1), akeep (akeep f3_1), by go_simp, by go_simp, by go_simp, by go_simp, HB1⟩ | go_keep)
            (first | (go_at_call 17; refine (contains_any _ (by first | exact ha0 | exact hmid) _ (by omega) _ ha2 _).mono ?_; rintro e w2 ⟨rfl, hb⟩; have hk := keep8 ‹_› hb; clear hb))
          all_goals obtain ⟨f0_2, f1_2, f2_2, f3_2, _, _, _, _, HB⟩ := hk
          all_goals have B2 := Lib.hid HB.1
          all_goals clear HB HB1 f0_1 f1_1 f2_1 f3_1 zp1 zq1
          all_goals go_wp2_with fail
          all_goals
            go_at_call 17
            refine (contains_any _ ha0 _ hn0 _ ha2 _).mono ?_
            rintro e w3 ⟨rfl, h3⟩
            have f0_3 : w3.cell? ⟨w.heap.size, 0, none⟩ = some (.int .u32 (a0 : Nat)) := carry h3 (f0_2)
            have f1_3 : w3.cell? ⟨w.heap.size, 1, none⟩ = some (.int .i64 n0) := carry h3 (f1_2)
            have f2_3 : w3.cell? ⟨w.heap.size + 1, 0, none⟩ = some (.int .u32 (a1 : Nat)) := carry h3 (f2_2)
            have f3_3 : w3.cell? ⟨w.heap.size + 1, 1, none⟩ = some (.int .i64 n1) := carry h3 (f3_2)
            have B3 := Lib.hid (below_then B2.out h3)
            clear h3 f0_2 f1_2 f2_2 f3_2
            go_wp2_with fail
            go_at_call 15
            refine (valid_any _ ha1 _ hn1 _).mono ?_
            rintro e w4 ⟨rfl, h4⟩
            have f0_4 : w4.cell? ⟨w.heap.size, 0, none⟩ = some (.int .u32 (a0 : Nat)) := carry h4 (f0_3)
            have f1_4 : w4.cell? ⟨w.heap.size, 1, none⟩ = some (.int .i64 n0) := carry h4 (f1_3)
            have f2_4 : w4.cell? ⟨w.heap.size + 1, 0, none⟩ = some (.int .u32 (a1 : Nat)) := carry h4 (f2_3)
            have f3_4 : w4.cell? ⟨w.heap.size + 1, 1, none⟩ = some (.int .i64 n1) := carry h4 (f3_3)
            have B4 := Lib.hid (below_then B3.out h4)
            clear h4 f0_3 f1_3 f2_3 f3_3
            go_wp2_with fail
            go_at_call 12
            refine (make_yes _ ha2 _ hq0 hq1 _).mono ?_
            rintro e w5 ⟨rfl, h5⟩
            have f0_5 : w5.cell? ⟨w.heap.size, 0, none⟩ = some (.int .u32 (a0 : Nat)) := carry h5 (f0_4)
            have f1_5 : w5.cell? ⟨w.heap.size, 1, none⟩ = some (.int .i64 n0) := carry h5 (f1_4)
            have f2_5 : w5.cell? ⟨w.heap.size + 1, 0, none⟩ = some (.int .u32 (a1 : Nat)) := carry h5 (f2_4)
            have f3_5 : w5.cell? ⟨w.heap.size + 1, 1, none⟩ = some (.int .i64 n1) := carry h5 (f3_4)
            have zp5 : w.heap.size < w5.heap.size := World.block_lt_of_cell? _ _ f0_5
            have zq5 : w.heap.size + 1 < w5.heap.size := World.block_lt_of_cell? _ _ f2_5
            have B5 := Lib.hid (below_then B4.out h5)
            clear h5 f0_4 f1_4 f2_4 f3_4
            go_wp2_with fail
            have HBm : Boxed w (w5.alloc (Obj.cells #[Value.int IntKind.u32 (M.keepN a2 (M.lowN n1 32) : Nat), Value.int IntKind.i64 n1] 25)).drew := ⟨(below_then B5.out (below_alloc _ _)).drew, by simp; omega⟩
            go_region_held3 (fun w' => w'.cell? ⟨w.heap.size + 1, 0, none⟩ = some (.int .u32 (a1 : Nat)) ∧ w'.cell? ⟨w.heap.size + 1, 1, none⟩ = some (.int .i64 n1) ∧ w'.cell? ⟨w5.heap.size, 0, none⟩ = some (.int .u32 (M.keepN a2 (M.lowN n1 32) : Nat)) ∧ w'.cell? ⟨w5.heap.size, 1, none⟩ = some (.int .i64 n1) ∧ Boxed w w')
              (first | exact ⟨akeep f2_5, akeep f3_5, by go_simp, by go_simp, HBm⟩ | go_keep)
              (first
                | (go_at_call 17; refine (contains_any _ (by first | exact ha1 | exact hmk) _ hn1 _ ha2 _).mono ?_; rintro e w9 ⟨rfl, hb⟩; have hk := keep4 ‹_› hb; clear hb)
                | (go_at_call 21; refine (lives_any _ (tab_below HT.out (And.left (And.right (And.right (And.right (And.right ‹_ ∧ _ ∧ _ ∧ _ ∧ Boxed w _›))))))).mono ?_; rintro e w9 ⟨rfl, hb⟩; have hk := keep4 ‹_› hb; clear hb))
            all_goals go_wp2
            all_goals go_ret
            all_goals exact ⟨rfl, by obtain ⟨_, _, _, _, hB⟩ := hk; exact hB.1⟩
        · have hcq : con a1 n1 a2 = false := by rw [hcd]; simpa using he
          have he2 : ((a1 : Int) == (M.keepN a2 (M.lowN n1 32) : Nat)) = false := by rw [beq_eq_false_iff_ne]; omega
          clear hcd he
          go_enter Tryd.func9, Tryd.ntmps9
          go_wp2_with fail
          go_at_call 27
          refine (halves_yes _ ha0 _ hn0 _ hv h0 h31).mono ?_
          rintro e w1 ⟨rfl, h1⟩
          have f0_1 : w1.cell? ⟨w.heap.size, 0, none⟩ = some (.int .u32 (a0 : Nat)) := carry h1 (by go_simp)
          have f1_1 : w1.cell? ⟨w.heap.size, 1, none⟩ = some (.int .i64 n0) := carry h1 (by go_simp)
          have f2_1 : w1.cell? ⟨w.heap.size + 1, 0, none⟩ = some (.int .u32 (a1 : Nat)) := carry h1 (by go_simp)
          have f3_1 : w1.cell? ⟨w.heap.size + 1, 1, none⟩ = some (.int .i64 n1) := carry h1 (by go_simp)
          have zp1 : w.heap.size < w1.heap.size := World.block_lt_of_cell? _ _ f0_1
          have zq1 : w.heap.size + 1 < w1.heap.size := World.block_lt_of_cell? _ _ f2_1
          have B1 := Lib.hid (below_then (below2 _ _ _) h1)
          clear h1
          go_wp2_with fail
          have HB1 : Boxed w ((w1.alloc (Obj.cells #[Value.int .u32 (a0 : Nat), Value.int .i64 (n0 + 1)] 25)).alloc (Obj.cells #[Value.int .u32 (midN a0 n0 : Nat), Value.int .i64 (n0 + 1)] 25)).drew := ⟨(below_then (below_then B1.out (below_alloc _ _)) (below_alloc _ _)).drew, by simp; omega⟩
          go_region_held3 (fun w' => w'.cell? ⟨w.heap.size, 0, none⟩ = some (.int .u32 (a0 : Nat)) ∧ w'.cell? ⟨w.heap.size, 1, none⟩ = some (.int .i64 n0) ∧ w'.cell? ⟨w.heap.size + 1, 0, none⟩ = some (.int .u32 (a1 : Nat)) ∧ w'.cell? ⟨w.heap.size + 1, 1, none⟩ = some (.int .i64 n1) ∧ w'.cell? ⟨w1.heap.size, 0, none⟩ = some (.int .u32 (a0 : Nat)) ∧ w'.cell? ⟨w1.heap.size, 1, none⟩ = some (.int .i64 (n0 + 1)) ∧ w'.cell? ⟨w1.heap.size + 1, 0, none⟩ = some (.int .u32 (midN a0 n0 : Nat)) ∧ w'.cell? ⟨w1.heap.size + 1, 1, none⟩ = some (.int .i64 (n0 + 1)) ∧ Boxed w w')
            (first | exact ⟨akeep (akeep f0_1), akeep (akeep f1_1), akeep (akeep f2_1), akeep (akeep f3_1), by go_simp, by go_simp, by go_simp, by go_simp, HB1⟩ | go_keep)
            (first | (go_at_call 17; refine (contains_any _ (by first | exact ha0 | exact hmid) _ (by omega) _ ha2 _).mono ?_; rintro e w2 ⟨rfl, hb⟩; have hk := keep8 ‹_› hb; clear hb))
          all_goals obtain ⟨f0_2, f1_2, f2_2, f3_2, _, _, _, _, HB⟩ := hk
          all_goals have B2 := Lib.hid HB.1
          all_goals clear HB HB1 f0_1 f1_1 f2_1 f3_1 zp1 zq1
          all_goals go_wp2_with fail
          all_goals
            go_at_call 17
            refine (contains_any _ ha0 _ hn0 _ ha2 _).mono ?_
            rintro e w3 ⟨rfl, h3⟩
            have f0_3 : w3.cell? ⟨w.heap.size, 0, none⟩ = some (.int .u32 (a0 : Nat)) := carry h3 (f0_2)
            have f1_3 : w3.cell? ⟨w.heap.size, 1, none⟩ = some (.int .i64 n0) := carry h3 (f1_2)
            have f2_3 : w3.cell? ⟨w.heap.size + 1, 0, none⟩ = some (.int .u32 (a1 : Nat)) := carry h3 (f2_2)
            have f3_3 : w3.cell? ⟨w.heap.size + 1, 1, none⟩ = some (.int .i64 n1) := carry h3 (f3_2)
            have B3 := Lib.hid (below_then B2.out h3)
            clear h3 f0_2 f1_2 f2_2 f3_2
            go_wp2_with fail
            go_at_call 15
            refine (valid_any _ ha1 _ hn1 _).mono ?_
            rintro e w4 ⟨rfl, h4⟩
            have f0_4 : w4.cell? ⟨w.heap.size, 0, none⟩ = some (.int .u32 (a0 : Nat)) := carry h4 (f0_3)
            have f1_4 : w4.cell? ⟨w.heap.size, 1, none⟩ = some (.int .i64 n0) := carry h4 (f1_3)
            have f2_4 : w4.cell? ⟨w.heap.size + 1, 0, none⟩ = some (.int .u32 (a1 : Nat)) := carry h4 (f2_3)
            have f3_4 : w4.cell? ⟨w.heap.size + 1, 1, none⟩ = some (.int .i64 n1) := carry h4 (f3_3)
            have B4 := Lib.hid (below_then B3.out h4)
            clear h4 f0_3 f1_3 f2_3 f3_3
            go_wp2_with fail
            go_at_call 12
            refine (make_yes _ ha2 _ hq0 hq1 _).mono ?_
            rintro e w5 ⟨rfl, h5⟩
            have f0_5 : w5.cell? ⟨w.heap.size, 0, none⟩ = some (.int .u32 (a0 : Nat)) := carry h5 (f0_4)
            have f1_5 : w5.cell? ⟨w.heap.size, 1, none⟩ = some (.int .i64 n0) := carry h5 (f1_4)
            have f2_5 : w5.cell? ⟨w.heap.size + 1, 0, none⟩ = some (.int .u32 (a1 : Nat)) := carry h5 (f2_4)
            have f3_5 : w5.cell? ⟨w.heap.size + 1, 1, none⟩ = some (.int .i64 n1) := carry h5 (f3_4)
            have zp5 : w.heap.size < w5.heap.size := World.block_lt_of_cell? _ _ f0_5
            have zq5 : w.heap.size + 1 < w5.heap.size := World.block_lt_of_cell? _ _ f2_5
            have B5 := Lib.hid (below_then B4.out h5)
            clear h5 f0_4 f1_4 f2_4 f3_4
            go_wp2_with fail
            have HBm : Boxed w (w5.alloc (Obj.cells #[Value.int IntKind.u32 (M.keepN a2 (M.lowN n1 32) : Nat), Value.int IntKind.i64 n1] 25)).drew := ⟨(below_then B5.out (below_alloc _ _)).drew, by simp; omega⟩
            go_region_held3 (fun w' => w'.cell? ⟨w.heap.size + 1, 0, none⟩ = some (.int .u32 (a1 : Nat)) ∧ w'.cell? ⟨w.heap.size + 1, 1, none⟩ = some (.int .i64 n1) ∧ w'.cell? ⟨w5.heap.size, 0, none⟩ = some (.int .u32 (M.keepN a2 (M.lowN n1 32) : Nat)) ∧ w'.cell? ⟨w5.heap.size, 1, none⟩ = some (.int .i64 n1) ∧ Boxed w w')
              (first | exact ⟨akeep f2_5, akeep f3_5, by go_simp, by go_simp, HBm⟩ | go_keep)
              (first
                | (go_at_call 17; refine (contains_any _ (by first | exact ha1 | exact hmk) _ hn1 _ ha2 _).mono ?_; rintro e w9 ⟨rfl, hb⟩; have hk := keep4 ‹_› hb; clear hb)
                | (go_at_call 21; refine (lives_any _ (tab_below HT.out (And.left (And.right (And.right (And.right (And.right ‹_ ∧ _ ∧ _ ∧ _ ∧ Boxed w _›))))))).mono ?_; rintro e w9 ⟨rfl, hb⟩; have hk := keep4 ‹_› hb; clear hb))
            all_goals go_wp2
            all_goals go_ret
            all_goals exact ⟨rfl, by obtain ⟨_, _, _, _, hB⟩ := hk; exact hB.1⟩
    · cases F2
  · have hno' : vld a0 n0 = false ∨ n0 = 32 := by
      cases hv : vld a0 n0
      · exact .inl rfl
      · exact .inr (Classical.byContradiction fun h => hok ⟨hv, h⟩)
    have hno := Lib.hid hno'
    clear hno' hok
    cases hqv : vld a1 n1
    · go_enter Tryd.func9, Tryd.ntmps9
      go_wp2_with fail
      go_at_call 27
      refine (halves_no _ ha0 _ hn0 _ hno.out).mono ?_
      rintro e w1 ⟨rfl, h1⟩
      have f0_1 : w1.cell? ⟨w.heap.size, 0, none⟩ = some (.int .u32 (a0 : Nat)) := carry h1 (by go_simp)
      have f1_1 : w1.cell? ⟨w.heap.size, 1, none⟩ = some (.int .i64 n0) := carry h1 (by go_simp)
      have f2_1 : w1.cell? ⟨w.heap.size + 1, 0, none⟩ = some (.int .u32 (a1 : Nat)) := carry h1 (by go_simp)
      have f3_1 : w1.cell? ⟨w.heap.size + 1, 1, none⟩ = some (.int .i64 n1) := carry h1 (by go_simp)
      have zp1 : w.heap.size < w1.heap.size := World.block_lt_of_cell? _ _ f0_1
      have zq1 : w.heap.size + 1 < w1.heap.size := World.block_lt_of_cell? _ _ f2_1
      have B1 := Lib.hid (below_then (below2 _ _ _) h1)
      clear h1
      go_wp2_with fail
      have HB1 : Boxed w ((w1.alloc (Obj.cells #[Value.int .u32 0, Value.int .i64 0] 25)).alloc (Obj.cells #[Value.int .u32 0, Value.int .i64 0] 25)).drew := ⟨(below_then (below_then B1.out (below_alloc _ _)) (below_alloc _ _)).drew, by simp; omega⟩
      go_region_held3 (fun w' => w'.cell? ⟨w.heap.size, 0, none⟩ = some (.int .u32 (a0 : Nat)) ∧ w'.cell? ⟨w.heap.size, 1, none⟩ = some (.int .i64 n0) ∧ w'.cell? ⟨w.heap.size + 1, 0, none⟩ = some (.int .u32 (a1 : Nat)) ∧ w'.cell? ⟨w.heap.size + 1, 1, none⟩ = some (.int .i64 n1) ∧ w'.cell? ⟨w1.heap.size, 0, none⟩ = some (.int .u32 0) ∧ w'.cell? ⟨w1.heap.size, 1, none⟩ = some (.int .i64 0) ∧ w'.cell? ⟨w1.heap.size + 1, 0, none⟩ = some (.int .u32 0) ∧ w'.cell? ⟨w1.heap.size + 1, 1, none⟩ = some (.int .i64 0) ∧ Boxed w w')
        (first | exact ⟨akeep (akeep f0_1), akeep (akeep f1_1), akeep (akeep f2_1), akeep (akeep f3_1), by go_simp, by go_simp, by go_simp, by go_simp, HB1⟩ | go_keep)
        (first | (go_at_call 17; refine (contains_zero _ ha2 _).mono ?_; rintro e w2 ⟨rfl, hb⟩; have hk := keep8 ‹_› hb; clear hb))
      all_goals obtain ⟨f0_2, f1_2, f2_2, f3_2, _, _, _, _, HB⟩ := hk
      all_goals have B2 := Lib.hid HB.1
      all_goals clear HB HB1 f0_1 f1_1 f2_1 f3_1 zp1 zq1
      all_goals go_wp2_with fail
      all_goals
        go_at_call 15
        refine (valid_any _ ha1 _ hn1 _).mono ?_
        rintro e w3 ⟨rfl, h3⟩
        have f0_3 : w3.cell? ⟨w.heap.size, 0, none⟩ = some (.int .u32 (a0 : Nat)) := carry h3 (f0_2)
        have f1_3 : w3.cell? ⟨w.heap.size, 1, none⟩ = some (.int .i64 n0) := carry h3 (f1_2)
        have f2_3 : w3.cell? ⟨w.heap.size + 1, 0, none⟩ = some (.int .u32 (a1 : Nat)) := carry h3 (f2_2)
        have f3_3 : w3.cell? ⟨w.heap.size + 1, 1, none⟩ = some (.int .i64 n1) := carry h3 (f3_2)
        have B3 := Lib.hid (below_then B2.out h3)
        clear h3 f0_2 f1_2 f2_2 f3_2
        go_wp2_with fail
        go_at_call 21
        refine (lives_any _ (tab_below HT.out B3.out)).mono ?_
        rintro e w4 ⟨rfl, h4⟩
        have B4 := Lib.hid (below_then B3.out h4)
        clear h4
        go_wp2_with fail
        go_ret
        exact ⟨rfl, B4.out⟩
    · obtain ⟨hq0, hq1, _⟩ := vld_in hqv
      have hcm := con_make a2 n1 hq0 hq1
      have hmk : M.keepN a2 (M.lowN n1 32) < 4294967296 := Nat.lt_of_le_of_lt (M.keepN_le _ _) ha2
      have hcd := con_dec (x := a2) hqv
      by_cases he : M.keepN a2 (M.lowN n1 32) = a1
      · have hcq : con a1 n1 a2 = true := by rw [hcd, he]; simp
        have he2 : ((a1 : Int) == (M.keepN a2 (M.lowN n1 32) : Nat)) = true := by rw [he]; simp
        clear hcd he
        go_enter Tryd.func9, Tryd.ntmps9
        go_wp2_with fail
        go_at_call 27
        refine (halves_no _ ha0 _ hn0 _ hno.out).mono ?_
        rintro e w1 ⟨rfl, h1⟩
        have f0_1 : w1.cell? ⟨w.heap.size, 0, none⟩ = some (.int .u32 (a0 : Nat)) := carry h1 (by go_simp)
        have f1_1 : w1.cell? ⟨w.heap.size, 1, none⟩ = some (.int .i64 n0) := carry h1 (by go_simp)
        have f2_1 : w1.cell? ⟨w.heap.size + 1, 0, none⟩ = some (.int .u32 (a1 : Nat)) := carry h1 (by go_simp)
        have f3_1 : w1.cell? ⟨w.heap.size + 1, 1, none⟩ = some (.int .i64 n1) := carry h1 (by go_simp)
        have zp1 : w.heap.size < w1.heap.size := World.block_lt_of_cell? _ _ f0_1
        have zq1 : w.heap.size + 1 < w1.heap.size := World.block_lt_of_cell? _ _ f2_1
        have B1 := Lib.hid (below_then (below2 _ _ _) h1)
        clear h1
        go_wp2_with fail
        have HB1 : Boxed w ((w1.alloc (Obj.cells #[Value.int .u32 0, Value.int .i64 0] 25)).alloc (Obj.cells #[Value.int .u32 0, Value.int .i64 0] 25)).drew := ⟨(below_then (below_then B1.out (below_alloc _ _)) (below_alloc _ _)).drew, by simp; omega⟩
        go_region_held3 (fun w' => w'.cell? ⟨w.heap.size, 0, none⟩ = some (.int .u32 (a0 : Nat)) ∧ w'.cell? ⟨w.heap.size, 1, none⟩ = some (.int .i64 n0) ∧ w'.cell? ⟨w.heap.size + 1, 0, none⟩ = some (.int .u32 (a1 : Nat)) ∧ w'.cell? ⟨w.heap.size + 1, 1, none⟩ = some (.int .i64 n1) ∧ w'.cell? ⟨w1.heap.size, 0, none⟩ = some (.int .u32 0) ∧ w'.cell? ⟨w1.heap.size, 1, none⟩ = some (.int .i64 0) ∧ w'.cell? ⟨w1.heap.size + 1, 0, none⟩ = some (.int .u32 0) ∧ w'.cell? ⟨w1.heap.size + 1, 1, none⟩ = some (.int .i64 0) ∧ Boxed w w')
          (first | exact ⟨akeep (akeep f0_1), akeep (akeep f1_1), akeep (akeep f2_1), akeep (akeep f3_1), by go_simp, by go_simp, by go_simp, by go_simp, HB1⟩ | go_keep)
          (first | (go_at_call 17; refine (contains_zero _ ha2 _).mono ?_; rintro e w2 ⟨rfl, hb⟩; have hk := keep8 ‹_› hb; clear hb))
        all_goals obtain ⟨f0_2, f1_2, f2_2, f3_2, _, _, _, _, HB⟩ := hk
        all_goals have B2 := Lib.hid HB.1
        all_goals clear HB HB1 f0_1 f1_1 f2_1 f3_1 zp1 zq1
        all_goals go_wp2_with fail
        all_goals
          go_at_call 15
          refine (valid_any _ ha1 _ hn1 _).mono ?_
          rintro e w3 ⟨rfl, h3⟩
          have f0_3 : w3.cell? ⟨w.heap.size, 0, none⟩ = some (.int .u32 (a0 : Nat)) := carry h3 (f0_2)
          have f1_3 : w3.cell? ⟨w.heap.size, 1, none⟩ = some (.int .i64 n0) := carry h3 (f1_2)
          have f2_3 : w3.cell? ⟨w.heap.size + 1, 0, none⟩ = some (.int .u32 (a1 : Nat)) := carry h3 (f2_2)
          have f3_3 : w3.cell? ⟨w.heap.size + 1, 1, none⟩ = some (.int .i64 n1) := carry h3 (f3_2)
          have B3 := Lib.hid (below_then B2.out h3)
          clear h3 f0_2 f1_2 f2_2 f3_2
          go_wp2_with fail
          go_at_call 12
          refine (make_yes _ ha2 _ hq0 hq1 _).mono ?_
          rintro e w4 ⟨rfl, h4⟩
          have f0_4 : w4.cell? ⟨w.heap.size, 0, none⟩ = some (.int .u32 (a0 : Nat)) := carry h4 (f0_3)
          have f1_4 : w4.cell? ⟨w.heap.size, 1, none⟩ = some (.int .i64 n0) := carry h4 (f1_3)
          have f2_4 : w4.cell? ⟨w.heap.size + 1, 0, none⟩ = some (.int .u32 (a1 : Nat)) := carry h4 (f2_3)
          have f3_4 : w4.cell? ⟨w.heap.size + 1, 1, none⟩ = some (.int .i64 n1) := carry h4 (f3_3)
          have zp4 : w.heap.size < w4.heap.size := World.block_lt_of_cell? _ _ f0_4
          have zq4 : w.heap.size + 1 < w4.heap.size := World.block_lt_of_cell? _ _ f2_4
          have B4 := Lib.hid (below_then B3.out h4)
          clear h4 f0_3 f1_3 f2_3 f3_3
          go_wp2_with fail
          have HBm : Boxed w (w4.alloc (Obj.cells #[Value.int IntKind.u32 (M.keepN a2 (M.lowN n1 32) : Nat), Value.int IntKind.i64 n1] 25)).drew := ⟨(below_then B4.out (below_alloc _ _)).drew, by simp; omega⟩
          go_region_held3 (fun w' => w'.cell? ⟨w.heap.size + 1, 0, none⟩ = some (.int .u32 (a1 : Nat)) ∧ w'.cell? ⟨w.heap.size + 1, 1, none⟩ = some (.int .i64 n1) ∧ w'.cell? ⟨w4.heap.size, 0, none⟩ = some (.int .u32 (M.keepN a2 (M.lowN n1 32) : Nat)) ∧ w'.cell? ⟨w4.heap.size, 1, none⟩ = some (.int .i64 n1) ∧ Boxed w w')
            (first | exact ⟨akeep f2_4, akeep f3_4, by go_simp, by go_simp, HBm⟩ | go_keep)
            (first
              | (go_at_call 17; refine (contains_any _ (by first | exact ha1 | exact hmk) _ hn1 _ ha2 _).mono ?_; rintro e w9 ⟨rfl, hb⟩; have hk := keep4 ‹_› hb; clear hb)
              | (go_at_call 21; refine (lives_any _ (tab_below HT.out (And.left (And.right (And.right (And.right (And.right ‹_ ∧ _ ∧ _ ∧ _ ∧ Boxed w _›))))))).mono ?_; rintro e w9 ⟨rfl, hb⟩; have hk := keep4 ‹_› hb; clear hb))
          all_goals go_wp2
          all_goals go_ret
          all_goals exact ⟨rfl, by obtain ⟨_, _, _, _, hB⟩ := hk; exact hB.1⟩
      · have hcq : con a1 n1 a2 = false := by rw [hcd]; simpa using he
        have he2 : ((a1 : Int) == (M.keepN a2 (M.lowN n1 32) : Nat)) = false := by rw [beq_eq_false_iff_ne]; omega
        clear hcd he
        go_enter Tryd.func9, Tryd.ntmps9
        go_wp2_with fail
        go_at_call 27
        refine (halves_no _ ha0 _ hn0 _ hno.out).mono ?_
        rintro e w1 ⟨rfl, h1⟩
        have f0_1 : w1.cell? ⟨w.heap.size, 0, none⟩ = some (.int .u32 (a0 : Nat)) := carry h1 (by go_simp)
        have f1_1 : w1.cell? ⟨w.heap.size, 1, none⟩ = some (.int .i64 n0) := carry h1 (by go_simp)
        have f2_1 : w1.cell? ⟨w.heap.size + 1, 0, none⟩ = some (.int .u32 (a1 : Nat)) := carry h1 (by go_simp)
        have f3_1 : w1.cell? ⟨w.heap.size + 1, 1, none⟩ = some (.int .i64 n1) := carry h1 (by go_simp)
        have zp1 : w.heap.size < w1.heap.size := World.block_lt_of_cell? _ _ f0_1
        have zq1 : w.heap.size + 1 < w1.heap.size := World.block_lt_of_cell? _ _ f2_1
        have B1 := Lib.hid (below_then (below2 _ _ _) h1)
        clear h1
        go_wp2_with fail
        have HB1 : Boxed w ((w1.alloc (Obj.cells #[Value.int .u32 0, Value.int .i64 0] 25)).alloc (Obj.cells #[Value.int .u32 0, Value.int .i64 0] 25)).drew := ⟨(below_then (below_then B1.out (below_alloc _ _)) (below_alloc _ _)).drew, by simp; omega⟩
        go_region_held3 (fun w' => w'.cell? ⟨w.heap.size, 0, none⟩ = some (.int .u32 (a0 : Nat)) ∧ w'.cell? ⟨w.heap.size, 1, none⟩ = some (.int .i64 n0) ∧ w'.cell? ⟨w.heap.size + 1, 0, none⟩ = some (.int .u32 (a1 : Nat)) ∧ w'.cell? ⟨w.heap.size + 1, 1, none⟩ = some (.int .i64 n1) ∧ w'.cell? ⟨w1.heap.size, 0, none⟩ = some (.int .u32 0) ∧ w'.cell? ⟨w1.heap.size, 1, none⟩ = some (.int .i64 0) ∧ w'.cell? ⟨w1.heap.size + 1, 0, none⟩ = some (.int .u32 0) ∧ w'.cell? ⟨w1.heap.size + 1, 1, none⟩ = some (.int .i64 0) ∧ Boxed w w')
          (first | exact ⟨akeep (akeep f0_1), akeep (akeep f1_1), akeep (akeep f2_1), akeep (akeep f3_1), by go_simp, by go_simp, by go_simp, by go_simp, HB1⟩ | go_keep)
          (first | (go_at_call 17; refine (contains_zero _ ha2 _).mono ?_; rintro e w2 ⟨rfl, hb⟩; have hk := keep8 ‹_› hb; clear hb))
        all_goals obtain ⟨f0_2, f1_2, f2_2, f3_2, _, _, _, _, HB⟩ := hk
        all_goals have B2 := Lib.hid HB.1
        all_goals clear HB HB1 f0_1 f1_1 f2_1 f3_1 zp1 zq1
        all_goals go_wp2_with fail
        all_goals
          go_at_call 15
          refine (valid_any _ ha1 _ hn1 _).mono ?_
          rintro e w3 ⟨rfl, h3⟩
          have f0_3 : w3.cell? ⟨w.heap.size, 0, none⟩ = some (.int .u32 (a0 : Nat)) := carry h3 (f0_2)
          have f1_3 : w3.cell? ⟨w.heap.size, 1, none⟩ = some (.int .i64 n0) := carry h3 (f1_2)
          have f2_3 : w3.cell? ⟨w.heap.size + 1, 0, none⟩ = some (.int .u32 (a1 : Nat)) := carry h3 (f2_2)
          have f3_3 : w3.cell? ⟨w.heap.size + 1, 1, none⟩ = some (.int .i64 n1) := carry h3 (f3_2)
          have B3 := Lib.hid (below_then B2.out h3)
          clear h3 f0_2 f1_2 f2_2 f3_2
          go_wp2_with fail
          go_at_call 12
          refine (make_yes _ ha2 _ hq0 hq1 _).mono ?_
          rintro e w4 ⟨rfl, h4⟩
          have f0_4 : w4.cell? ⟨w.heap.size, 0, none⟩ = some (.int .u32 (a0 : Nat)) := carry h4 (f0_3)
          have f1_4 : w4.cell? ⟨w.heap.size, 1, none⟩ = some (.int .i64 n0) := carry h4 (f1_3)
          have f2_4 : w4.cell? ⟨w.heap.size + 1, 0, none⟩ = some (.int .u32 (a1 : Nat)) := carry h4 (f2_3)
          have f3_4 : w4.cell? ⟨w.heap.size + 1, 1, none⟩ = some (.int .i64 n1) := carry h4 (f3_3)
          have zp4 : w.heap.size < w4.heap.size := World.block_lt_of_cell? _ _ f0_4
          have zq4 : w.heap.size + 1 < w4.heap.size := World.block_lt_of_cell? _ _ f2_4
          have B4 := Lib.hid (below_then B3.out h4)
          clear h4 f0_3 f1_3 f2_3 f3_3
          go_wp2_with fail
          have HBm : Boxed w (w4.alloc (Obj.cells #[Value.int IntKind.u32 (M.keepN a2 (M.lowN n1 32) : Nat), Value.int IntKind.i64 n1] 25)).drew := ⟨(below_then B4.out (below_alloc _ _)).drew, by simp; omega⟩
          go_region_held3 (fun w' => w'.cell? ⟨w.heap.size + 1, 0, none⟩ = some (.int .u32 (a1 : Nat)) ∧ w'.cell? ⟨w.heap.size + 1, 1, none⟩ = some (.int .i64 n1) ∧ w'.cell? ⟨w4.heap.size, 0, none⟩ = some (.int .u32 (M.keepN a2 (M.lowN n1 32) : Nat)) ∧ w'.cell? ⟨w4.heap.size, 1, none⟩ = some (.int .i64 n1) ∧ Boxed w w')
            (first | exact ⟨akeep f2_4, akeep f3_4, by go_simp, by go_simp, HBm⟩ | go_keep)
            (first
              | (go_at_call 17; refine (contains_any _ (by first | exact ha1 | exact hmk) _ hn1 _ ha2 _).mono ?_; rintro e w9 ⟨rfl, hb⟩; have hk := keep4 ‹_› hb; clear hb)
              | (go_at_call 21; refine (lives_any _ (tab_below HT.out (And.left (And.right (And.right (And.right (And.right ‹_ ∧ _ ∧ _ ∧ _ ∧ Boxed w _›))))))).mono ?_; rintro e w9 ⟨rfl, hb⟩; have hk := keep4 ‹_› hb; clear hb))
          all_goals go_wp2
          all_goals go_ret
          all_goals exact ⟨rfl, by obtain ⟨_, _, _, _, hB⟩ := hk; exact hB.1⟩
theorem contract (H : Type) (enc : TypeId × Value → H) (W : World) (base : Nat) (args : Array Value) (ds gs : List (DataW H)) (before : List MemPlace)
    (hval : ∀ (j : Nat) t v, Tryd.f9.params[j]? = some t → args[j]? = some v → Value.okWide Tryd.prog W .any base t v)
    (hW : DataW.Whole enc Tryd.prog Tryd.f9.params.toList Rows.prefixHalvesSpec.vars false W args.toList ds gs before)
    (hsz : (DataW.weightsEach Tryd.prog (Tryd.f9.params.toList ++ (OpenSpec.ofChange Rows.prefixHalvesSpec).bare.plain.varTypes Tryd.prog) (ds ++ gs)).all (· ≤ reachBytes) = true)
    (hL : laidMetH Tryd.prog Rows.prefixHalvesRow.laid W) :
    Calls Tryd.prog 9 args W fun e W' => ∃ v, e = .returned v ∧ Rows.prefixHalvesSpec.post enc Tryd.prog Tryd.f9 false true false false W args v W' := by
  have hT : Tab W := tab_of_laid hL
  have hW' := hW
  obtain ⟨p, q, hA0, hV, rfl, hfz, hnd⟩ := hW
  have hA : DataW.TrodAll enc Tryd.prog W 0 (fun _ => true) true Tryd.f9.params.toList args.toList ds p := hA0
  rw [Tryd.params9] at hA hval hsz
  obtain ⟨v0, vs0, d0, ds0, p0, q0, hargs, rfl, rfl, h0, r0⟩ := trodAll_cons hA
  obtain ⟨v1, vs1, d1, ds1, p1, q1, rfl, rfl, rfl, h1, r1⟩ := trodAll_cons r0
  obtain ⟨v2, vs2, d2, ds2, p2, q2, rfl, rfl, rfl, h2, r2⟩ := trodAll_cons r1
  obtain ⟨rfl, rfl, rfl⟩ := trodAll_nil r2
  obtain rfl : args = #[v0, v1, v2] := by cases args; simp_all
  obtain ⟨rfl, rfl⟩ := trodVars_none hV
  obtain ⟨a0, n0, rfl, rfl, rfl, ha0, hn0⟩ := open_prefix (hval 0 25 v0 rfl rfl) h0
  obtain ⟨a1, n1, rfl, rfl, rfl, ha1, hn1⟩ := open_prefix (hval 1 25 v1 rfl rfl) h1
  obtain ⟨a2, rfl, rfl, rfl, ha2⟩ := open_addr (hval 2 23 v2 rfl rfl) h2
  clear hA0
  simp only [List.append_nil] at hW'
  refine (walk a0 n0 ha0 hn0 a1 n1 ha1 hn1 a2 ha2 W hT).mono fun e W' ⟨he, hb⟩ => ?_
  subst he
  exact ⟨_, rfl, _, _, _, [], [], [], hW', (trodAll_cons_mk (shut_bool Tryd.underlying4 _) trodAll_mk0), (trodAll_cons_mk (shut_prefix ha0 hn0) (trodAll_cons_mk (shut_prefix ha1 hn1) (trodAll_cons_mk (shut_addr ha2) trodAll_mk0))), rfl, hb.frame _, fun h => by cases h⟩
theorem reads (os : Os) {H : Type} (enc : TypeId × Value → H) : ∃ places, DataW.whole enc Tryd.prog ((laidWorld os).forCall (fun _ _ => 0) ⟨#[], #[.agg #[.int .u32 0, .int .i64 0], .agg #[.int .u32 0, .int .i64 0], .int .u32 0], []⟩).memory Tryd.f9.params.toList Rows.prefixHalvesSpec.vars false (#[.agg #[.int .u32 0, .int .i64 0], .agg #[.int .u32 0, .int .i64 0], .int .u32 0] : Array Value).toList 8 = some ([.agg [.lit (.int .u32 0), .lit (.int .i64 0)], .agg [.lit (.int .u32 0), .lit (.int .i64 0)], .lit (.int .u32 0)], [], places) :=
  ⟨[], by kernel_rfl⟩
theorem lifted (os : Os) (started : os.Started) (H : Type) (enc : TypeId × Value → H) (F : Stop.Interp) :
    ReturnsInHanded {} Tryd.checked os 9 .any ((OpenSpec.ofChange Rows.prefixHalvesSpec).preRow enc Tryd.prog Tryd.f9 Rows.prefixHalvesRow.domain false Rows.prefixHalvesRow.laid) (((OpenSpec.ofChange Rows.prefixHalvesSpec).at F).post enc Tryd.prog Tryd.f9 false true false false) := by
  obtain ⟨places, hx⟩ := reads os enc
  refine returnsInHanded_of_row (C := Tryd.checked) (s := OpenSpec.ofChange Rows.prefixHalvesSpec) own started (by kernel_rfl) Tryd.func9
    (witness_row_at (enc := enc) (C := Tryd.checked) false (laidWorld os) #[.agg #[.int .u32 0, .int .i64 0], .agg #[.int .u32 0, .int .i64 0], .int .u32 0] rfl (by kernel_rfl) (by kernel_rfl) (by kernel_rfl)
      (OpenSpec.preRow_of_cond 8 hx (by kernel_rfl) (fun k hk => by cases hk) (by kernel_rfl) (laid_met os _))) ?_
  intro W base args ds gs before hval hW _ _ hsz hL _ _
  exact contract H enc W base args ds gs before hval hW hsz hL
theorem said : Rows.PrefixHalvesSaid :=
  OpenClaim.holds_of_cond 9 Tryd.f9 rfl rfl rfl rfl rfl rfl rfl ⟨rfl, rfl, rfl, rfl, rfl⟩ rfl rfl rfl rfl rfl (by kernel_rfl) Tryd.func9 (by kernel_rfl)
    (of_decide_eq_true (by kernel_rfl)) (by unfold Func.isWrapper; first | (rw [if_pos (by decide +kernel)]; kernel_rfl) | (rw [if_neg (by decide +kernel)]; exact ⟨rfl, rfl⟩))
    (fun os started H enc _ F => by rw [OpenClaim.pre_eq_preRow]; exact lifted os started H enc F)
theorem plain (f : FuncId) (fn : Func) (hf : Tryd.pinned.checked.prog.funcNamed "routing/routinglaw02.PrefixHalves" = some f) (hfn : Tryd.pinned.checked.prog.funcs[f]? = some fn) :
    false = Tryd.pinned.checked.prog.looks [] ∧ ∀ (j : Nat) t, fn.params[j]? = some t → Tryd.pinned.checked.prog.wantsStandIn t = false := by
  obtain rfl : f = 9 := Option.some.inj ((show Tryd.prog.funcNamed "routing/routinglaw02.PrefixHalves" = some 9 by kernel_rfl).symm.trans hf) |>.symm
  obtain rfl : fn = Tryd.f9 := (Option.some.inj (Tryd.func9.symm.trans hfn)).symm
  refine ⟨by kernel_rfl, fun j t ht => ?_⟩
  rw [Tryd.params9] at ht
  have hm := Array.mem_of_getElem? ht
  have hall : ∀ t ∈ (#[25, 25, 23] : Array TypeId), Tryd.prog.wantsStandIn t = false := by
    intro t h
    simp at h
    rcases h with rfl | rfl <;> kernel_rfl
  exact hall t hm
theorem card : Rows.PrefixHalvesCardSaid :=
  Claim7.holds_tied_plain_at .later [] _ _ _ _ said (fun _ h => by cases h) (by kernel_rfl) (fun _ h => by cases h) prefixHalves_row_tie rfl ⟨rfl, rfl⟩ (by kernel_rfl) rfl plain (by kernel_rfl)
#print axioms card
end Go.Proofs.YtbcgfgklajdelaaDoor.prefixHalves
