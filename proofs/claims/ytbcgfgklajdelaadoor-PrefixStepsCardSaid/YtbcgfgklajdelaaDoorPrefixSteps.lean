/-
  Proved: for every prefix value p the law PrefixSteps returns true (Last, Parent and Halves return what the reference returns, and the examples hold); the row lists three library tables, tied by the card; no other conditions.
-/
import Derived.Test.YtbcgfgklajdelaaDoorFrame
import Derived.Test.YtbcgfgklajdelaaDoorWalkF
namespace Go.Proofs.YtbcgfgklajdelaaDoor.prefixSteps
open Go.ChangeShapes Go.WideShapes Go.ChangeAt Go.RowKit
set_option linter.unusedSimpArgs false
set_option linter.unusedVariables false
set_option maxHeartbeats 4000000
set_option maxRecDepth 100000

def parA (a : Nat) (n : Int) : Int := bif vld a n && !(n == 0) then (M.keepN a (M.lowN (n - 1) 32) : Nat) else 0
def parN (a : Nat) (n : Int) : Int := bif vld a n && !(n == 0) then n - 1 else 0
def parO (a : Nat) (n : Int) : Bool := vld a n && !(n == 0)
def halA (a : Nat) (n : Int) : Int := bif vld a n && !(n == 32) then (a : Int) else 0
def halB (a : Nat) (n : Int) : Int := bif vld a n && !(n == 32) then (midN a n : Nat) else 0
def halN (a : Nat) (n : Int) : Int := bif vld a n && !(n == 32) then n + 1 else 0
def halO (a : Nat) (n : Int) : Bool := vld a n && !(n == 32)
def lastA (a : Nat) (n : Int) : Int := bif vld a n then (lastN a n : Nat) else 0
theorem lastA_yes {a : Nat} {n : Int} (h : vld a n = true) : lastA a n = (lastN a n : Nat) := by unfold lastA; rw [h]; rfl
theorem lastA_no {a : Nat} {n : Int} (h : vld a n = false) : lastA a n = 0 := by unfold lastA; rw [h]; rfl
theorem last_all (a : Nat) (ha : a < 4294967296) (n : Int) (hn : I64 n) (w : World) :
    Calls Tryd.prog 29 #[.agg #[.int .u32 a, .int .i64 n]] w fun e w' => e = .returned (.int .u32 (lastA a n)) ∧ Below w.heap.size w w' := by
  cases h : vld a n
  · rw [lastA_no h]; exact last_no a ha n hn w h
  · rw [lastA_yes h]; exact last_yes a ha n hn w h
theorem parent_all (a : Nat) (ha : a < 4294967296) (n : Int) (hn : I64 n) (w : World) :
    Calls Tryd.prog 25 #[.agg #[.int .u32 a, .int .i64 n]] w fun e w' => e = .returned (.tuple #[.agg #[.int .u32 (parA a n), .int .i64 (parN a n)], .bool (parO a n)]) ∧ Below w.heap.size w w' := by
  unfold parA parN parO
  cases h : vld a n
  · exact parent_no a ha n hn w (.inl h)
  · by_cases h0 : n = 0
    · subst h0; exact parent_no a ha 0 hn w (.inr rfl)
    · have e : (n == 0) = false := by rw [beq_eq_false_iff_ne]; exact h0
      rw [e]; exact parent_yes a ha n hn w h (by have := vld_in h; omega)
theorem rparent_all (a : Nat) (ha : a < 4294967296) (n : Int) (hn : I64 n) (w : World) :
    Calls Tryd.prog 26 #[.agg #[.int .u32 a, .int .i64 n]] w fun e w' => e = .returned (.tuple #[.agg #[.int .u32 (parA a n), .int .i64 (parN a n)], .bool (parO a n)]) ∧ Below w.heap.size w w' := by
  unfold parA parN parO
  cases h : vld a n
  · exact rparent_no a ha n hn w (.inl h)
  · by_cases h0 : n = 0
    · subst h0; exact rparent_no a ha 0 hn w (.inr rfl)
    · have e : (n == 0) = false := by rw [beq_eq_false_iff_ne]; exact h0
      rw [e]; exact rparent_yes a ha n hn w h (by have := vld_in h; omega)
theorem halves_all (a : Nat) (ha : a < 4294967296) (n : Int) (hn : I64 n) (w : World) :
    Calls Tryd.prog 27 #[.agg #[.int .u32 a, .int .i64 n]] w fun e w' => e = .returned (.tuple #[.agg #[.int .u32 (halA a n), .int .i64 (halN a n)], .agg #[.int .u32 (halB a n), .int .i64 (halN a n)], .bool (halO a n)]) ∧ Below w.heap.size w w' := by
  unfold halA halB halN halO
  cases h : vld a n
  · exact halves_no a ha n hn w (.inl h)
  · by_cases h0 : n = 32
    · subst h0; exact halves_no a ha 32 hn w (.inr rfl)
    · have e : (n == 32) = false := by rw [beq_eq_false_iff_ne]; exact h0
      rw [e]; exact halves_yes a ha n hn w h (by have := vld_in h; omega) (by have := vld_in h; omega)
theorem rhalves_all (a : Nat) (ha : a < 4294967296) (n : Int) (hn : I64 n) (w : World) :
    Calls Tryd.prog 28 #[.agg #[.int .u32 a, .int .i64 n]] w fun e w' => e = .returned (.tuple #[.agg #[.int .u32 (halA a n), .int .i64 (halN a n)], .agg #[.int .u32 (halB a n), .int .i64 (halN a n)], .bool (halO a n)]) ∧ Below w.heap.size w w' := by
  unfold halA halB halN halO
  cases h : vld a n
  · exact rhalves_no a ha n hn w (.inl h)
  · by_cases h0 : n = 32
    · subst h0; exact rhalves_no a ha 32 hn w (.inr rfl)
    · have e : (n == 32) = false := by rw [beq_eq_false_iff_ne]; exact h0
      rw [e]; exact rhalves_yes a ha n hn w h (by have := vld_in h; omega) (by have := vld_in h; omega)
theorem walk (a0 : Nat) (n0 : Int) (ha0 : a0 < 4294967296) (hn0 : I64 n0) (w : World) (hT : Tab w) :
    Calls Tryd.prog 5 #[.agg #[.int .u32 (a0 : Nat), .int .i64 n0]] w fun e w' => e = .returned (.bool true) ∧ Below w.heap.size w w' := by
  cases hv : vld a0 n0
  · have hl := lastA_no hv
    have HT := Lib.hid hT
    clear hT
    go_enter Tryd.func5, Tryd.ntmps5
    go_wp2_with fail
    go_at_call 16
    refine (rvalid_any _ ha0 _ hn0 _).mono ?_
    rintro e w1 ⟨rfl, h1⟩
    have p01 : w1.cell? ⟨w.heap.size, 0, none⟩ = some (.int .u32 (a0 : Nat)) := carry h1 (by go_simp)
    have p11 : w1.cell? ⟨w.heap.size, 1, none⟩ = some (.int .i64 n0) := carry h1 (by go_simp)
    have B1 := Lib.hid (below_then (below_alloc _ _) h1); clear h1
    go_wp2_with fail
    have p02 := p01
    have p12 := p11
    have B2 := B1
    clear p01 p11 B1
    go_at_call 25
    refine (parent_all _ ha0 _ hn0 _).mono ?_
    rintro e w3 ⟨rfl, h3⟩
    have p03 : w3.cell? ⟨w.heap.size, 0, none⟩ = some (.int .u32 (a0 : Nat)) := carry h3 (p02)
    have p13 : w3.cell? ⟨w.heap.size, 1, none⟩ = some (.int .i64 n0) := carry h3 (p12)
    have B3 := Lib.hid (below_then B2.out h3); clear h3 p02 p12
    have zp3 : w.heap.size < w3.heap.size := World.block_lt_of_cell? _ _ p03
    go_wp2_with fail
    go_at_call 26
    refine (rparent_all _ ha0 _ hn0 _).mono ?_
    rintro e w4 ⟨rfl, h4⟩
    have p04 : w4.cell? ⟨w.heap.size, 0, none⟩ = some (.int .u32 (a0 : Nat)) := carry h4 (akeep (p03))
    have p14 : w4.cell? ⟨w.heap.size, 1, none⟩ = some (.int .i64 n0) := carry h4 (akeep (p13))
    have x04 : w4.cell? ⟨w3.heap.size, 0, none⟩ = some (.int .u32 (parA a0 n0)) := carry h4 (by go_simp)
    have x14 : w4.cell? ⟨w3.heap.size, 1, none⟩ = some (.int .i64 (parN a0 n0)) := carry h4 (by go_simp)
    have B4 := Lib.hid (below_then (below_then B3.out (below_alloc _ _)) h4)
    have zp4 : w.heap.size < w4.heap.size := World.block_lt_of_cell? _ _ p04
    have zx4 : w3.heap.size < w4.heap.size := World.block_lt_of_cell? _ _ x04
    clear h4 p03 p13 zp3
    generalize w3.heap.size = X1 at *
    go_wp2_with fail
    go_at_call 27
    refine (halves_all _ ha0 _ hn0 _).mono ?_
    rintro e w5 ⟨rfl, h5⟩
    have p05 : w5.cell? ⟨w.heap.size, 0, none⟩ = some (.int .u32 (a0 : Nat)) := carry h5 (akeep (p04))
    have p15 : w5.cell? ⟨w.heap.size, 1, none⟩ = some (.int .i64 n0) := carry h5 (akeep (p14))
    have x05 : w5.cell? ⟨X1, 0, none⟩ = some (.int .u32 (parA a0 n0)) := carry h5 (akeep x04)
    have x15 : w5.cell? ⟨X1, 1, none⟩ = some (.int .i64 (parN a0 n0)) := carry h5 (akeep x14)
    have y05 : w5.cell? ⟨w4.heap.size, 0, none⟩ = some (.int .u32 (parA a0 n0)) := carry h5 (by go_simp)
    have y15 : w5.cell? ⟨w4.heap.size, 1, none⟩ = some (.int .i64 (parN a0 n0)) := carry h5 (by go_simp)
    have B5 := Lib.hid (below_then (below_then B4.out (below_alloc _ _)) h5)
    have zp5 : w.heap.size < w5.heap.size := World.block_lt_of_cell? _ _ p05
    have zx5 : X1 < w5.heap.size := World.block_lt_of_cell? _ _ x05
    have zy5 : w4.heap.size < w5.heap.size := World.block_lt_of_cell? _ _ y05
    have zp5' : w.heap.size < w5.heap.size + 1 := by omega
    clear h5 p04 p14 x04 x14 zp4 zx4
    generalize w4.heap.size = Y1 at *
    go_wp2_with fail
    go_at_call 28
    refine (rhalves_all _ ha0 _ hn0 _).mono ?_
    rintro e w6 ⟨rfl, h6⟩
    have p06 : w6.cell? ⟨w.heap.size, 0, none⟩ = some (.int .u32 (a0 : Nat)) := carry h6 (akeep (akeep (p05)))
    have p16 : w6.cell? ⟨w.heap.size, 1, none⟩ = some (.int .i64 n0) := carry h6 (akeep (akeep (p15)))
    have x06 : w6.cell? ⟨X1, 0, none⟩ = some (.int .u32 (parA a0 n0)) := carry h6 (akeep (akeep x05))
    have x16 : w6.cell? ⟨X1, 1, none⟩ = some (.int .i64 (parN a0 n0)) := carry h6 (akeep (akeep x15))
    have y06 : w6.cell? ⟨Y1, 0, none⟩ = some (.int .u32 (parA a0 n0)) := carry h6 (akeep (akeep y05))
    have y16 : w6.cell? ⟨Y1, 1, none⟩ = some (.int .i64 (parN a0 n0)) := carry h6 (akeep (akeep y15))
    have u06 : w6.cell? ⟨w5.heap.size, 0, none⟩ = some (.int .u32 (halA a0 n0)) := carry h6 (by go_simp)
    have u16 : w6.cell? ⟨w5.heap.size, 1, none⟩ = some (.int .i64 (halN a0 n0)) := carry h6 (by go_simp)
    have v06 : w6.cell? ⟨w5.heap.size + 1, 0, none⟩ = some (.int .u32 (halB a0 n0)) := carry h6 (by go_simp)
    have v16 : w6.cell? ⟨w5.heap.size + 1, 1, none⟩ = some (.int .i64 (halN a0 n0)) := carry h6 (by go_simp)
    have B6 := Lib.hid (below_then (below_then (below_then B5.out (below_alloc _ _)) (below_alloc _ _)) h6)
    have zp6 : w.heap.size < w6.heap.size := World.block_lt_of_cell? _ _ p06
    have zp6' : w.heap.size < w6.heap.size + 1 := by omega
    clear h6 p05 p15 x05 x15 y05 y15 zp5 zx5 zy5 zp5'
    generalize w5.heap.size = U1 at *
    go_wp2_with fail
    go_at_call 29
    refine (last_all _ ha0 _ hn0 _).mono ?_
    rintro e w7 ⟨rfl, h7⟩
    have x07 : w7.cell? ⟨X1, 0, none⟩ = some (.int .u32 (parA a0 n0)) := carry h7 (akeep (akeep x06))
    have x17 : w7.cell? ⟨X1, 1, none⟩ = some (.int .i64 (parN a0 n0)) := carry h7 (akeep (akeep x16))
    have y07 : w7.cell? ⟨Y1, 0, none⟩ = some (.int .u32 (parA a0 n0)) := carry h7 (akeep (akeep y06))
    have y17 : w7.cell? ⟨Y1, 1, none⟩ = some (.int .i64 (parN a0 n0)) := carry h7 (akeep (akeep y16))
    have u07 : w7.cell? ⟨U1, 0, none⟩ = some (.int .u32 (halA a0 n0)) := carry h7 (akeep (akeep u06))
    have u17 : w7.cell? ⟨U1, 1, none⟩ = some (.int .i64 (halN a0 n0)) := carry h7 (akeep (akeep u16))
    have v07 : w7.cell? ⟨U1 + 1, 0, none⟩ = some (.int .u32 (halB a0 n0)) := carry h7 (akeep (akeep v06))
    have v17 : w7.cell? ⟨U1 + 1, 1, none⟩ = some (.int .i64 (halN a0 n0)) := carry h7 (akeep (akeep v16))
    have s07 : w7.cell? ⟨w6.heap.size, 0, none⟩ = some (.int .u32 (halA a0 n0)) := carry h7 (by go_simp)
    have s17 : w7.cell? ⟨w6.heap.size, 1, none⟩ = some (.int .i64 (halN a0 n0)) := carry h7 (by go_simp)
    have t07 : w7.cell? ⟨w6.heap.size + 1, 0, none⟩ = some (.int .u32 (halB a0 n0)) := carry h7 (by go_simp)
    have t17 : w7.cell? ⟨w6.heap.size + 1, 1, none⟩ = some (.int .i64 (halN a0 n0)) := carry h7 (by go_simp)
    have B7 := Lib.hid (below_then (below_then (below_then B6.out (below_alloc _ _)) (below_alloc _ _)) h7)
    clear h7 p06 p16 x06 x16 y06 y16 u06 u16 v06 v16 zp6 zp6'
    generalize w6.heap.size = S1 at *
    go_wp2_with fail
    go_at_call 21
    refine (lives_any _ (tab_below HT.out B7.out)).mono ?_
    rintro e w8 ⟨rfl, h8⟩
    have B8 := Lib.hid (below_then B7.out h8); clear h8
    go_wp2_with fail
    go_ret
    exact ⟨rfl, B8.out⟩
  · have hl := lastA_yes hv
    have HT := Lib.hid hT
    clear hT
    go_enter Tryd.func5, Tryd.ntmps5
    go_wp2_with fail
    go_at_call 16
    refine (rvalid_any _ ha0 _ hn0 _).mono ?_
    rintro e w1 ⟨rfl, h1⟩
    have p01 : w1.cell? ⟨w.heap.size, 0, none⟩ = some (.int .u32 (a0 : Nat)) := carry h1 (by go_simp)
    have p11 : w1.cell? ⟨w.heap.size, 1, none⟩ = some (.int .i64 n0) := carry h1 (by go_simp)
    have B1 := Lib.hid (below_then (below_alloc _ _) h1); clear h1
    go_wp2_with fail
    go_at_call 24
    refine (rlast_any _ ha0 _ hn0 _).mono ?_
    rintro e w2 ⟨rfl, h2⟩
    have p02 : w2.cell? ⟨w.heap.size, 0, none⟩ = some (.int .u32 (a0 : Nat)) := carry h2 (p01)
    have p12 : w2.cell? ⟨w.heap.size, 1, none⟩ = some (.int .i64 n0) := carry h2 (p11)
    have B2 := Lib.hid (below_then B1.out h2); clear h2 p01 p11
    go_wp2_with fail
    go_at_call 25
    refine (parent_all _ ha0 _ hn0 _).mono ?_
    rintro e w3 ⟨rfl, h3⟩
    have p03 : w3.cell? ⟨w.heap.size, 0, none⟩ = some (.int .u32 (a0 : Nat)) := carry h3 (p02)
    have p13 : w3.cell? ⟨w.heap.size, 1, none⟩ = some (.int .i64 n0) := carry h3 (p12)
    have B3 := Lib.hid (below_then B2.out h3); clear h3 p02 p12
    have zp3 : w.heap.size < w3.heap.size := World.block_lt_of_cell? _ _ p03
    go_wp2_with fail
    go_at_call 26
    refine (rparent_all _ ha0 _ hn0 _).mono ?_
    rintro e w4 ⟨rfl, h4⟩
    have p04 : w4.cell? ⟨w.heap.size, 0, none⟩ = some (.int .u32 (a0 : Nat)) := carry h4 (akeep (p03))
    have p14 : w4.cell? ⟨w.heap.size, 1, none⟩ = some (.int .i64 n0) := carry h4 (akeep (p13))
    have x04 : w4.cell? ⟨w3.heap.size, 0, none⟩ = some (.int .u32 (parA a0 n0)) := carry h4 (by go_simp)
    have x14 : w4.cell? ⟨w3.heap.size, 1, none⟩ = some (.int .i64 (parN a0 n0)) := carry h4 (by go_simp)
    have B4 := Lib.hid (below_then (below_then B3.out (below_alloc _ _)) h4)
    have zp4 : w.heap.size < w4.heap.size := World.block_lt_of_cell? _ _ p04
    have zx4 : w3.heap.size < w4.heap.size := World.block_lt_of_cell? _ _ x04
    clear h4 p03 p13 zp3
    generalize w3.heap.size = X1 at *
    go_wp2_with fail
    go_at_call 27
    refine (halves_all _ ha0 _ hn0 _).mono ?_
    rintro e w5 ⟨rfl, h5⟩
    have p05 : w5.cell? ⟨w.heap.size, 0, none⟩ = some (.int .u32 (a0 : Nat)) := carry h5 (akeep (p04))
    have p15 : w5.cell? ⟨w.heap.size, 1, none⟩ = some (.int .i64 n0) := carry h5 (akeep (p14))
    have x05 : w5.cell? ⟨X1, 0, none⟩ = some (.int .u32 (parA a0 n0)) := carry h5 (akeep x04)
    have x15 : w5.cell? ⟨X1, 1, none⟩ = some (.int .i64 (parN a0 n0)) := carry h5 (akeep x14)
    have y05 : w5.cell? ⟨w4.heap.size, 0, none⟩ = some (.int .u32 (parA a0 n0)) := carry h5 (by go_simp)
    have y15 : w5.cell? ⟨w4.heap.size, 1, none⟩ = some (.int .i64 (parN a0 n0)) := carry h5 (by go_simp)
    have B5 := Lib.hid (below_then (below_then B4.out (below_alloc _ _)) h5)
    have zp5 : w.heap.size < w5.heap.size := World.block_lt_of_cell? _ _ p05
    have zx5 : X1 < w5.heap.size := World.block_lt_of_cell? _ _ x05
    have zy5 : w4.heap.size < w5.heap.size := World.block_lt_of_cell? _ _ y05
    have zp5' : w.heap.size < w5.heap.size + 1 := by omega
    clear h5 p04 p14 x04 x14 zp4 zx4
    generalize w4.heap.size = Y1 at *
    go_wp2_with fail
    go_at_call 28
    refine (rhalves_all _ ha0 _ hn0 _).mono ?_
    rintro e w6 ⟨rfl, h6⟩
    have p06 : w6.cell? ⟨w.heap.size, 0, none⟩ = some (.int .u32 (a0 : Nat)) := carry h6 (akeep (akeep (p05)))
    have p16 : w6.cell? ⟨w.heap.size, 1, none⟩ = some (.int .i64 n0) := carry h6 (akeep (akeep (p15)))
    have x06 : w6.cell? ⟨X1, 0, none⟩ = some (.int .u32 (parA a0 n0)) := carry h6 (akeep (akeep x05))
    have x16 : w6.cell? ⟨X1, 1, none⟩ = some (.int .i64 (parN a0 n0)) := carry h6 (akeep (akeep x15))
    have y06 : w6.cell? ⟨Y1, 0, none⟩ = some (.int .u32 (parA a0 n0)) := carry h6 (akeep (akeep y05))
    have y16 : w6.cell? ⟨Y1, 1, none⟩ = some (.int .i64 (parN a0 n0)) := carry h6 (akeep (akeep y15))
    have u06 : w6.cell? ⟨w5.heap.size, 0, none⟩ = some (.int .u32 (halA a0 n0)) := carry h6 (by go_simp)
    have u16 : w6.cell? ⟨w5.heap.size, 1, none⟩ = some (.int .i64 (halN a0 n0)) := carry h6 (by go_simp)
    have v06 : w6.cell? ⟨w5.heap.size + 1, 0, none⟩ = some (.int .u32 (halB a0 n0)) := carry h6 (by go_simp)
    have v16 : w6.cell? ⟨w5.heap.size + 1, 1, none⟩ = some (.int .i64 (halN a0 n0)) := carry h6 (by go_simp)
    have B6 := Lib.hid (below_then (below_then (below_then B5.out (below_alloc _ _)) (below_alloc _ _)) h6)
    have zp6 : w.heap.size < w6.heap.size := World.block_lt_of_cell? _ _ p06
    have zp6' : w.heap.size < w6.heap.size + 1 := by omega
    clear h6 p05 p15 x05 x15 y05 y15 zp5 zx5 zy5 zp5'
    generalize w5.heap.size = U1 at *
    go_wp2_with fail
    go_at_call 29
    refine (last_all _ ha0 _ hn0 _).mono ?_
    rintro e w7 ⟨rfl, h7⟩
    have x07 : w7.cell? ⟨X1, 0, none⟩ = some (.int .u32 (parA a0 n0)) := carry h7 (akeep (akeep x06))
    have x17 : w7.cell? ⟨X1, 1, none⟩ = some (.int .i64 (parN a0 n0)) := carry h7 (akeep (akeep x16))
    have y07 : w7.cell? ⟨Y1, 0, none⟩ = some (.int .u32 (parA a0 n0)) := carry h7 (akeep (akeep y06))
    have y17 : w7.cell? ⟨Y1, 1, none⟩ = some (.int .i64 (parN a0 n0)) := carry h7 (akeep (akeep y16))
    have u07 : w7.cell? ⟨U1, 0, none⟩ = some (.int .u32 (halA a0 n0)) := carry h7 (akeep (akeep u06))
    have u17 : w7.cell? ⟨U1, 1, none⟩ = some (.int .i64 (halN a0 n0)) := carry h7 (akeep (akeep u16))
    have v07 : w7.cell? ⟨U1 + 1, 0, none⟩ = some (.int .u32 (halB a0 n0)) := carry h7 (akeep (akeep v06))
    have v17 : w7.cell? ⟨U1 + 1, 1, none⟩ = some (.int .i64 (halN a0 n0)) := carry h7 (akeep (akeep v16))
    have s07 : w7.cell? ⟨w6.heap.size, 0, none⟩ = some (.int .u32 (halA a0 n0)) := carry h7 (by go_simp)
    have s17 : w7.cell? ⟨w6.heap.size, 1, none⟩ = some (.int .i64 (halN a0 n0)) := carry h7 (by go_simp)
    have t07 : w7.cell? ⟨w6.heap.size + 1, 0, none⟩ = some (.int .u32 (halB a0 n0)) := carry h7 (by go_simp)
    have t17 : w7.cell? ⟨w6.heap.size + 1, 1, none⟩ = some (.int .i64 (halN a0 n0)) := carry h7 (by go_simp)
    have B7 := Lib.hid (below_then (below_then (below_then B6.out (below_alloc _ _)) (below_alloc _ _)) h7)
    clear h7 p06 p16 x06 x16 y06 y16 u06 u16 v06 v16 zp6 zp6'
    generalize w6.heap.size = S1 at *
    go_wp2_with fail
    go_at_call 21
    refine (lives_any _ (tab_below HT.out B7.out)).mono ?_
    rintro e w8 ⟨rfl, h8⟩
    have B8 := Lib.hid (below_then B7.out h8); clear h8
    go_wp2_with fail
    go_ret
    exact ⟨rfl, B8.out⟩
theorem contract (H : Type) (enc : TypeId × Value → H) (W : World) (base : Nat) (args : Array Value) (ds gs : List (DataW H)) (before : List MemPlace)
    (hval : ∀ (j : Nat) t v, Tryd.f5.params[j]? = some t → args[j]? = some v → Value.okWide Tryd.prog W .any base t v)
    (hW : DataW.Whole enc Tryd.prog Tryd.f5.params.toList Rows.prefixStepsSpec.vars false W args.toList ds gs before)
    (hsz : (DataW.weightsEach Tryd.prog (Tryd.f5.params.toList ++ (OpenSpec.ofChange Rows.prefixStepsSpec).bare.plain.varTypes Tryd.prog) (ds ++ gs)).all (· ≤ reachBytes) = true)
    (hL : laidMetH Tryd.prog Rows.prefixStepsRow.laid W) :
    Calls Tryd.prog 5 args W fun e W' => ∃ v, e = .returned v ∧ Rows.prefixStepsSpec.post enc Tryd.prog Tryd.f5 false true false false W args v W' := by
  have hT : Tab W := tab_of_laid hL
  have hW' := hW
  obtain ⟨p, q, hA0, hV, rfl, hfz, hnd⟩ := hW
  have hA : DataW.TrodAll enc Tryd.prog W 0 (fun _ => true) true Tryd.f5.params.toList args.toList ds p := hA0
  rw [Tryd.params5] at hA hval hsz
  obtain ⟨v0, vs0, d0, ds0, p0, q0, hargs, rfl, rfl, h0, r0⟩ := trodAll_cons hA
  obtain ⟨rfl, rfl, rfl⟩ := trodAll_nil r0
  obtain rfl : args = #[v0] := by cases args; simp_all
  obtain ⟨rfl, rfl⟩ := trodVars_none hV
  obtain ⟨a0, n0, rfl, rfl, rfl, ha0, hn0⟩ := open_prefix (hval 0 25 v0 rfl rfl) h0
  clear hA0
  simp only [List.append_nil] at hW'
  refine (walk a0 n0 ha0 hn0 W hT).mono fun e W' ⟨he, hb⟩ => ?_
  subst he
  exact ⟨_, rfl, _, _, _, [], [], [], hW', (trodAll_cons_mk (shut_bool Tryd.underlying4 _) trodAll_mk0), (trodAll_cons_mk (shut_prefix ha0 hn0) trodAll_mk0), rfl, hb.frame _, fun h => by cases h⟩
theorem reads (os : Os) {H : Type} (enc : TypeId × Value → H) : ∃ places, DataW.whole enc Tryd.prog ((laidWorld os).forCall (fun _ _ => 0) ⟨#[], #[.agg #[.int .u32 0, .int .i64 0]], []⟩).memory Tryd.f5.params.toList Rows.prefixStepsSpec.vars false (#[.agg #[.int .u32 0, .int .i64 0]] : Array Value).toList 8 = some ([.agg [.lit (.int .u32 0), .lit (.int .i64 0)]], [], places) :=
  ⟨[], by kernel_rfl⟩
theorem lifted (os : Os) (started : os.Started) (H : Type) (enc : TypeId × Value → H) (F : Stop.Interp) :
    ReturnsInHanded {} Tryd.checked os 5 .any ((OpenSpec.ofChange Rows.prefixStepsSpec).preRow enc Tryd.prog Tryd.f5 Rows.prefixStepsRow.domain false Rows.prefixStepsRow.laid) (((OpenSpec.ofChange Rows.prefixStepsSpec).at F).post enc Tryd.prog Tryd.f5 false true false false) := by
  obtain ⟨places, hx⟩ := reads os enc
  refine returnsInHanded_of_row (C := Tryd.checked) (s := OpenSpec.ofChange Rows.prefixStepsSpec) own started (by kernel_rfl) Tryd.func5
    (witness_row_at (enc := enc) (C := Tryd.checked) false (laidWorld os) #[.agg #[.int .u32 0, .int .i64 0]] rfl (by kernel_rfl) (by kernel_rfl) (by kernel_rfl)
      (OpenSpec.preRow_of_cond 8 hx (by kernel_rfl) (fun k hk => by cases hk) (by kernel_rfl) (laid_met os _))) ?_
  intro W base args ds gs before hval hW _ _ hsz hL _ _
  exact contract H enc W base args ds gs before hval hW hsz hL
theorem said : Rows.PrefixStepsSaid :=
  OpenClaim.holds_of_cond 5 Tryd.f5 rfl rfl rfl rfl rfl rfl rfl ⟨rfl, rfl, rfl, rfl, rfl⟩ rfl rfl rfl rfl rfl (by kernel_rfl) Tryd.func5 (by kernel_rfl)
    (of_decide_eq_true (by kernel_rfl)) (by unfold Func.isWrapper; first | (rw [if_pos (by decide +kernel)]; kernel_rfl) | (rw [if_neg (by decide +kernel)]; exact ⟨rfl, rfl⟩))
    (fun os started H enc _ F => by rw [OpenClaim.pre_eq_preRow]; exact lifted os started H enc F)
theorem plain (f : FuncId) (fn : Func) (hf : Tryd.pinned.checked.prog.funcNamed "routing/routinglaw02.PrefixSteps" = some f) (hfn : Tryd.pinned.checked.prog.funcs[f]? = some fn) :
    false = Tryd.pinned.checked.prog.looks [] ∧ ∀ (j : Nat) t, fn.params[j]? = some t → Tryd.pinned.checked.prog.wantsStandIn t = false := by
  obtain rfl : f = 5 := Option.some.inj ((show Tryd.prog.funcNamed "routing/routinglaw02.PrefixSteps" = some 5 by kernel_rfl).symm.trans hf) |>.symm
  obtain rfl : fn = Tryd.f5 := (Option.some.inj (Tryd.func5.symm.trans hfn)).symm
  refine ⟨by kernel_rfl, fun j t ht => ?_⟩
  rw [Tryd.params5] at ht
  have hm := Array.mem_of_getElem? ht
  have hall : ∀ t ∈ (#[25] : Array TypeId), Tryd.prog.wantsStandIn t = false := by
    intro t h
    simp at h
    rcases h with rfl <;> kernel_rfl
  exact hall t hm
theorem card : Rows.PrefixStepsCardSaid :=
  Claim7.holds_tied_plain_at .later [] _ _ _ _ said (fun _ h => by cases h) (by kernel_rfl) (fun _ h => by cases h) prefixSteps_row_tie rfl ⟨rfl, rfl⟩ (by kernel_rfl) rfl plain (by kernel_rfl)
#print axioms card
end Go.Proofs.YtbcgfgklajdelaaDoor.prefixSteps
