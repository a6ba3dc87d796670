/-
  The walk of the laws' own examples.
-/
import Derived.Test.YtbcgfgklajdelaaDoorWalkO
import Derived.Test.YtbcgfgklajdelaaDoorWalkE
namespace Go.Proofs.YtbcgfgklajdelaaDoor
open Go.RowKit
set_option linter.unusedSimpArgs false
set_option linter.unusedVariables false
set_option maxHeartbeats 4000000
set_option maxRecDepth 100000

theorem carry {W w1 : World} {p : Addr} {v : Value} (hb : Below W.heap.size W w1) (h : W.cell? p = some v) : w1.cell? p = some v := by
  rw [hb.cell (World.block_lt_of_cell? _ _ h)]; exact h
theorem ex_make (W : World) : Calls Tryd.prog 12 #[.int .u32 167838211, .int .i64 23] W fun e w' => e = .returned (.tuple #[.agg #[.int .u32 167838208, .int .i64 23], .int .i64 0]) ∧ Below W.heap.size W w' :=
  (make_yes 167838211 (by omega) 23 (by omega) (by omega) W).mono fun e w' ⟨h1, h2⟩ => ⟨by rw [h1]; exact ret_t (by kernel_rfl), h2⟩
theorem ex_halves (W : World) : Calls Tryd.prog 27 #[.agg #[.int .u32 167838208, .int .i64 23]] W fun e w' => e = .returned (.tuple #[.agg #[.int .u32 167838208, .int .i64 24], .agg #[.int .u32 167838464, .int .i64 24], .bool true]) ∧ Below W.heap.size W w' :=
  (halves_yes 167838208 (by omega) 23 (by omega) W (by decide) (by omega) (by omega)).mono fun e w' ⟨h1, h2⟩ => ⟨by rw [h1]; exact ret_t (by kernel_rfl), h2⟩
theorem ex_parent (W : World) : Calls Tryd.prog 25 #[.agg #[.int .u32 167838208, .int .i64 23]] W fun e w' => e = .returned (.tuple #[.agg #[.int .u32 167837696, .int .i64 22], .bool true]) ∧ Below W.heap.size W w' :=
  (parent_yes 167838208 (by omega) 23 (by omega) W (by decide) (by omega)).mono fun e w' ⟨h1, h2⟩ => ⟨by rw [h1]; exact ret_t (by kernel_rfl), h2⟩
theorem ex_parse1 (W : World) : Calls Tryd.prog 36 #[.string ⟨#[49, 48, 46, 48, 46, 48, 46, 49, 47, 56]⟩] W fun e w' => e = .returned (.tuple #[.agg #[.int .u32 0, .int .i64 0], .int .i64 1]) ∧ Below W.heap.size W w' :=
  (parse_any [49, 48, 46, 48, 46, 48, 46, 49, 47, 56] (by simp) W).mono fun e w' ⟨h1, h2⟩ => ⟨by rw [h1]; exact ret_t (by kernel_rfl), h2⟩
theorem ex_parse2 (W : World) : Calls Tryd.prog 36 #[.string ⟨#[49, 48, 46, 48, 46, 48, 46, 48, 47, 48, 56]⟩] W fun e w' => e = .returned (.tuple #[.agg #[.int .u32 0, .int .i64 0], .int .i64 2]) ∧ Below W.heap.size W w' :=
  (parse_any [49, 48, 46, 48, 46, 48, 46, 48, 47, 48, 56] (by simp) W).mono fun e w' ⟨h1, h2⟩ => ⟨by rw [h1]; exact ret_t (by kernel_rfl), h2⟩
theorem ex_last (W : World) : Calls Tryd.prog 29 #[.agg #[.int .u32 167838208, .int .i64 23]] W fun e w' => e = .returned (.int .u32 167838719) ∧ Below W.heap.size W w' :=
  (last_yes 167838208 (by omega) 23 (by omega) W (by decide)).mono fun e w' ⟨h1, h2⟩ => ⟨by rw [h1]; exact ret_t (by kernel_rfl), h2⟩
theorem dd1 {n : Nat} (h : n < 10) : Lib.decDigits n = [UInt8.ofNat (48 + n)] := Lib.decDigits_one h
theorem dd255 : Lib.decDigits 255 = [50, 53, 53] := by rw [Lib.decDigits, dif_neg (by omega), Lib.decDigits_two (by omega) (by omega)]; rfl
theorem dd2 {n : Nat} (h1 : ¬ n < 10) (h : n < 100) : Lib.decDigits n = [UInt8.ofNat (48 + n / 10), UInt8.ofNat (48 + n % 10)] := Lib.decDigits_two h1 h
theorem ex_addr (W : World) (hT : Tab W) : Calls Tryd.prog 30 #[.int .u32 167838719] W fun e w' => e = .returned (.string ⟨#[49, 48, 46, 49, 46, 51, 46, 50, 53, 53]⟩) ∧ Below W.heap.size W w' :=
  (addr_any 167838719 (by omega) W hT).mono fun e w' ⟨h1, h2⟩ => ⟨by
    rw [h1, show addrT 167838719 = [49, 48, 46, 49, 46, 51, 46, 50, 53, 53] by
      unfold addrT
      rw [show 167838719 / 16777216 = 10 by rfl, show 167838719 / 65536 % 256 = 1 by rfl, show 167838719 / 256 % 256 = 3 by rfl, show 167838719 % 256 = 255 by rfl, dd255, dd2 (n := 10) (by omega) (by omega), dd1 (n := 1) (by omega), dd1 (n := 3) (by omega)]; rfl]; rfl, h2⟩
theorem ex_text1 (W : World) (hT : Tab W) : Calls Tryd.prog 32 #[.agg #[.int .u32 167838208, .int .i64 23]] W fun e w' => e = .returned (.string ⟨#[49, 48, 46, 49, 46, 50, 46, 48, 47, 50, 51]⟩) ∧ Below W.heap.size W w' :=
  (text_any 167838208 (by omega) 23 (by omega) W hT).mono fun e w' ⟨h1, h2⟩ => ⟨by
    rw [h1, txt_yes (by decide), show textT 167838208 23 = [49, 48, 46, 49, 46, 50, 46, 48, 47, 50, 51] by
      unfold textT addrT
      rw [show 167838208 / 16777216 = 10 by rfl, show 167838208 / 65536 % 256 = 1 by rfl, show 167838208 / 256 % 256 = 2 by rfl, show 167838208 % 256 = 0 by rfl, show (23 : Int).toNat = 23 by rfl, dd2 (n := 10) (by omega) (by omega), dd2 (n := 23) (by omega) (by omega), dd1 (n := 1) (by omega), dd1 (n := 2) (by omega), dd1 (n := 0) (by omega)]; rfl]; rfl, h2⟩
theorem ex_text2 (W : World) (hT : Tab W) : Calls Tryd.prog 32 #[.agg #[.int .u32 167838208, .int .i64 24]] W fun e w' => e = .returned (.string ⟨#[49, 48, 46, 49, 46, 50, 46, 48, 47, 50, 52]⟩) ∧ Below W.heap.size W w' :=
  (text_any 167838208 (by omega) 24 (by omega) W hT).mono fun e w' ⟨h1, h2⟩ => ⟨by
    rw [h1, txt_yes (by decide), show textT 167838208 24 = [49, 48, 46, 49, 46, 50, 46, 48, 47, 50, 52] by
      unfold textT addrT
      rw [show 167838208 / 16777216 = 10 by rfl, show 167838208 / 65536 % 256 = 1 by rfl, show 167838208 / 256 % 256 = 2 by rfl, show 167838208 % 256 = 0 by rfl, show (24 : Int).toNat = 24 by rfl, dd2 (n := 10) (by omega) (by omega), dd2 (n := 24) (by omega) (by omega), dd1 (n := 1) (by omega), dd1 (n := 2) (by omega), dd1 (n := 0) (by omega)]; rfl]; rfl, h2⟩
theorem ex_text3 (W : World) (hT : Tab W) : Calls Tryd.prog 32 #[.agg #[.int .u32 167838464, .int .i64 24]] W fun e w' => e = .returned (.string ⟨#[49, 48, 46, 49, 46, 51, 46, 48, 47, 50, 52]⟩) ∧ Below W.heap.size W w' :=
  (text_any 167838464 (by omega) 24 (by omega) W hT).mono fun e w' ⟨h1, h2⟩ => ⟨by
    rw [h1, txt_yes (by decide), show textT 167838464 24 = [49, 48, 46, 49, 46, 51, 46, 48, 47, 50, 52] by
      unfold textT addrT
      rw [show 167838464 / 16777216 = 10 by rfl, show 167838464 / 65536 % 256 = 1 by rfl, show 167838464 / 256 % 256 = 3 by rfl, show 167838464 % 256 = 0 by rfl, show (24 : Int).toNat = 24 by rfl, dd2 (n := 10) (by omega) (by omega), dd2 (n := 24) (by omega) (by omega), dd1 (n := 1) (by omega), dd1 (n := 3) (by omega), dd1 (n := 0) (by omega)]; rfl]; rfl, h2⟩
theorem ex_text4 (W : World) (hT : Tab W) : Calls Tryd.prog 32 #[.agg #[.int .u32 167837696, .int .i64 22]] W fun e w' => e = .returned (.string ⟨#[49, 48, 46, 49, 46, 48, 46, 48, 47, 50, 50]⟩) ∧ Below W.heap.size W w' :=
  (text_any 167837696 (by omega) 22 (by omega) W hT).mono fun e w' ⟨h1, h2⟩ => ⟨by
    rw [h1, txt_yes (by decide), show textT 167837696 22 = [49, 48, 46, 49, 46, 48, 46, 48, 47, 50, 50] by
      show Lib.decDigits 10 ++ 46 :: (Lib.decDigits 1 ++ 46 :: (Lib.decDigits 0 ++ 46 :: Lib.decDigits 0)) ++ 47 :: Lib.decDigits 22 = _
      rw [dd2 (n := 10) (by omega) (by omega), dd2 (n := 22) (by omega) (by omega), dd1 (n := 1) (by omega), dd1 (n := 0) (by omega)]; rfl]; rfl, h2⟩
theorem akeep {W : World} {p : Addr} {v : Value} {o : Obj} (h : W.cell? p = some v) : (W.alloc o).cell? p = some v := by
  rw [World.cell?_alloc_some _ _ _ (by rw [h]; rfl)]; exact h

theorem lives_any (w : World) (hT : Tab w) : Calls Tryd.prog 21 #[] w fun e w' => e = .returned (.bool true) ∧ Below w.heap.size w w' := by
  have HT := Lib.hid hT; clear hT
  go_enter Tryd.func21, Tryd.ntmps21
  go_wp2_with fail
  go_at_call 12
  refine (ex_make _).mono ?_
  rintro e w1 ⟨rfl, h1⟩
  have B1 := Lib.hid h1; clear h1
  go_wp2_with fail
  go_at_call 27
  refine (ex_halves _).mono ?_
  rintro e w2 ⟨rfl, h2⟩
  have p02 : w2.cell? ⟨w1.heap.size, 0, none⟩ = some (.int .u32 167838208) := carry h2 (by go_simp)
  have p12 : w2.cell? ⟨w1.heap.size, 1, none⟩ = some (.int .i64 23) := carry h2 (by go_simp)
  have B2 := Lib.hid (below_then (below_then B1.out (below_alloc _ _)) h2)
  have z2 : w1.heap.size < w2.heap.size := World.block_lt_of_cell? _ _ p02
  have z2' : w1.heap.size < w2.heap.size + 1 := by omega
  clear h2
  generalize w1.heap.size = P1 at *
  go_wp2_with fail
  go_at_call 25
  refine (ex_parent _).mono ?_
  rintro e w3 ⟨rfl, h3⟩
  have p03 : w3.cell? ⟨P1, 0, none⟩ = some (.int .u32 167838208) := carry h3 (akeep (akeep (p02)))
  have p13 : w3.cell? ⟨P1, 1, none⟩ = some (.int .i64 23) := carry h3 (akeep (akeep (p12)))
  have q03 : w3.cell? ⟨w2.heap.size, 0, none⟩ = some (.int .u32 167838208) := carry h3 (by go_simp)
  have q13 : w3.cell? ⟨w2.heap.size, 1, none⟩ = some (.int .i64 24) := carry h3 (by go_simp)
  have r03 : w3.cell? ⟨w2.heap.size + 1, 0, none⟩ = some (.int .u32 167838464) := carry h3 (by go_simp)
  have r13 : w3.cell? ⟨w2.heap.size + 1, 1, none⟩ = some (.int .i64 24) := carry h3 (by go_simp)
  have B3 := Lib.hid (below_then (below_then (below_then B2.out (below_alloc _ _)) (below_alloc _ _)) h3)
  have zp3 : P1 < w3.heap.size := World.block_lt_of_cell? _ _ p03
  have zq3 : w2.heap.size < w3.heap.size := World.block_lt_of_cell? _ _ q03
  have zr3 : w2.heap.size + 1 < w3.heap.size := World.block_lt_of_cell? _ _ r03
  clear h3 p02 p12 z2 z2'
  generalize w2.heap.size = P2 at *
  go_wp2_with fail
  go_at_call 36
  refine (ex_parse1 _).mono ?_
  rintro e w4 ⟨rfl, h4⟩
  have p04 : w4.cell? ⟨P1, 0, none⟩ = some (.int .u32 167838208) := carry h4 (akeep (p03))
  have p14 : w4.cell? ⟨P1, 1, none⟩ = some (.int .i64 23) := carry h4 (akeep (p13))
  have q04 : w4.cell? ⟨P2, 0, none⟩ = some (.int .u32 167838208) := carry h4 (akeep (q03))
  have q14 : w4.cell? ⟨P2, 1, none⟩ = some (.int .i64 24) := carry h4 (akeep (q13))
  have r04 : w4.cell? ⟨P2 + 1, 0, none⟩ = some (.int .u32 167838464) := carry h4 (akeep (r03))
  have r14 : w4.cell? ⟨P2 + 1, 1, none⟩ = some (.int .i64 24) := carry h4 (akeep (r13))
  have s04 : w4.cell? ⟨w3.heap.size, 0, none⟩ = some (.int .u32 167837696) := carry h4 (by go_simp)
  have s14 : w4.cell? ⟨w3.heap.size, 1, none⟩ = some (.int .i64 22) := carry h4 (by go_simp)
  have B4 := Lib.hid (below_then (below_then B3.out (below_alloc _ _)) h4)
  clear h4 zp3 zq3 zr3
  clear p03 p13 q03 q13 r03 r13
  generalize w3.heap.size = P3 at *
  go_wp2_with fail
  go_at_call 36
  refine (ex_parse2 _).mono ?_
  rintro e w5 ⟨rfl, h5⟩
  have p05 : w5.cell? ⟨P1, 0, none⟩ = some (.int .u32 167838208) := carry h5 (akeep (p04))
  have p15 : w5.cell? ⟨P1, 1, none⟩ = some (.int .i64 23) := carry h5 (akeep (p14))
  have q05 : w5.cell? ⟨P2, 0, none⟩ = some (.int .u32 167838208) := carry h5 (akeep (q04))
  have q15 : w5.cell? ⟨P2, 1, none⟩ = some (.int .i64 24) := carry h5 (akeep (q14))
  have r05 : w5.cell? ⟨P2 + 1, 0, none⟩ = some (.int .u32 167838464) := carry h5 (akeep (r04))
  have r15 : w5.cell? ⟨P2 + 1, 1, none⟩ = some (.int .i64 24) := carry h5 (akeep (r14))
  have s05 : w5.cell? ⟨P3, 0, none⟩ = some (.int .u32 167837696) := carry h5 (akeep (s04))
  have s15 : w5.cell? ⟨P3, 1, none⟩ = some (.int .i64 22) := carry h5 (akeep (s14))
  have B5 := Lib.hid (below_then (below_then B4.out (below_alloc _ _)) h5)
  have zp5 : P1 < w5.heap.size := World.block_lt_of_cell? _ _ p05
  have zq5 : P2 < w5.heap.size := World.block_lt_of_cell? _ _ q05
  have zr5 : P2 + 1 < w5.heap.size := World.block_lt_of_cell? _ _ r05
  have zs5 : P3 < w5.heap.size := World.block_lt_of_cell? _ _ s05
  clear h5
  clear p04 p14 q04 q14 r04 r14 s04 s14
  go_wp2_with fail
  go_at_call 32
  have HT5 := Lib.hid (tab_below HT.out (below_then B5.out (below_alloc w5 (.cells #[.int .u32 0, .int .i64 0] 25))))
  refine (ex_text1 _ HT5.out).mono ?_
  rintro e w6 ⟨rfl, h6⟩
  have p06 : w6.cell? ⟨P1, 0, none⟩ = some (.int .u32 167838208) := carry h6 (akeep (p05))
  have p16 : w6.cell? ⟨P1, 1, none⟩ = some (.int .i64 23) := carry h6 (akeep (p15))
  have q06 : w6.cell? ⟨P2, 0, none⟩ = some (.int .u32 167838208) := carry h6 (akeep (q05))
  have q16 : w6.cell? ⟨P2, 1, none⟩ = some (.int .i64 24) := carry h6 (akeep (q15))
  have r06 : w6.cell? ⟨P2 + 1, 0, none⟩ = some (.int .u32 167838464) := carry h6 (akeep (r05))
  have r16 : w6.cell? ⟨P2 + 1, 1, none⟩ = some (.int .i64 24) := carry h6 (akeep (r15))
  have s06 : w6.cell? ⟨P3, 0, none⟩ = some (.int .u32 167837696) := carry h6 (akeep (s05))
  have s16 : w6.cell? ⟨P3, 1, none⟩ = some (.int .i64 22) := carry h6 (akeep (s15))
  have B6 := Lib.hid (below_then (below_then B5.out (below_alloc _ _)) h6)
  clear h6 zp5 zq5 zr5 zs5
  clear p05 p15 q05 q15 r05 r15 s05 s15
  go_wp2_with fail
  go_at_call 29
  refine (ex_last _).mono ?_
  rintro e w7 ⟨rfl, h7⟩
  have q07 : w7.cell? ⟨P2, 0, none⟩ = some (.int .u32 167838208) := carry h7 (q06)
  have q17 : w7.cell? ⟨P2, 1, none⟩ = some (.int .i64 24) := carry h7 (q16)
  have r07 : w7.cell? ⟨P2 + 1, 0, none⟩ = some (.int .u32 167838464) := carry h7 (r06)
  have r17 : w7.cell? ⟨P2 + 1, 1, none⟩ = some (.int .i64 24) := carry h7 (r16)
  have s07 : w7.cell? ⟨P3, 0, none⟩ = some (.int .u32 167837696) := carry h7 (s06)
  have s17 : w7.cell? ⟨P3, 1, none⟩ = some (.int .i64 22) := carry h7 (s16)
  have B7 := Lib.hid (below_then B6.out h7)
  clear h7
  clear p06 p16 q06 q16 r06 r16 s06 s16
  go_wp2_with fail
  go_at_call 30
  refine (ex_addr _ (tab_below HT.out B7.out)).mono ?_
  rintro e w8 ⟨rfl, h8⟩
  have q08 : w8.cell? ⟨P2, 0, none⟩ = some (.int .u32 167838208) := carry h8 (q07)
  have q18 : w8.cell? ⟨P2, 1, none⟩ = some (.int .i64 24) := carry h8 (q17)
  have r08 : w8.cell? ⟨P2 + 1, 0, none⟩ = some (.int .u32 167838464) := carry h8 (r07)
  have r18 : w8.cell? ⟨P2 + 1, 1, none⟩ = some (.int .i64 24) := carry h8 (r17)
  have s08 : w8.cell? ⟨P3, 0, none⟩ = some (.int .u32 167837696) := carry h8 (s07)
  have s18 : w8.cell? ⟨P3, 1, none⟩ = some (.int .i64 22) := carry h8 (s17)
  have B8 := Lib.hid (below_then B7.out h8)
  clear h8
  clear q07 q17 r07 r17 s07 s17
  go_wp2_with fail
  go_at_call 32
  refine (ex_text2 _ (tab_below HT.out B8.out)).mono ?_
  rintro e w9 ⟨rfl, h9⟩
  have r09 : w9.cell? ⟨P2 + 1, 0, none⟩ = some (.int .u32 167838464) := carry h9 (r08)
  have r19 : w9.cell? ⟨P2 + 1, 1, none⟩ = some (.int .i64 24) := carry h9 (r18)
  have s09 : w9.cell? ⟨P3, 0, none⟩ = some (.int .u32 167837696) := carry h9 (s08)
  have s19 : w9.cell? ⟨P3, 1, none⟩ = some (.int .i64 22) := carry h9 (s18)
  have B9 := Lib.hid (below_then B8.out h9)
  clear h9
  clear q08 q18 r08 r18 s08 s18
  go_wp2_with fail
  go_at_call 32
  refine (ex_text3 _ (tab_below HT.out B9.out)).mono ?_
  rintro e w10 ⟨rfl, h10⟩
  have s010 : w10.cell? ⟨P3, 0, none⟩ = some (.int .u32 167837696) := carry h10 (s09)
  have s110 : w10.cell? ⟨P3, 1, none⟩ = some (.int .i64 22) := carry h10 (s19)
  have B10 := Lib.hid (below_then B9.out h10)
  clear h10
  clear r09 r19 s09 s19
  go_wp2_with fail
  go_at_call 32
  refine (ex_text4 _ (tab_below HT.out B10.out)).mono ?_
  rintro e w11 ⟨rfl, h11⟩
  have B11 := Lib.hid (below_then B10.out h11)
  clear h11
  go_wp2_with fail
  go_ret
  exact ⟨rfl, B11.out⟩
end Go.Proofs.YtbcgfgklajdelaaDoor
