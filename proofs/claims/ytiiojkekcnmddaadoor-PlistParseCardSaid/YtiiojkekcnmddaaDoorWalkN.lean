/-
  The walks of Addr and Text and of their references.
-/
import Derived.Test.YtiiojkekcnmddaaDoorWalkM
import Derived.WalkSmall
import Derived.Lib.AppendIntMem
import Derived.Lib.LaidTab
namespace Go.Proofs.YtiiojkekcnmddaaDoor
open Go.RowKit
set_option linter.unusedSimpArgs false
set_option linter.unusedVariables false
set_option maxHeartbeats 2000000
set_option maxRecDepth 100000

/-- the library's table of the powers of ten holds them -/
def Tab (w : World) : Prop := Lib.TabIs Tryd.prog w "internal/strconv.uint64pow10" .u64 Lib.pow10Tab
theorem gTab : Tryd.prog.globalNamed "internal/strconv.uint64pow10" = some 0 := by kernel_rfl
theorem tab_size {w : World} (h : Tab w) : 0 < w.heap.size := by
  have := Lib.TabIs.cell (P := Tryd.prog) h gTab 0 (by decide)
  exact World.block_lt_of_cell? _ _ this
theorem tab_below {w w' : World} (h : Tab w) (hb : Below w.heap.size w w') : Tab w' := by
  unfold Tab Lib.TabIs at h ⊢
  exact var?_below hb gTab (tab_size h) h
theorem itoa_any (n : Int) (h0 : 0 ≤ n) (h1 : n ≤ 999) (w : World) (hT : Tab w) :
    Calls Tryd.prog 31 #[.int .i64 n] w fun e w' => e = .returned (.string (bs (Lib.decDigits n.toNat))) ∧ Below w.heap.size w w' :=
  (Tryd.strconv_Itoa n (by omega) (by omega) w hT).mono fun e w' ⟨h1, k, os, h2⟩ => ⟨by
    rw [h1, Lib.itoa, if_neg (by omega)]; rfl, by rw [h2]; exact Lib.below_grow _ _ (Nat.le_refl _) k os⟩
theorem num_int (n : Int) (h0 : 0 ≤ n) (h1 : n ≤ 999) (w : World) :
    Calls Tryd.prog 49 #[.int .i64 n] w fun e w' => e = .returned (.string (bs (Lib.decDigits n.toNat))) ∧ w = w' := by
  obtain ⟨m, rfl⟩ := Int.eq_ofNat_of_zero_le h0
  exact num_any m (by omega) w

/-- the text of an address -/
def addrT (a : Nat) : List UInt8 :=
  Lib.decDigits (a / 16777216) ++ 46 :: (Lib.decDigits (a / 65536 % 256) ++ 46 :: (Lib.decDigits (a / 256 % 256) ++ 46 :: Lib.decDigits (a % 256)))
theorem and255 (x : Nat) (hx : x < 4294967296) : bits BinOp.and IntKind.u32 (x : Int) 255 = ((x % 256 : Nat) : Int) := by
  rw [show (255 : Int) = ((255 : Nat) : Int) from rfl, u32_and_nat x 255 hx (by omega), nat_mask8]
theorem dec_size (n : Nat) (h : n ≤ 999) : (bs (Lib.decDigits n)).size ≤ 3 := by rw [bs_size]; exact T.dec_len n h
theorem addr_cat (a : Nat) : bs (Lib.decDigits (a / 16777216)) ++ ⟨#[46]⟩ ++ bs (Lib.decDigits (a / 65536 % 256)) ++ ⟨#[46]⟩ ++ bs (Lib.decDigits (a / 256 % 256)) ++ ⟨#[46]⟩ ++ bs (Lib.decDigits (a % 256)) = bs (addrT a) := by
  refine bs_of ?_
  simp only [cat_list, bs_list]
  simp [addrT]
theorem addr_cat0 (a : Nat) : (⟨#[]⟩ : ByteArray) ++ bs (Lib.decDigits (a / 16777216)) ++ ⟨#[46]⟩ ++ bs (Lib.decDigits (a / 65536 % 256)) ++ ⟨#[46]⟩ ++ bs (Lib.decDigits (a / 256 % 256)) ++ ⟨#[46]⟩ ++ bs (Lib.decDigits (a % 256)) = bs (addrT a) := by
  refine bs_of ?_
  simp only [cat_list, bs_list]
  simp [addrT]
theorem raddr_any (a : Nat) (ha : a < 4294967296) (w : World) :
    Calls Tryd.prog 48 #[.int .u32 a] w fun e w' => e = .returned (.string (bs (addrT a))) ∧ w = w' := by
  have e1 : bits BinOp.and IntKind.u32 ((a : Int) / 65536) 255 = ((a / 65536 % 256 : Nat) : Int) := by
    rw [show ((a : Int) / 65536) = ((a / 65536 : Nat) : Int) by omega]; exact and255 _ (by omega)
  have e2 : bits BinOp.and IntKind.u32 ((a : Int) / 256) 255 = ((a / 256 % 256 : Nat) : Int) := by
    rw [show ((a : Int) / 256) = ((a / 256 : Nat) : Int) by omega]; exact and255 _ (by omega)
  have e3 : bits BinOp.and IntKind.u32 (a : Int) 255 = ((a % 256 : Nat) : Int) := and255 _ ha
  have s0 := dec_size (a / 16777216) (by omega)
  have s1 := dec_size (a / 65536 % 256) (by omega)
  have s2 := dec_size (a / 256 % 256) (by omega)
  have s3 := dec_size (a % 256) (by omega)
  have H := Lib.hid (addr_cat a)
  go_enter Tryd.func48, Tryd.ntmps48
  go_wp2_with (go_at_call 49; refine (num_int _ (by omega) (by omega) _).mono ?_; rintro e w' ⟨rfl, rfl⟩)
  go_ret
  exact ⟨ret_s H.out, rfl⟩
theorem addr_any (a : Nat) (ha : a < 4294967296) (w : World) (hT : Tab w) :
    Calls Tryd.prog 46 #[.int .u32 a] w fun e w' => e = .returned (.string (bs (addrT a))) ∧ Below w.heap.size w w' := by
  have e1 : bits BinOp.and IntKind.u32 ((a : Int) / 65536) 255 = ((a / 65536 % 256 : Nat) : Int) := by
    rw [show ((a : Int) / 65536) = ((a / 65536 : Nat) : Int) by omega]; exact and255 _ (by omega)
  have e2 : bits BinOp.and IntKind.u32 ((a : Int) / 256) 255 = ((a / 256 % 256 : Nat) : Int) := by
    rw [show ((a : Int) / 256) = ((a / 256 : Nat) : Int) by omega]; exact and255 _ (by omega)
  have e3 : bits BinOp.and IntKind.u32 (a : Int) 255 = ((a % 256 : Nat) : Int) := and255 _ ha
  have e0 : bits BinOp.and IntKind.u32 ((a : Int) / 16777216) 255 = ((a / 16777216 : Nat) : Int) := by
    rw [show ((a : Int) / 16777216) = ((a / 16777216 : Nat) : Int) by omega, and255 _ (by omega)]; omega
  have s0 := dec_size (a / 16777216) (by omega)
  have s1 := dec_size (a / 65536 % 256) (by omega)
  have s2 := dec_size (a / 256 % 256) (by omega)
  have s3 := dec_size (a % 256) (by omega)
  have H := Lib.hid (addr_cat0 a)
  have HT := Lib.hid hT; clear hT
  go_enter Tryd.func46, Tryd.ntmps46
  go_wp2
  refine wp_loop_rounds 5 ?_
  rw [rounds_succ]
  go_wp2_with fail
  go_at_call 31
  refine (itoa_any _ (by omega) (by omega) _ HT.out).mono ?_
  rintro e w1 ⟨rfl, h1⟩
  have HT1 := Lib.hid (tab_below HT.out h1)
  have B1 := Lib.hid h1
  clear h1
  go_wp2_with fail
  rw [rounds_succ]
  go_wp2_with fail
  go_at_call 31
  refine (itoa_any _ (by omega) (by omega) _ HT1.out).mono ?_
  rintro e w2 ⟨rfl, h2⟩
  have HT2 := Lib.hid (tab_below HT1.out h2)
  have B2 := Lib.hid (below_then B1.out h2)
  clear h2
  go_wp2_with fail
  rw [rounds_succ]
  go_wp2_with fail
  go_at_call 31
  refine (itoa_any _ (by omega) (by omega) _ HT2.out).mono ?_
  rintro e w3 ⟨rfl, h3⟩
  have HT3 := Lib.hid (tab_below HT2.out h3)
  have B3 := Lib.hid (below_then B2.out h3)
  clear h3
  go_wp2_with fail
  rw [rounds_succ]
  go_wp2_with fail
  go_at_call 31
  refine (itoa_any _ (by omega) (by omega) _ HT3.out).mono ?_
  rintro e w4 ⟨rfl, h4⟩
  have B4 := Lib.hid (below_then B3.out h4)
  clear h4
  go_wp2_with fail
  rw [rounds_succ]
  go_wp2_with fail
  go_ret
  exact ⟨ret_s H.out, B4.out⟩
end Go.Proofs.YtiiojkekcnmddaaDoor
