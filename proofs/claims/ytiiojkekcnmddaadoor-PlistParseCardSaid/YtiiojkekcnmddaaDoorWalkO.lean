/-
  The walks of Text and of its reference.
-/
import Derived.Test.YtiiojkekcnmddaaDoorWalkN
namespace Go.Proofs.YtiiojkekcnmddaaDoor
open Go.RowKit
set_option linter.unusedSimpArgs false
set_option linter.unusedVariables false
set_option maxHeartbeats 2000000
set_option maxRecDepth 100000

/-- the text of a prefix -/
def textT (a : Nat) (n : Int) : List UInt8 := addrT a ++ 47 :: Lib.decDigits n.toNat
def txt (a : Nat) (n : Int) : List UInt8 := bif vld a n then textT a n else []
theorem txt_yes {a : Nat} {n : Int} (h : vld a n = true) : txt a n = textT a n := by unfold txt; rw [h]; rfl
theorem txt_no {a : Nat} {n : Int} (h : vld a n = false) : txt a n = [] := by unfold txt; rw [h]; rfl
theorem addrT_size (a : Nat) (ha : a < 4294967296) : (bs (addrT a)).size ≤ 15 := by
  rw [bs_size]
  unfold addrT
  have s0 := T.dec_len (a / 16777216) (by omega)
  have s1 := T.dec_len (a / 65536 % 256) (by omega)
  have s2 := T.dec_len (a / 256 % 256) (by omega)
  have s3 := T.dec_len (a % 256) (by omega)
  simp; omega
theorem text_cat (a : Nat) (n : Int) : bs (addrT a) ++ ⟨#[47]⟩ ++ bs (Lib.decDigits n.toNat) = bs (textT a n) := by
  refine bs_of ?_
  simp only [cat_list, bs_list]
  simp [textT]
theorem boxed_then {w W w1 : World} (h : Boxed w W) (hb : Below W.heap.size W w1) : Boxed w w1 := (boxed_step h hb).1
theorem text_any (a : Nat) (ha : a < 4294967296) (n : Int) (hn : I64 n) (w : World) (hT : Tab w) :
    Calls Tryd.prog 29 #[.agg #[.int .u32 a, .int .i64 n]] w fun e w' => e = .returned (.string (bs (txt a n))) ∧ Below w.heap.size w w' := by
  cases hv : vld a n
  · have H := Lib.hid (show (⟨#[]⟩ : ByteArray) = bs (txt a n) by rw [txt_no hv]; rfl)
    go_enter Tryd.func29, Tryd.ntmps29
    go_wp2_with fail
    go_at_call 24
    refine (valid_any _ ha _ hn _).mono ?_
    rintro e w1 ⟨rfl, h1⟩
    go_wp2_with fail
    go_ret
    exact ⟨ret_s H.out, below_then (below_alloc _ _) h1⟩
  · obtain ⟨h0, h32, _⟩ := vld_in hv
    have H := Lib.hid (show bs (addrT a) ++ ⟨#[47]⟩ ++ bs (Lib.decDigits n.toNat) = bs (txt a n) by rw [txt_yes hv]; exact text_cat a n)
    have s0 := addrT_size a ha
    have s1 := dec_size n.toNat (by omega)
    have g1 : ¬ 9223372036854775807 < (bs (addrT a)).size + 1 := by omega
    have g2 : ¬ 9223372036854775807 < (bs (addrT a)).size + 1 + (bs (Lib.decDigits n.toNat)).size := by omega
    have HT := Lib.hid hT; clear hT
    go_enter Tryd.func29, Tryd.ntmps29
    go_wp2_with fail
    go_at_call 24
    refine (valid_any _ ha _ hn _).mono ?_
    rintro e w1 ⟨rfl, h1⟩
    have HB1 : Boxed w w1.drew := ⟨(below_then (below_alloc _ _) h1).drew, by have := h1.size; simp at this; simp; omega⟩
    obtain ⟨hc1, hf1⟩ := bcell h1
    have e0 : w1.cell? ⟨w.heap.size, 0, none⟩ = some (.int .u32 a) := by rw [hc1 _ _ (by simp)]; go_simp
    have e1 : w1.cell? ⟨w.heap.size, 1, none⟩ = some (.int .i64 n) := by rw [hc1 _ _ (by simp)]; go_simp
    clear hc1 hf1 h1
    go_wp2_with fail
    go_region_held3 (fun w' => w'.cell? ⟨w.heap.size, 0, none⟩ = some (.int .u32 a) ∧ w'.cell? ⟨w.heap.size, 1, none⟩ = some (.int .i64 n) ∧ Boxed w w')
      (first | exact ⟨by simp [*], by simp [*], HB1⟩ | go_keep)
      (first
        | (go_at_call 46; refine (addr_any _ ha _ (tab_below HT.out (And.left (And.right (And.right ‹_ ∧ _ ∧ Boxed w _›))))).mono ?_; rintro e w2 ⟨rfl, hb⟩; have hk := boxed_keep ‹_› hb; clear hb)
        | (go_at_call 31; refine (itoa_any _ h0 (by omega) _ (tab_below HT.out (And.left (And.right (And.right ‹_ ∧ _ ∧ Boxed w _›))))).mono ?_; rintro e w2 ⟨rfl, hb⟩; have hk := boxed_keep ‹_› hb; clear hb))
    all_goals go_wp2
    all_goals go_ret
    all_goals exact ⟨ret_s H.out, by obtain ⟨_, _, hB⟩ := hk; exact hB.1⟩
theorem rtext_any (a : Nat) (ha : a < 4294967296) (n : Int) (hn : I64 n) (w : World) :
    Calls Tryd.prog 32 #[.agg #[.int .u32 a, .int .i64 n]] w fun e w' => e = .returned (.string (bs (txt a n))) ∧ Below w.heap.size w w' := by
  cases hv : vld a n
  · have H := Lib.hid (show (⟨#[]⟩ : ByteArray) = bs (txt a n) by rw [txt_no hv]; rfl)
    go_enter Tryd.func32, Tryd.ntmps32
    go_wp2_with fail
    go_at_call 23
    refine (rvalid_any _ ha _ hn _).mono ?_
    rintro e w1 ⟨rfl, h1⟩
    go_wp2_with fail
    go_ret
    exact ⟨ret_s H.out, below_then (below_alloc _ _) h1⟩
  · obtain ⟨h0, h32, _⟩ := vld_in hv
    have H := Lib.hid (show bs (addrT a) ++ ⟨#[47]⟩ ++ bs (Lib.decDigits n.toNat) = bs (txt a n) by rw [txt_yes hv]; exact text_cat a n)
    have s0 := addrT_size a ha
    have s1 := dec_size n.toNat (by omega)
    go_enter Tryd.func32, Tryd.ntmps32
    go_wp2_with fail
    go_at_call 23
    refine (rvalid_any _ ha _ hn _).mono ?_
    rintro e w1 ⟨rfl, h1⟩
    have B1 := Lib.hid (below_then (below_alloc w (Obj.cells #[.int .u32 a, .int .i64 n] 25)) h1)
    obtain ⟨hc1, hf1⟩ := bcell h1
    have e0 : w1.cell? ⟨w.heap.size, 0, none⟩ = some (.int .u32 a) := by rw [hc1 _ _ (by simp)]; go_simp
    have e1 : w1.cell? ⟨w.heap.size, 1, none⟩ = some (.int .i64 n) := by rw [hc1 _ _ (by simp)]; go_simp
    clear hc1 hf1 h1
    go_wp2_with fail
    go_quiet ((first
      | (go_at_call 48; exact Calls.quiet_of_same ((raddr_any _ ha _).mono fun _ _ h => ⟨h.1, h.2.symm⟩))
      | (go_at_call 49; exact Calls.quiet_of_same ((num_int _ h0 (by omega) _).mono fun _ _ h => ⟨h.1, h.2.symm⟩))))
    go_wp2
    go_ret
    exact ⟨ret_s H.out, below_drewN B1.out _⟩
end Go.Proofs.YtiiojkekcnmddaaDoor
