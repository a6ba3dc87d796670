/-
  The walk of Text.
-/
import Derived.Test.YtiiojkekcnmddaaDoorPlF
import Derived.BigQuiet
namespace Go.Proofs.YtiiojkekcnmddaaDoor
open Go.RowKit
set_option linter.unusedSimpArgs false
set_option linter.unusedVariables false
set_option maxHeartbeats 1500000
set_option maxRecDepth 100000

theorem word_c (pm : Bool) (l : List UInt8) : bs (wordR pm) ++ ((⟨#[32]⟩ : ByteArray) ++ bs l) = bs (wordR pm ++ [32]) ++ bs l := by
  rw [show (⟨#[32]⟩ : ByteArray) = bs [32] from rfl, bs_app, bs_app, bs_app]
  congr 1; simp
theorem word_tt : (⟨#[112, 101, 114, 109, 105, 116]⟩ : ByteArray) = bs (wordR true) := rfl
theorem word_ff : (⟨#[100, 101, 110, 121]⟩ : ByteArray) = bs (wordR false) := rfl
theorem five_keep {w W w1 : World} {c0 c1 c2 c3 c4 : Value} (h : W.cell? ⟨w.heap.size, 0, none⟩ = some c0 ∧ W.cell? ⟨w.heap.size, 1, none⟩ = some c1 ∧ W.cell? ⟨w.heap.size, 2, none⟩ = some c2 ∧ W.cell? ⟨w.heap.size, 3, none⟩ = some c3 ∧ W.cell? ⟨w.heap.size, 4, none⟩ = some c4 ∧ Boxed w W) (hb : Below W.heap.size W w1) :
    w1.cell? ⟨w.heap.size, 0, none⟩ = some c0 ∧ w1.cell? ⟨w.heap.size, 1, none⟩ = some c1 ∧ w1.cell? ⟨w.heap.size, 2, none⟩ = some c2 ∧ w1.cell? ⟨w.heap.size, 3, none⟩ = some c3 ∧ w1.cell? ⟨w.heap.size, 4, none⟩ = some c4 ∧ Boxed w w1 := by
  obtain ⟨h0, h1, h2, h3, h4, hB⟩ := h
  have hs := boxed_step hB hb
  exact ⟨(hs.2 0).trans h0, (hs.2 1).trans h1, (hs.2 2).trans h2, (hs.2 3).trans h3, (hs.2 4).trans h4, hs.1⟩
theorem text_yes (r : Ru) (hr : RuOk r) (w : World) (h : chkR r = 0) (hT : Tab w) : Calls Tryd.prog 17 #[ruV r] w fun e w' => e = .returned (txV r) ∧ Below w.heap.size w w' := by
  have HK := Lib.hid (check_any r hr)
  have hz := chk_zero h
  have HV : Hid (txV r = .tuple #[.string (bs (rtxtL r)), .int .i64 0]) := by unfold Hid txV; rw [if_pos h, h]
  rw [h] at HK
  obtain ⟨pm, ⟨a, n⟩, mn, mx⟩ := r
  obtain ⟨ha, hn, hmn, hmx⟩ := hr
  dsimp only at *
  obtain ⟨hv, z0, z1, z2, z3⟩ := hz
  have HT : Hid (∀ W, Below w.heap.size w W → Calls Tryd.prog 29 #[.agg #[.int .u32 a, .int .i64 n]] W fun e w' => e = .returned (.string (bs (textT a n))) ∧ Below W.heap.size W w') := fun W hW => by
    have := text_any a ha n hn W (tab_below hT hW)
    rwa [txt_yes hv] at this
  have HD : Hid (∀ x : Int, 0 ≤ x → x ≤ 32 → ∀ W, Below w.heap.size w W → Calls Tryd.prog 31 #[.int .i64 x] W fun e w' => e = .returned (.string (bs (Lib.decDigits x.toNat))) ∧ Below W.heap.size W w') := fun x h0 h1 W hW => itoa_any x h0 (by omega) W (tab_below hT hW)
  have HE := Lib.hid (exact_any pm a n)
  have hS := text_size a ha n z0 (by omega)
  have hA := dec_size mn.toNat (by omega)
  have hB := dec_size mx.toNat (by omega)
  have g1 : ¬ 9223372036854775807 < 1 + (bs (Lib.decDigits mn.toNat)).size := by omega
  have g2 : ¬ 9223372036854775807 < 1 + (bs (Lib.decDigits mn.toNat)).size + 1 := by omega
  have g3 : ¬ 9223372036854775807 < 1 + (bs (Lib.decDigits mn.toNat)).size + 1 + (bs (Lib.decDigits mx.toNat)).size := by omega
  have HH := Lib.hid (head_size a ha n z0 (by omega) pm)
  clear hT
  by_cases e1 : mn = n
  · subst e1
    by_cases e2 : mx = mn
    · subst e2
      have HX := Lib.hid (no_cat mx mx mx pm a ⟨rfl, rfl⟩)
      clear h hv
      cases pm
      · go_enter Tryd.func17, Tryd.ntmps17
        go_wp2_with fail
        go_at_call 10
        refine (HK.out _).mono ?_
        rintro e w1 ⟨rfl, h1⟩
        have B1 := below_then (below_alloc w _) h1
        obtain ⟨hc1, hf1⟩ := bcell h1
        have hs1 : w.heap.size < w1.heap.size := by have := h1.size; simp at this; omega
        go_wp2_with fail
        go_at_call 29
        refine (HT.out _ B1).mono ?_
        rintro e w2 ⟨rfl, h2⟩
        obtain ⟨hc2, hf2⟩ := bcell h2
        have HB1 : Boxed w w2.drew := ⟨(below_then B1 h2).drew, by have := h2.size; simp; omega⟩
        have k0 : w2.cell? ⟨w.heap.size, 0, none⟩ = some (.bool false) := by rw [hc2 _ _ (by omega), hc1 _ _ (by simp)]; go_simp
        have k1 : w2.cell? ⟨w.heap.size, 1, none⟩ = some (.int .u32 a) := by rw [hc2 _ _ (by omega), hc1 _ _ (by simp)]; go_simp
        have k2 : w2.cell? ⟨w.heap.size, 2, none⟩ = some (.int .i64 mx) := by rw [hc2 _ _ (by omega), hc1 _ _ (by simp)]; go_simp
        have k3 : w2.cell? ⟨w.heap.size, 3, none⟩ = some (.int .i64 mx) := by rw [hc2 _ _ (by omega), hc1 _ _ (by simp)]; go_simp
        have k4 : w2.cell? ⟨w.heap.size, 4, none⟩ = some (.int .i64 mx) := by rw [hc2 _ _ (by omega), hc1 _ _ (by simp)]; go_simp
        clear hc1 hf1 h1 hc2 hf2 h2 B1
        go_wp2_with fail
        simp only [word_tt, word_ff, word_c]
        generalize hYY : bs _ ++ bs (textT a mx) = Y at *
        have hY : Y.size ≤ 30 := HH.out
        have g4 : ¬ 9223372036854775807 < Y.size + (1 + (bs (Lib.decDigits mx.toNat)).size + 1 + (bs (Lib.decDigits mx.toNat)).size) := by omega
        go_region_held3 (fun w' => w'.cell? ⟨w.heap.size, 0, none⟩ = some (.bool false) ∧ w'.cell? ⟨w.heap.size, 1, none⟩ = some (.int .u32 a) ∧ w'.cell? ⟨w.heap.size, 2, none⟩ = some (.int .i64 mx) ∧ w'.cell? ⟨w.heap.size, 3, none⟩ = some (.int .i64 mx) ∧ w'.cell? ⟨w.heap.size, 4, none⟩ = some (.int .i64 mx) ∧ Boxed w w')
          (first | exact ⟨by simp [*], by simp [*], by simp [*], by simp [*], by simp [*], HB1⟩ | go_keep)
          (first
            | (go_at_call 30; refine (HE.out _).mono ?_; rintro e w3 ⟨rfl, hb⟩; have hk := five_keep ‹_› hb; clear hb))
        clear k0 k1 k2 k3 k4 HB1
        obtain ⟨m0, m1, m2, m3, m4, HB2⟩ := hk
        go_wp2_with fail
        refine bodyPost_ret (v := .tuple #[.string Y, .int .i64 0]) (by simp [results, Tryd.results17, go_sem]) rfl ⟨?_, HB2.1⟩
        rw [HV.out, ← HX.out]
      · go_enter Tryd.func17, Tryd.ntmps17
        go_wp2_with fail
        go_at_call 10
        refine (HK.out _).mono ?_
        rintro e w1 ⟨rfl, h1⟩
        have B1 := below_then (below_alloc w _) h1
        obtain ⟨hc1, hf1⟩ := bcell h1
        have hs1 : w.heap.size < w1.heap.size := by have := h1.size; simp at this; omega
        go_wp2_with fail
        go_at_call 29
        refine (HT.out _ B1).mono ?_
        rintro e w2 ⟨rfl, h2⟩
        obtain ⟨hc2, hf2⟩ := bcell h2
        have HB1 : Boxed w w2.drew := ⟨(below_then B1 h2).drew, by have := h2.size; simp; omega⟩
        have k0 : w2.cell? ⟨w.heap.size, 0, none⟩ = some (.bool true) := by rw [hc2 _ _ (by omega), hc1 _ _ (by simp)]; go_simp
        have k1 : w2.cell? ⟨w.heap.size, 1, none⟩ = some (.int .u32 a) := by rw [hc2 _ _ (by omega), hc1 _ _ (by simp)]; go_simp
        have k2 : w2.cell? ⟨w.heap.size, 2, none⟩ = some (.int .i64 mx) := by rw [hc2 _ _ (by omega), hc1 _ _ (by simp)]; go_simp
        have k3 : w2.cell? ⟨w.heap.size, 3, none⟩ = some (.int .i64 mx) := by rw [hc2 _ _ (by omega), hc1 _ _ (by simp)]; go_simp
        have k4 : w2.cell? ⟨w.heap.size, 4, none⟩ = some (.int .i64 mx) := by rw [hc2 _ _ (by omega), hc1 _ _ (by simp)]; go_simp
        clear hc1 hf1 h1 hc2 hf2 h2 B1
        go_wp2_with fail
        simp only [word_tt, word_ff, word_c]
        generalize hYY : bs _ ++ bs (textT a mx) = Y at *
        have hY : Y.size ≤ 30 := HH.out
        have g4 : ¬ 9223372036854775807 < Y.size + (1 + (bs (Lib.decDigits mx.toNat)).size + 1 + (bs (Lib.decDigits mx.toNat)).size) := by omega
        go_region_held3 (fun w' => w'.cell? ⟨w.heap.size, 0, none⟩ = some (.bool true) ∧ w'.cell? ⟨w.heap.size, 1, none⟩ = some (.int .u32 a) ∧ w'.cell? ⟨w.heap.size, 2, none⟩ = some (.int .i64 mx) ∧ w'.cell? ⟨w.heap.size, 3, none⟩ = some (.int .i64 mx) ∧ w'.cell? ⟨w.heap.size, 4, none⟩ = some (.int .i64 mx) ∧ Boxed w w')
          (first | exact ⟨by simp [*], by simp [*], by simp [*], by simp [*], by simp [*], HB1⟩ | go_keep)
          (first
            | (go_at_call 30; refine (HE.out _).mono ?_; rintro e w3 ⟨rfl, hb⟩; have hk := five_keep ‹_› hb; clear hb))
        clear k0 k1 k2 k3 k4 HB1
        obtain ⟨m0, m1, m2, m3, m4, HB2⟩ := hk
        go_wp2_with fail
        refine bodyPost_ret (v := .tuple #[.string Y, .int .i64 0]) (by simp [results, Tryd.results17, go_sem]) rfl ⟨?_, HB2.1⟩
        rw [HV.out, ← HX.out]
    · have HX := Lib.hid (yes_cat mn mn mx pm a (fun hh => e2 hh.2))
      have d2 : (mx == mn) = false := by simpa using e2
      clear h hv
      cases pm
      · go_enter Tryd.func17, Tryd.ntmps17
        go_wp2_with fail
        go_at_call 10
        refine (HK.out _).mono ?_
        rintro e w1 ⟨rfl, h1⟩
        have B1 := below_then (below_alloc w _) h1
        obtain ⟨hc1, hf1⟩ := bcell h1
        have hs1 : w.heap.size < w1.heap.size := by have := h1.size; simp at this; omega
        go_wp2_with fail
        go_at_call 29
        refine (HT.out _ B1).mono ?_
        rintro e w2 ⟨rfl, h2⟩
        obtain ⟨hc2, hf2⟩ := bcell h2
        have HB1 : Boxed w w2.drew := ⟨(below_then B1 h2).drew, by have := h2.size; simp; omega⟩
        have k0 : w2.cell? ⟨w.heap.size, 0, none⟩ = some (.bool false) := by rw [hc2 _ _ (by omega), hc1 _ _ (by simp)]; go_simp
        have k1 : w2.cell? ⟨w.heap.size, 1, none⟩ = some (.int .u32 a) := by rw [hc2 _ _ (by omega), hc1 _ _ (by simp)]; go_simp
        have k2 : w2.cell? ⟨w.heap.size, 2, none⟩ = some (.int .i64 mn) := by rw [hc2 _ _ (by omega), hc1 _ _ (by simp)]; go_simp
        have k3 : w2.cell? ⟨w.heap.size, 3, none⟩ = some (.int .i64 mn) := by rw [hc2 _ _ (by omega), hc1 _ _ (by simp)]; go_simp
        have k4 : w2.cell? ⟨w.heap.size, 4, none⟩ = some (.int .i64 mx) := by rw [hc2 _ _ (by omega), hc1 _ _ (by simp)]; go_simp
        clear hc1 hf1 h1 hc2 hf2 h2 B1
        go_wp2_with fail
        simp only [word_tt, word_ff, word_c]
        generalize hYY : bs _ ++ bs (textT a mn) = Y at *
        have hY : Y.size ≤ 30 := HH.out
        have g4 : ¬ 9223372036854775807 < Y.size + (1 + (bs (Lib.decDigits mn.toNat)).size + 1 + (bs (Lib.decDigits mx.toNat)).size) := by omega
        go_region_held3 (fun w' => w'.cell? ⟨w.heap.size, 0, none⟩ = some (.bool false) ∧ w'.cell? ⟨w.heap.size, 1, none⟩ = some (.int .u32 a) ∧ w'.cell? ⟨w.heap.size, 2, none⟩ = some (.int .i64 mn) ∧ w'.cell? ⟨w.heap.size, 3, none⟩ = some (.int .i64 mn) ∧ w'.cell? ⟨w.heap.size, 4, none⟩ = some (.int .i64 mx) ∧ Boxed w w')
          (first | exact ⟨by simp [*], by simp [*], by simp [*], by simp [*], by simp [*], HB1⟩ | go_keep)
          (first
            | (go_at_call 30; refine (HE.out _).mono ?_; rintro e w3 ⟨rfl, hb⟩; have hk := five_keep ‹_› hb; clear hb))
        clear k0 k1 k2 k3 k4 HB1
        obtain ⟨m0, m1, m2, m3, m4, HB2⟩ := hk
        go_wp2_with fail
        go_region_held3 (fun w' => w'.cell? ⟨w.heap.size, 3, none⟩ = some (.int .i64 mn) ∧ w'.cell? ⟨w.heap.size, 4, none⟩ = some (.int .i64 mx) ∧ Boxed w w')
          (first | exact ⟨by simp [*], by simp [*], HB2.1.drew, HB2.2⟩ | exact ⟨by simp [*], by simp [*], HB2⟩ | go_keep)
          (first
            | (go_at_call 31; refine (HD.out _ (by omega) (by omega) _ (And.left (And.right (And.right ‹_ ∧ _ ∧ Boxed w _›)))).mono ?_; rintro e w4 ⟨rfl, hb⟩; have hk := mm_keep ‹_› hb; clear hb))
        all_goals go_wp2
        all_goals (
          obtain ⟨_, _, hBx⟩ := hk
          refine bodyPost_ret (v := .tuple #[.string (Y ++ ((⟨#[32]⟩ : ByteArray) ++ bs (Lib.decDigits mn.toNat) ++ ⟨#[45]⟩ ++ bs (Lib.decDigits mx.toNat))), .int .i64 0]) (by simp [results, Tryd.results17, go_sem]) rfl ⟨?_, hBx.1⟩
          rw [HV.out, ← HX.out])
      · go_enter Tryd.func17, Tryd.ntmps17
        go_wp2_with fail
        go_at_call 10
        refine (HK.out _).mono ?_
        rintro e w1 ⟨rfl, h1⟩
        have B1 := below_then (below_alloc w _) h1
        obtain ⟨hc1, hf1⟩ := bcell h1
        have hs1 : w.heap.size < w1.heap.size := by have := h1.size; simp at this; omega
        go_wp2_with fail
        go_at_call 29
        refine (HT.out _ B1).mono ?_
        rintro e w2 ⟨rfl, h2⟩
        obtain ⟨hc2, hf2⟩ := bcell h2
        have HB1 : Boxed w w2.drew := ⟨(below_then B1 h2).drew, by have := h2.size; simp; omega⟩
        have k0 : w2.cell? ⟨w.heap.size, 0, none⟩ = some (.bool true) := by rw [hc2 _ _ (by omega), hc1 _ _ (by simp)]; go_simp
        have k1 : w2.cell? ⟨w.heap.size, 1, none⟩ = some (.int .u32 a) := by rw [hc2 _ _ (by omega), hc1 _ _ (by simp)]; go_simp
        have k2 : w2.cell? ⟨w.heap.size, 2, none⟩ = some (.int .i64 mn) := by rw [hc2 _ _ (by omega), hc1 _ _ (by simp)]; go_simp
        have k3 : w2.cell? ⟨w.heap.size, 3, none⟩ = some (.int .i64 mn) := by rw [hc2 _ _ (by omega), hc1 _ _ (by simp)]; go_simp
        have k4 : w2.cell? ⟨w.heap.size, 4, none⟩ = some (.int .i64 mx) := by rw [hc2 _ _ (by omega), hc1 _ _ (by simp)]; go_simp
        clear hc1 hf1 h1 hc2 hf2 h2 B1
        go_wp2_with fail
        simp only [word_tt, word_ff, word_c]
        generalize hYY : bs _ ++ bs (textT a mn) = Y at *
        have hY : Y.size ≤ 30 := HH.out
        have g4 : ¬ 9223372036854775807 < Y.size + (1 + (bs (Lib.decDigits mn.toNat)).size + 1 + (bs (Lib.decDigits mx.toNat)).size) := by omega
        go_region_held3 (fun w' => w'.cell? ⟨w.heap.size, 0, none⟩ = some (.bool true) ∧ w'.cell? ⟨w.heap.size, 1, none⟩ = some (.int .u32 a) ∧ w'.cell? ⟨w.heap.size, 2, none⟩ = some (.int .i64 mn) ∧ w'.cell? ⟨w.heap.size, 3, none⟩ = some (.int .i64 mn) ∧ w'.cell? ⟨w.heap.size, 4, none⟩ = some (.int .i64 mx) ∧ Boxed w w')
          (first | exact ⟨by simp [*], by simp [*], by simp [*], by simp [*], by simp [*], HB1⟩ | go_keep)
          (first
            | (go_at_call 30; refine (HE.out _).mono ?_; rintro e w3 ⟨rfl, hb⟩; have hk := five_keep ‹_› hb; clear hb))
        clear k0 k1 k2 k3 k4 HB1
        obtain ⟨m0, m1, m2, m3, m4, HB2⟩ := hk
        go_wp2_with fail
        go_region_held3 (fun w' => w'.cell? ⟨w.heap.size, 3, none⟩ = some (.int .i64 mn) ∧ w'.cell? ⟨w.heap.size, 4, none⟩ = some (.int .i64 mx) ∧ Boxed w w')
          (first | exact ⟨by simp [*], by simp [*], HB2.1.drew, HB2.2⟩ | exact ⟨by simp [*], by simp [*], HB2⟩ | go_keep)
          (first
            | (go_at_call 31; refine (HD.out _ (by omega) (by omega) _ (And.left (And.right (And.right ‹_ ∧ _ ∧ Boxed w _›)))).mono ?_; rintro e w4 ⟨rfl, hb⟩; have hk := mm_keep ‹_› hb; clear hb))
        all_goals go_wp2
        all_goals (
          obtain ⟨_, _, hBx⟩ := hk
          refine bodyPost_ret (v := .tuple #[.string (Y ++ ((⟨#[32]⟩ : ByteArray) ++ bs (Lib.decDigits mn.toNat) ++ ⟨#[45]⟩ ++ bs (Lib.decDigits mx.toNat))), .int .i64 0]) (by simp [results, Tryd.results17, go_sem]) rfl ⟨?_, hBx.1⟩
          rw [HV.out, ← HX.out])
  · have HX := Lib.hid (yes_cat n mn mx pm a (fun hh => e1 hh.1))
    have d1 : (mn == n) = false := by simpa using e1
    clear h hv
    cases pm
    · go_enter Tryd.func17, Tryd.ntmps17
      go_wp2_with fail
      go_at_call 10
      refine (HK.out _).mono ?_
      rintro e w1 ⟨rfl, h1⟩
      have B1 := below_then (below_alloc w _) h1
      obtain ⟨hc1, hf1⟩ := bcell h1
      have hs1 : w.heap.size < w1.heap.size := by have := h1.size; simp at this; omega
      go_wp2_with fail
      go_at_call 29
      refine (HT.out _ B1).mono ?_
      rintro e w2 ⟨rfl, h2⟩
      obtain ⟨hc2, hf2⟩ := bcell h2
      have HB1 : Boxed w w2.drew := ⟨(below_then B1 h2).drew, by have := h2.size; simp; omega⟩
      have k0 : w2.cell? ⟨w.heap.size, 0, none⟩ = some (.bool false) := by rw [hc2 _ _ (by omega), hc1 _ _ (by simp)]; go_simp
      have k1 : w2.cell? ⟨w.heap.size, 1, none⟩ = some (.int .u32 a) := by rw [hc2 _ _ (by omega), hc1 _ _ (by simp)]; go_simp
      have k2 : w2.cell? ⟨w.heap.size, 2, none⟩ = some (.int .i64 n) := by rw [hc2 _ _ (by omega), hc1 _ _ (by simp)]; go_simp
      have k3 : w2.cell? ⟨w.heap.size, 3, none⟩ = some (.int .i64 mn) := by rw [hc2 _ _ (by omega), hc1 _ _ (by simp)]; go_simp
      have k4 : w2.cell? ⟨w.heap.size, 4, none⟩ = some (.int .i64 mx) := by rw [hc2 _ _ (by omega), hc1 _ _ (by simp)]; go_simp
      clear hc1 hf1 h1 hc2 hf2 h2 B1
      go_wp2_with fail
      simp only [word_tt, word_ff, word_c]
      generalize hYY : bs _ ++ bs (textT a n) = Y at *
      have hY : Y.size ≤ 30 := HH.out
      have g4 : ¬ 9223372036854775807 < Y.size + (1 + (bs (Lib.decDigits mn.toNat)).size + 1 + (bs (Lib.decDigits mx.toNat)).size) := by omega
      go_region_held3 (fun w' => w'.cell? ⟨w.heap.size, 0, none⟩ = some (.bool false) ∧ w'.cell? ⟨w.heap.size, 1, none⟩ = some (.int .u32 a) ∧ w'.cell? ⟨w.heap.size, 2, none⟩ = some (.int .i64 n) ∧ w'.cell? ⟨w.heap.size, 3, none⟩ = some (.int .i64 mn) ∧ w'.cell? ⟨w.heap.size, 4, none⟩ = some (.int .i64 mx) ∧ Boxed w w')
        (first | exact ⟨by simp [*], by simp [*], by simp [*], by simp [*], by simp [*], HB1⟩ | go_keep)
        (first
          | (go_at_call 30; refine (HE.out _).mono ?_; rintro e w3 ⟨rfl, hb⟩; have hk := five_keep ‹_› hb; clear hb))
      clear k0 k1 k2 k3 k4 HB1
      obtain ⟨m0, m1, m2, m3, m4, HB2⟩ := hk
      go_wp2_with fail
      go_region_held3 (fun w' => w'.cell? ⟨w.heap.size, 3, none⟩ = some (.int .i64 mn) ∧ w'.cell? ⟨w.heap.size, 4, none⟩ = some (.int .i64 mx) ∧ Boxed w w')
        (first | exact ⟨by simp [*], by simp [*], HB2.1.drew, HB2.2⟩ | exact ⟨by simp [*], by simp [*], HB2⟩ | go_keep)
        (first
          | (go_at_call 31; refine (HD.out _ (by omega) (by omega) _ (And.left (And.right (And.right ‹_ ∧ _ ∧ Boxed w _›)))).mono ?_; rintro e w4 ⟨rfl, hb⟩; have hk := mm_keep ‹_› hb; clear hb))
      all_goals go_wp2
      all_goals (
        obtain ⟨_, _, hBx⟩ := hk
        refine bodyPost_ret (v := .tuple #[.string (Y ++ ((⟨#[32]⟩ : ByteArray) ++ bs (Lib.decDigits mn.toNat) ++ ⟨#[45]⟩ ++ bs (Lib.decDigits mx.toNat))), .int .i64 0]) (by simp [results, Tryd.results17, go_sem]) rfl ⟨?_, hBx.1⟩
        rw [HV.out, ← HX.out])
    · go_enter Tryd.func17, Tryd.ntmps17
      go_wp2_with fail
      go_at_call 10
      refine (HK.out _).mono ?_
      rintro e w1 ⟨rfl, h1⟩
      have B1 := below_then (below_alloc w _) h1
      obtain ⟨hc1, hf1⟩ := bcell h1
      have hs1 : w.heap.size < w1.heap.size := by have := h1.size; simp at this; omega
      go_wp2_with fail
      go_at_call 29
      refine (HT.out _ B1).mono ?_
      rintro e w2 ⟨rfl, h2⟩
      obtain ⟨hc2, hf2⟩ := bcell h2
      have HB1 : Boxed w w2.drew := ⟨(below_then B1 h2).drew, by have := h2.size; simp; omega⟩
      have k0 : w2.cell? ⟨w.heap.size, 0, none⟩ = some (.bool true) := by rw [hc2 _ _ (by omega), hc1 _ _ (by simp)]; go_simp
      have k1 : w2.cell? ⟨w.heap.size, 1, none⟩ = some (.int .u32 a) := by rw [hc2 _ _ (by omega), hc1 _ _ (by simp)]; go_simp
      have k2 : w2.cell? ⟨w.heap.size, 2, none⟩ = some (.int .i64 n) := by rw [hc2 _ _ (by omega), hc1 _ _ (by simp)]; go_simp
      have k3 : w2.cell? ⟨w.heap.size, 3, none⟩ = some (.int .i64 mn) := by rw [hc2 _ _ (by omega), hc1 _ _ (by simp)]; go_simp
      have k4 : w2.cell? ⟨w.heap.size, 4, none⟩ = some (.int .i64 mx) := by rw [hc2 _ _ (by omega), hc1 _ _ (by simp)]; go_simp
      clear hc1 hf1 h1 hc2 hf2 h2 B1
      go_wp2_with fail
      simp only [word_tt, word_ff, word_c]
      generalize hYY : bs _ ++ bs (textT a n) = Y at *
      have hY : Y.size ≤ 30 := HH.out
      have g4 : ¬ 9223372036854775807 < Y.size + (1 + (bs (Lib.decDigits mn.toNat)).size + 1 + (bs (Lib.decDigits mx.toNat)).size) := by omega
      go_region_held3 (fun w' => w'.cell? ⟨w.heap.size, 0, none⟩ = some (.bool true) ∧ w'.cell? ⟨w.heap.size, 1, none⟩ = some (.int .u32 a) ∧ w'.cell? ⟨w.heap.size, 2, none⟩ = some (.int .i64 n) ∧ w'.cell? ⟨w.heap.size, 3, none⟩ = some (.int .i64 mn) ∧ w'.cell? ⟨w.heap.size, 4, none⟩ = some (.int .i64 mx) ∧ Boxed w w')
        (first | exact ⟨by simp [*], by simp [*], by simp [*], by simp [*], by simp [*], HB1⟩ | go_keep)
        (first
          | (go_at_call 30; refine (HE.out _).mono ?_; rintro e w3 ⟨rfl, hb⟩; have hk := five_keep ‹_› hb; clear hb))
      clear k0 k1 k2 k3 k4 HB1
      obtain ⟨m0, m1, m2, m3, m4, HB2⟩ := hk
      go_wp2_with fail
      go_region_held3 (fun w' => w'.cell? ⟨w.heap.size, 3, none⟩ = some (.int .i64 mn) ∧ w'.cell? ⟨w.heap.size, 4, none⟩ = some (.int .i64 mx) ∧ Boxed w w')
        (first | exact ⟨by simp [*], by simp [*], HB2.1.drew, HB2.2⟩ | exact ⟨by simp [*], by simp [*], HB2⟩ | go_keep)
        (first
          | (go_at_call 31; refine (HD.out _ (by omega) (by omega) _ (And.left (And.right (And.right ‹_ ∧ _ ∧ Boxed w _›)))).mono ?_; rintro e w4 ⟨rfl, hb⟩; have hk := mm_keep ‹_› hb; clear hb))
      all_goals go_wp2
      all_goals (
        obtain ⟨_, _, hBx⟩ := hk
        refine bodyPost_ret (v := .tuple #[.string (Y ++ ((⟨#[32]⟩ : ByteArray) ++ bs (Lib.decDigits mn.toNat) ++ ⟨#[45]⟩ ++ bs (Lib.decDigits mx.toNat))), .int .i64 0]) (by simp [results, Tryd.results17, go_sem]) rfl ⟨?_, hBx.1⟩
        rw [HV.out, ← HX.out])
theorem text19_any (r : Ru) (hr : RuOk r) (w : World) (hT : Tab w) : Calls Tryd.prog 17 #[ruV r] w fun e w' => e = .returned (txV r) ∧ Below w.heap.size w w' := by
  by_cases h : chkR r = 0
  · exact text_yes r hr w h hT
  · exact text_no r hr w h
theorem rtext19_any (r : Ru) (hr : RuOk r) (w : World) : Calls Tryd.prog 18 #[ruV r] w fun e w' => e = .returned (txV r) ∧ Below w.heap.size w w' := by
  by_cases h : chkR r = 0
  · exact rtext_yes r hr w h
  · exact rtext_no r hr w h
end Go.Proofs.YtiiojkekcnmddaaDoor
