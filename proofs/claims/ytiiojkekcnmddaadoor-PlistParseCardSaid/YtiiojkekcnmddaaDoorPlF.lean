/-
  The walks of Text and of the reference's Text.
-/
import Derived.Test.YtiiojkekcnmddaaDoorPlE
import Derived.BigQuiet
namespace Go.Proofs.YtiiojkekcnmddaaDoor
open Go.RowKit
set_option linter.unusedSimpArgs false
set_option linter.unusedVariables false
set_option maxHeartbeats 1500000
set_option maxRecDepth 100000

def wordR (pm : Bool) : List UInt8 := if pm = true then [112, 101, 114, 109, 105, 116] else [100, 101, 110, 121]
def rngT (n mn mx : Int) : List UInt8 := if mn = n ∧ mx = n then [] else 32 :: (Lib.decDigits mn.toNat ++ 45 :: Lib.decDigits mx.toNat)
/-- the text of a valid rule -/
def rtxtL (r : Ru) : List UInt8 := wordR r.1 ++ 32 :: (textT r.2.1.1 r.2.1.2 ++ rngT r.2.1.2 r.2.2.1 r.2.2.2)
def txV (r : Ru) : Value := .tuple #[.string (bs (if chkR r = 0 then rtxtL r else [])), .int .i64 (chkR r)]
theorem chk_zero {r : Ru} (h : chkR r = 0) : vld r.2.1.1 r.2.1.2 = true ∧ 0 ≤ r.2.1.2 ∧ r.2.1.2 ≤ r.2.2.1 ∧ r.2.2.1 ≤ r.2.2.2 ∧ r.2.2.2 ≤ 32 := by
  unfold chkR at h
  cases hv : vld r.2.1.1 r.2.1.2 with
  | false => rw [hv] at h; simp at h
  | true =>
    rw [hv] at h
    have hh := vld_in hv
    cases hb : lenBad r.2.1.2 r.2.2.1 r.2.2.2 with
    | true => rw [hb] at h; simp at h
    | false =>
      simp [lenBad] at hb
      refine ⟨rfl, hh.1, ?_, ?_, ?_⟩ <;> omega
theorem chk_mk {r : Ru} (hv : vld r.2.1.1 r.2.1.2 = true) (h1 : r.2.1.2 ≤ r.2.2.1) (h2 : r.2.2.1 ≤ r.2.2.2) (h3 : r.2.2.2 ≤ 32) : chkR r = 0 := by
  unfold chkR
  rw [hv]
  have e : lenBad r.2.1.2 r.2.2.1 r.2.2.2 = false := by simp [lenBad]; omega
  rw [e]; rfl
theorem text_size (a : Nat) (ha : a < 4294967296) (n : Int) (h : 0 ≤ n) (h2 : n ≤ 32) : (bs (textT a n)).size ≤ 20 := by
  have s0 := addrT_size a ha
  have s1 := dec_size n.toNat (by omega)
  rw [bs_size] at s0 s1 ⊢
  unfold textT
  rw [List.length_append, List.length_cons]; omega
theorem text_no (r : Ru) (hr : RuOk r) (w : World) (h : ¬ chkR r = 0) : Calls Tryd.prog 17 #[ruV r] w fun e w' => e = .returned (txV r) ∧ Below w.heap.size w w' := by
  have HK := Lib.hid (check_any r hr)
  have HV : Hid (txV r = .tuple #[.string ⟨#[]⟩, .int .i64 (chkR r)]) := by unfold Hid txV; rw [if_neg h]; rfl
  obtain ⟨c, hc⟩ : ∃ c, chkR r = c := ⟨_, rfl⟩
  rw [hc] at HK HV h
  have d0 : (c == 0) = false := by simpa using h
  obtain ⟨pm, ⟨a, n⟩, mn, mx⟩ := r
  clear hc h hr
  go_enter Tryd.func17, Tryd.ntmps17
  go_wp2_with fail
  go_at_call 10
  refine (HK.out _).mono ?_
  rintro e w1 ⟨rfl, h1⟩
  go_wp2_with fail
  refine bodyPost_ret (v := .tuple #[.string ⟨#[]⟩, .int .i64 c]) (by simp [results, Tryd.results17, go_sem]) rfl ⟨ret_t HV.out.symm, below_then (below_alloc _ _) h1⟩
theorem rtext_no (r : Ru) (hr : RuOk r) (w : World) (h : ¬ chkR r = 0) : Calls Tryd.prog 18 #[ruV r] w fun e w' => e = .returned (txV r) ∧ Below w.heap.size w w' := by
  have HK := Lib.hid (rcheck_any r hr)
  have HV : Hid (txV r = .tuple #[.string ⟨#[]⟩, .int .i64 (chkR r)]) := by unfold Hid txV; rw [if_neg h]; rfl
  obtain ⟨c, hc⟩ : ∃ c, chkR r = c := ⟨_, rfl⟩
  rw [hc] at HK HV h
  have d0 : (c == 0) = false := by simpa using h
  obtain ⟨pm, ⟨a, n⟩, mn, mx⟩ := r
  clear hc h hr
  go_enter Tryd.func18, Tryd.ntmps18
  go_wp2_with fail
  go_at_call 11
  refine (HK.out _).mono ?_
  rintro e w1 ⟨rfl, h1⟩
  go_wp2_with fail
  refine bodyPost_ret (v := .tuple #[.string ⟨#[]⟩, .int .i64 c]) (by simp [results, Tryd.results18, go_sem]) rfl ⟨ret_t HV.out.symm, below_then (below_alloc _ _) h1⟩
theorem mm_keep {w W w1 : World} {c3 c4 : Value} (h : W.cell? ⟨w.heap.size, 3, none⟩ = some c3 ∧ W.cell? ⟨w.heap.size, 4, none⟩ = some c4 ∧ Boxed w W) (hb : Below W.heap.size W w1) :
    w1.cell? ⟨w.heap.size, 3, none⟩ = some c3 ∧ w1.cell? ⟨w.heap.size, 4, none⟩ = some c4 ∧ Boxed w w1 :=
  ⟨((boxed_step h.2.2 hb).2 3).trans h.1, ((boxed_step h.2.2 hb).2 4).trans h.2.1, (boxed_step h.2.2 hb).1⟩
theorem yes_cat (n mn mx : Int) (pm : Bool) (a : Nat) (h : ¬ (mn = n ∧ mx = n)) : (bs (wordR pm ++ [32]) ++ bs (textT a n)) ++ ((⟨#[32]⟩ : ByteArray) ++ bs (Lib.decDigits mn.toNat) ++ ⟨#[45]⟩ ++ bs (Lib.decDigits mx.toNat)) = bs (rtxtL (pm, (a, n), mn, mx)) := by
  unfold rtxtL rngT
  rw [if_neg h, show (⟨#[32]⟩ : ByteArray) = bs [32] from rfl, show (⟨#[45]⟩ : ByteArray) = bs [45] from rfl, bs_app, bs_app, bs_app, bs_app, bs_app]
  congr 1
  simp
theorem no_cat (n mn mx : Int) (pm : Bool) (a : Nat) (h : mn = n ∧ mx = n) : (bs (wordR pm ++ [32]) ++ bs (textT a n)) = bs (rtxtL (pm, (a, n), mn, mx)) := by
  unfold rtxtL rngT
  rw [if_pos h, bs_app]
  congr 1
  simp
theorem head_size (a : Nat) (ha : a < 4294967296) (n : Int) (h : 0 ≤ n) (h2 : n ≤ 32) (pm : Bool) : (bs (wordR pm ++ [32]) ++ bs (textT a n)).size ≤ 30 := by
  have := text_size a ha n h h2
  rw [ByteArray.size_append]
  cases pm <;> (rw [bs_size] ; simp [wordR]; omega)
theorem word_t : (⟨#[112, 101, 114, 109, 105, 116, 32]⟩ : ByteArray) = bs (wordR true ++ [32]) := rfl
theorem word_f : (⟨#[100, 101, 110, 121, 32]⟩ : ByteArray) = bs (wordR false ++ [32]) := rfl
theorem rtext_yes (r : Ru) (hr : RuOk r) (w : World) (h : chkR r = 0) : Calls Tryd.prog 18 #[ruV r] w fun e w' => e = .returned (txV r) ∧ Below w.heap.size w w' := by
  have HK := Lib.hid (rcheck_any r hr)
  have hz := chk_zero h
  have HV : Hid (txV r = .tuple #[.string (bs (rtxtL r)), .int .i64 0]) := by unfold Hid txV; rw [if_pos h, h]
  rw [h] at HK
  obtain ⟨pm, ⟨a, n⟩, mn, mx⟩ := r
  obtain ⟨ha, hn, hmn, hmx⟩ := hr
  dsimp only at *
  obtain ⟨hv, z0, z1, z2, z3⟩ := hz
  have HT := Lib.hid (rtext_any a ha n hn)
  rw [txt_yes hv] at HT
  have hS := text_size a ha n z0 (by omega)
  have HD : Hid (∀ x : Int, 0 ≤ x → x ≤ 32 → ∀ W, Calls Tryd.prog 33 #[.int .i64 x] W fun e w' => e = .returned (.string (bs (Lib.decDigits x.toNat))) ∧ Below W.heap.size W w') := fun x h0 h1 W => rdecimal_any x h0 (by omega) W
  have hA := dec_size mn.toNat (by omega)
  have hB := dec_size mx.toNat (by omega)
  have g1 : ¬ 9223372036854775807 < 1 + (bs (Lib.decDigits mn.toNat)).size := by omega
  have g2 : ¬ 9223372036854775807 < 1 + (bs (Lib.decDigits mn.toNat)).size + 1 := by omega
  have g3 : ¬ 9223372036854775807 < 1 + (bs (Lib.decDigits mn.toNat)).size + 1 + (bs (Lib.decDigits mx.toNat)).size := by omega
  have HH := Lib.hid (head_size a ha n z0 (by omega) pm)
  by_cases e1 : mn = n
  · subst e1
    by_cases e2 : mx = mn
    · subst e2
      have HX := Lib.hid (no_cat mx mx mx pm a ⟨rfl, rfl⟩)
      clear h hv
      cases pm
      all_goals (
        go_enter Tryd.func18, Tryd.ntmps18
        go_wp2_with fail
        go_at_call 11
        refine (HK.out _).mono ?_
        rintro e w1 ⟨rfl, h1⟩
        obtain ⟨hc1, hf1⟩ := bcell h1
        have hs1 : w.heap.size < w1.heap.size := by have := h1.size; simp at this; omega
        go_wp2_with fail
        go_at_call 32
        refine (HT.out _).mono ?_
        rintro e w2 ⟨rfl, h2⟩
        obtain ⟨hc2, hf2⟩ := bcell h2
        go_wp2_with fail
        simp only [word_t, word_f]
        generalize hYY : bs _ ++ bs (textT a mx) = Y at *
        refine bodyPost_ret (v := .tuple #[.string Y, .int .i64 0]) (by simp [results, Tryd.results18, go_sem]) rfl ⟨?_, below_then (below_then (below_alloc _ _) h1) h2⟩
        rw [HV.out, ← HX.out])
    · have HX := Lib.hid (yes_cat mn mn mx pm a (fun hh => e2 hh.2))
      clear h hv
      cases pm
      all_goals (
        go_enter Tryd.func18, Tryd.ntmps18
        go_wp2_with fail
        go_at_call 11
        refine (HK.out _).mono ?_
        rintro e w1 ⟨rfl, h1⟩
        obtain ⟨hc1, hf1⟩ := bcell h1
        have hs1 : w.heap.size < w1.heap.size := by have := h1.size; simp at this; omega
        go_wp2_with fail
        go_at_call 32
        refine (HT.out _).mono ?_
        rintro e w2 ⟨rfl, h2⟩
        obtain ⟨hc2, hf2⟩ := bcell h2
        have HB1 : Boxed w w2.drew := ⟨(below_then (below_then (below_alloc _ _) h1) h2).drew, by have := h2.size; simp; omega⟩
        have e2 : w2.cell? ⟨w.heap.size, 3, none⟩ = some (.int .i64 mn) := by rw [hc2 _ _ (by omega), hc1 _ _ (by simp)]; go_simp
        have e3 : w2.cell? ⟨w.heap.size, 4, none⟩ = some (.int .i64 mx) := by rw [hc2 _ _ (by omega), hc1 _ _ (by simp)]; go_simp
        have e1 : w2.cell? ⟨w.heap.size, 2, none⟩ = some (.int .i64 mn) := by rw [hc2 _ _ (by omega), hc1 _ _ (by simp)]; go_simp
        clear hc1 hf1 h1 hc2 hf2 h2
        go_wp2_with fail
        simp only [word_t, word_f]
        generalize hYY : bs _ ++ bs (textT a mn) = Y at *
        have hY : Y.size ≤ 30 := HH.out
        have g4 : ¬ 9223372036854775807 < Y.size + (1 + (bs (Lib.decDigits mn.toNat)).size + 1 + (bs (Lib.decDigits mx.toNat)).size) := by omega
        go_region_held3 (fun w' => w'.cell? ⟨w.heap.size, 3, none⟩ = some (.int .i64 mn) ∧ w'.cell? ⟨w.heap.size, 4, none⟩ = some (.int .i64 mx) ∧ Boxed w w')
          (first | exact ⟨by simp [*], by simp [*], HB1⟩ | go_keep)
          (first
            | (go_at_call 33; refine (HD.out _ (by omega) (by omega) _).mono ?_; rintro e w3 ⟨rfl, hb⟩; have hk := mm_keep ‹_› hb; clear hb))
        all_goals go_wp2
        all_goals (
          obtain ⟨_, _, hBx⟩ := hk
          refine bodyPost_ret (v := .tuple #[.string (Y ++ ((⟨#[32]⟩ : ByteArray) ++ bs (Lib.decDigits mn.toNat) ++ ⟨#[45]⟩ ++ bs (Lib.decDigits mx.toNat))), .int .i64 0]) (by simp [results, Tryd.results18, go_sem]) rfl ⟨?_, hBx.1⟩
          rw [HV.out, ← HX.out]))
  · have HX := Lib.hid (yes_cat n mn mx pm a (fun hh => e1 hh.1))
    clear h hv
    cases pm
    all_goals (
      go_enter Tryd.func18, Tryd.ntmps18
      go_wp2_with fail
      go_at_call 11
      refine (HK.out _).mono ?_
      rintro e w1 ⟨rfl, h1⟩
      obtain ⟨hc1, hf1⟩ := bcell h1
      have hs1 : w.heap.size < w1.heap.size := by have := h1.size; simp at this; omega
      go_wp2_with fail
      go_at_call 32
      refine (HT.out _).mono ?_
      rintro e w2 ⟨rfl, h2⟩
      obtain ⟨hc2, hf2⟩ := bcell h2
      have HB1 : Boxed w w2.drew := ⟨(below_then (below_then (below_alloc _ _) h1) h2).drew, by have := h2.size; simp; omega⟩
      have e2 : w2.cell? ⟨w.heap.size, 3, none⟩ = some (.int .i64 mn) := by rw [hc2 _ _ (by omega), hc1 _ _ (by simp)]; go_simp
      have e3 : w2.cell? ⟨w.heap.size, 4, none⟩ = some (.int .i64 mx) := by rw [hc2 _ _ (by omega), hc1 _ _ (by simp)]; go_simp
      have e0 : w2.cell? ⟨w.heap.size, 2, none⟩ = some (.int .i64 n) := by rw [hc2 _ _ (by omega), hc1 _ _ (by simp)]; go_simp
      clear hc1 hf1 h1 hc2 hf2 h2
      go_wp2_with fail
      simp only [word_t, word_f]
      generalize hYY : bs _ ++ bs (textT a n) = Y at *
      have hY : Y.size ≤ 30 := HH.out
      have g4 : ¬ 9223372036854775807 < Y.size + (1 + (bs (Lib.decDigits mn.toNat)).size + 1 + (bs (Lib.decDigits mx.toNat)).size) := by omega
      go_region_held3 (fun w' => w'.cell? ⟨w.heap.size, 3, none⟩ = some (.int .i64 mn) ∧ w'.cell? ⟨w.heap.size, 4, none⟩ = some (.int .i64 mx) ∧ Boxed w w')
        (first | exact ⟨by simp [*], by simp [*], HB1⟩ | go_keep)
        (first
          | (go_at_call 33; refine (HD.out _ (by omega) (by omega) _).mono ?_; rintro e w3 ⟨rfl, hb⟩; have hk := mm_keep ‹_› hb; clear hb))
      all_goals go_wp2
      all_goals (
        obtain ⟨_, _, hBx⟩ := hk
        refine bodyPost_ret (v := .tuple #[.string (Y ++ ((⟨#[32]⟩ : ByteArray) ++ bs (Lib.decDigits mn.toNat) ++ ⟨#[45]⟩ ++ bs (Lib.decDigits mx.toNat))), .int .i64 0]) (by simp [results, Tryd.results18, go_sem]) rfl ⟨?_, hBx.1⟩
        rw [HV.out, ← HX.out]))
end Go.Proofs.YtiiojkekcnmddaaDoor
