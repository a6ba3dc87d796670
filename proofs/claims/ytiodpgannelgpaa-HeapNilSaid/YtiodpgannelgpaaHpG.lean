/-
  A nil queue; bounds.
-/
import Derived.Test.YtiodpgannelgpaaHpF
import Derived.Test.YtiodpgannelgpaaFrame
namespace Go.Proofs.Ytiodpgannelgpaa
open Go.RowKit HM
set_option linter.unusedSimpArgs false
set_option linter.unusedVariables false
set_option maxHeartbeats 4000000
set_option maxRecDepth 100000

theorem len_nil (w : World) : Calls Try.prog 43 #[.pointer none] w fun e w' => e = .returned (.int .i64 0) ∧ w = w' := by
  go_enter Try.func43, Try.ntmps43
  go_wp2
  go_ret
  exact ⟨rfl, rfl⟩
theorem min_nil (w : World) : Calls Try.prog 49 #[.pointer none] w fun e w' => e = .returned (.tuple #[.int .i64 0, .int .i64 0, .bool false]) ∧ w = w' := by
  go_enter Try.func49, Try.ntmps49
  go_wp2_with (go_at_call 43; refine (len_nil _).mono ?_; rintro e w1 ⟨rfl, rfl⟩)
  go_ret3
  exact ⟨rfl, rfl⟩
theorem pop_nil (w : World) : Calls Try.prog 46 #[.pointer none] w fun e w' => e = .returned (.tuple #[.int .i64 0, .int .i64 0, .bool false]) ∧ w = w' := by
  go_enter Try.func46, Try.ntmps46
  go_wp2_with (go_at_call 49; refine (min_nil _).mono ?_; rintro e w1 ⟨rfl, rfl⟩)
  go_ret3
  exact ⟨rfl, rfl⟩
theorem key_nil (i : Int) (w : World) : Calls Try.prog 48 #[.pointer none, .int .i64 i] w fun e w' => e = .returned (.tuple #[.int .i64 0, .bool false]) ∧ w = w' := by
  go_enter Try.func48, Try.ntmps48
  go_wp2
  go_ret2
  exact ⟨rfl, rfl⟩
theorem set_nil (i k : Int) (w : World) : Calls Try.prog 45 #[.pointer none, .int .i64 i, .int .i64 k] w fun e w' => e = .returned (.bool false) ∧ w = w' := by
  go_enter Try.func45, Try.ntmps45
  go_wp2
  go_ret
  exact ⟨rfl, rfl⟩
theorem drop_nil (i : Int) (w : World) : Calls Try.prog 47 #[.pointer none, .int .i64 i] w fun e w' => e = .returned (.bool false) ∧ w = w' := by
  go_enter Try.func47, Try.ntmps47
  go_wp2
  go_ret
  exact ⟨rfl, rfl⟩
theorem nil_walk (x0 x1 : Int) (w : World) (hx0 : I64 x0) (hx1 : I64 x1) : Calls Try.prog 16 #[.int .i64 x0, .int .i64 x1] w fun e w' => e = .returned (.bool true) ∧ Below w.heap.size w w' := by
  go_enter Try.func16, Try.ntmps16
  go_wp2_with (first
    | (go_at_call 49; refine (min_nil _).mono ?_; rintro e w1 ⟨rfl, rfl⟩)
    | (go_at_call 46; refine (pop_nil _).mono ?_; rintro e w1 ⟨rfl, rfl⟩)
    | (go_at_call 48; refine (key_nil _ _).mono ?_; rintro e w1 ⟨rfl, rfl⟩)
    | (go_at_call 45; refine (set_nil _ _ _).mono ?_; rintro e w1 ⟨rfl, rfl⟩)
    | (go_at_call 47; refine (drop_nil _ _).mono ?_; rintro e w1 ⟨rfl, rfl⟩)
    | (go_at_call 43; refine (len_nil _).mono ?_; rintro e w1 ⟨rfl, rfl⟩)
    | (go_at_call 39; refine (awake_any _).mono ?_; rintro e w1 ⟨rfl, hb⟩; have B := Lib.hid hb; clear hb))
  go_ret
  exact ⟨rfl, B.out⟩
theorem set_one {n : Nat} {i : Int} (h : 0 ≤ i ∧ i < n) : cntB ((List.replicate n false).set i.toNat true) = 1 := by
  obtain ⟨x, rfl⟩ : ∃ x : Nat, i = x := ⟨i.toNat, by omega⟩
  unfold cntB
  rw [Int.toNat_natCast, List.countP_set (by simp; omega)]
  simp
theorem bounds_in (x0 : Nat) (x1 x2 : Int) (w : World) (hx0 : x0 < 256) (h : 0 ≤ x1 ∧ x1 < x0) : Calls Try.prog 15 #[.int .u8 (x0 : Int), .int .i64 x1, .int .i64 x2] w fun e w' => e = .returned (.bool true) ∧ Below w.heap.size w w' := by
  obtain ⟨x, rfl⟩ : ∃ x : Nat, x1 = x := ⟨x1.toNat, by omega⟩
  have hx : x < x0 := by omega
  have x00 : (0 : Int) ≤ (x : Int) := by omega
  have x01 : (x : Int) < (x0 : Int) := by omega
  have hc0 : (0 : Int) ≤ (x0 : Int) := by omega
  have hc1 : (x0 : Int) < 256 := by omega
  clear h
  go_enter Try.func15, Try.ntmps15
  go_wp2_with fail
  go_at_call 40
  refine (hw_new (x0 : Int) x0 (by omega) w w (Below.refl _ _)).mono ?_
  rintro e w1 ⟨hb, rfl, h⟩
  have H1 := Lib.hid h
  clear h
  go_wp2_with fail
  go_at_call 45
  refine (H1.out.set x x2 hx).mono ?_
  rintro e w2 ⟨rfl, h⟩
  have H2 := Lib.hid h
  have HQ : Hid (KeyQ x0 ((List.replicate x0 false).set x true) ((List.replicate x0 0).set x x2) (x : Int) x2 true) :=
    .inl ⟨by omega, by omega, by rw [Int.toNat_natCast, gB_set (by simpa using hx), if_pos rfl], by rw [Int.toNat_natCast, gI_set (by simpa using hx), if_pos rfl], rfl⟩
  clear h H1
  go_wp2_with fail
  go_at_call 48
  refine (H2.out.key (x : Int) HQ.out).mono ?_
  rintro e w3 ⟨rfl, rfl⟩
  go_wp2_with fail
  go_at_call 39
  refine (awake_any _).mono ?_
  rintro e w4 ⟨rfl, hb4⟩
  have H4 := Lib.hid (H2.out.below hb4)
  clear hb4
  go_wp2_with fail
  go_at_call 47
  refine (H4.out.drop x hx (by rw [gB_set (by simpa using hx), if_pos rfl])).mono ?_
  rintro e w5 ⟨rfl, h⟩
  have H5 := Lib.hid h
  clear h
  go_wp2_with fail
  go_at_call 43
  have HC : Hid (cntB (((List.replicate x0 false).set x true).set x false) = 0) := by
    show _ = _
    have e : ((List.replicate x0 false).set x true).set x false = List.replicate x0 false := by
      rw [List.set_set]
      apply List.ext_getElem? ; intro p
      rw [List.getElem?_set]; split
      · rename_i e; subst e; simp [hx]
      · rfl
    rw [e]; unfold cntB; simp [List.countP_replicate]
  have HL := Lib.hid H5.out.size
  rw [HC.out] at HL
  refine HL.out.mono ?_
  rintro e w6 ⟨rfl, rfl⟩
  go_wp2
  go_ret
  exact ⟨rfl, H5.out.b⟩
theorem bounds_out (x0 : Nat) (x1 x2 : Int) (w : World) (hx0 : x0 < 256) (h : ¬ (0 ≤ x1 ∧ x1 < x0)) : Calls Try.prog 15 #[.int .u8 (x0 : Int), .int .i64 x1, .int .i64 x2] w fun e w' => e = .returned (.bool true) ∧ Below w.heap.size w w' := by
  have hc0 : (0 : Int) ≤ (x0 : Int) := by omega
  have hc1 : (x0 : Int) < 256 := by omega
  have HI := Lib.hid h
  have HQ : Hid (KeyQ x0 (List.replicate x0 false) (List.replicate x0 0) x1 0 false) := .inr ⟨fun k => h ⟨k.1, k.2.1⟩, rfl, rfl⟩
  have HC : Hid (cntB (List.replicate x0 false) = 0) := by show _ = _; unfold cntB; simp [List.countP_replicate]
  by_cases h0 : 0 ≤ x1
  · have h1 : (x0 : Int) ≤ x1 := by omega
    clear h
    go_enter Try.func15, Try.ntmps15
    go_wp2_with fail
    go_at_call 40
    refine (hw_new (x0 : Int) x0 (by omega) w w (Below.refl _ _)).mono ?_
    rintro e w1 ⟨hb, rfl, h⟩
    have H1 := Lib.hid h
    clear h
    go_wp2_with fail
    go_at_call 45
    refine (H1.out.setOut x1 x2 HI.out).mono ?_
    rintro e w2 ⟨rfl, rfl⟩
    go_wp2_with fail
    go_at_call 48
    refine (H1.out.key x1 HQ.out).mono ?_
    rintro e w3 ⟨rfl, rfl⟩
    go_wp2_with fail
    go_at_call 39
    refine (awake_any _).mono ?_
    rintro e w4 ⟨rfl, hb4⟩
    have H4 := Lib.hid (H1.out.below hb4)
    clear hb4
    go_wp2_with fail
    go_at_call 47
    refine (H4.out.dropOut x1 (fun k => HI.out ⟨k.1, k.2.1⟩)).mono ?_
    rintro e w5 ⟨rfl, rfl⟩
    go_wp2_with fail
    go_at_call 43
    have HL := Lib.hid H4.out.size
    rw [HC.out] at HL
    refine HL.out.mono ?_
    rintro e w6 ⟨rfl, rfl⟩
    go_wp2
    go_ret
    exact ⟨rfl, H4.out.b⟩
  · have h1 : decide (0 ≤ x1) = false := decide_eq_false h0
    clear h
    go_enter Try.func15, Try.ntmps15
    go_wp2_with fail
    go_at_call 40
    refine (hw_new (x0 : Int) x0 (by omega) w w (Below.refl _ _)).mono ?_
    rintro e w1 ⟨hb, rfl, h⟩
    have H1 := Lib.hid h
    clear h
    go_wp2_with fail
    go_at_call 45
    refine (H1.out.setOut x1 x2 HI.out).mono ?_
    rintro e w2 ⟨rfl, rfl⟩
    go_wp2_with fail
    go_at_call 48
    refine (H1.out.key x1 HQ.out).mono ?_
    rintro e w3 ⟨rfl, rfl⟩
    go_wp2_with fail
    go_at_call 39
    refine (awake_any _).mono ?_
    rintro e w4 ⟨rfl, hb4⟩
    have H4 := Lib.hid (H1.out.below hb4)
    clear hb4
    go_wp2_with fail
    go_at_call 47
    refine (H4.out.dropOut x1 (fun k => HI.out ⟨k.1, k.2.1⟩)).mono ?_
    rintro e w5 ⟨rfl, rfl⟩
    go_wp2_with fail
    go_at_call 43
    have HL := Lib.hid H4.out.size
    rw [HC.out] at HL
    refine HL.out.mono ?_
    rintro e w6 ⟨rfl, rfl⟩
    go_wp2
    go_ret
    exact ⟨rfl, H4.out.b⟩
theorem bounds_walk (x0 : Nat) (x1 x2 : Int) (w : World) (hx0 : x0 < 256) (hx1 : I64 x1) (hx2 : I64 x2) : Calls Try.prog 15 #[.int .u8 (x0 : Int), .int .i64 x1, .int .i64 x2] w fun e w' => e = .returned (.bool true) ∧ Below w.heap.size w w' := by
  by_cases h : 0 ≤ x1 ∧ x1 < x0
  · exact bounds_in x0 x1 x2 w hx0 h
  · exact bounds_out x0 x1 x2 w hx0 h
end Go.Proofs.Ytiodpgannelgpaa
