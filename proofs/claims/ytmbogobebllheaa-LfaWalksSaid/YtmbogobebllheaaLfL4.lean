/-
  The walk of the law Walks.
-/
import Derived.Test.YtmbogobebllheaaLfM2
import Derived.Test.YtmbogobebllheaaMy
import Derived.BigQuiet
namespace Go.Proofs.Ytmbogobebllheaa
open Go.RowKit HM GM SP Go.Lib
set_option linter.unusedSimpArgs false
set_option linter.unusedVariables false
set_option maxHeartbeats 4000000
set_option maxRecDepth 100000
theorem wks_big (R N : Int) (l : List E) (s : Value) (x d a b : Int) (w : World) (hr : Rd3 w s l) (h : lgF R N l.length = true) :
    Calls Try.prog 6 #[.agg #[.int .i64 R, .int .i64 N, s], .int .i64 x, .int .i64 d, .int .i64 a, .int .i64 b] w fun e w' => e = .returned (.bool true) ∧ Below w.heap.size w w' := by
  obtain ⟨ad, cap, hform⟩ := rd3_slice hr
  obtain ⟨L, hL⟩ : ∃ L, l.length = L := ⟨_, rfl⟩
  rw [hL] at hform
  subst hform
  have HB0 := Lib.hid (below_alloc w (.cells #[.int .i64 R, .int .i64 N, .slice ad L cap] 27))
  have HX0 : Hid ((w.alloc (.cells #[.int .i64 R, .int .i64 N, .slice ad L cap] 27)).heap[w.heap.size]? = some (.cells #[.int .i64 R, .int .i64 N, .slice ad L cap] 27 (0, 0))) := heap_alloc_new _ _
  rw [hL] at h
  clear hr hL
  go_enter Try.func6, Try.ntmps6
  go_wp2_with fail
  go_at_call 24
  refine (large_any R N ad L cap _).mono ?_
  rintro e w1 ⟨rfl, hb⟩
  rw [h]
  have HB1 := Lib.hid (below_then HB0.out hb)
  clear hb HX0 HB0
  go_wp2_with fail
  go_at_call 17
  refine (awake_any _).mono ?_
  rintro e w2 ⟨rfl, hb⟩
  have HB2 := Lib.hid (below_then HB1.out hb)
  clear hb
  go_wp2
  go_ret
  exact ⟨rfl, HB2.out⟩
theorem wks_ok (R N : Int) (l : List E) (s : Value) (x d a b : Int) (w : World) (hR : I64 R) (hN : I64 N) (hr : Rd3 w s l) (hf : FitT l) (h : lgF R N l.length = false) :
    Calls Try.prog 6 #[.agg #[.int .i64 R, .int .i64 N, s], .int .i64 x, .int .i64 d, .int .i64 a, .int .i64 b] w fun e w' => e = .returned (.bool true) ∧ Below w.heap.size w w' := by
  have H35 : Hid (∀ W, Below w.heap.size w W → Calls Try.prog 35 #[.agg #[.int .i64 R, .int .i64 N, s], .int .i64 x, .int .i64 d, .int .i64 a, .int .i64 b] W (WkQ R N l x d a b W)) := fun W hW => wk_any R N l s x d a b W hR hN (hr.below hW)
  have H36 : Hid (∀ W, Below w.heap.size w W → Calls Try.prog 36 #[.agg #[.int .i64 R, .int .i64 N, s], .int .i64 x, .int .i64 d, .int .i64 a, .int .i64 b] W (WkQ R N l x d a b W)) := fun W hW => rwk_any R N l s x d a b W hR hN (hr.below hW) hf
  obtain ⟨ad, cap, hform⟩ := rd3_slice hr
  obtain ⟨L, hL⟩ : ∃ L, l.length = L := ⟨_, rfl⟩
  rw [hL] at hform
  subst hform
  have HB0 := Lib.hid (below_alloc w (.cells #[.int .i64 R, .int .i64 N, .slice ad L cap] 27))
  have HX0 : Hid ((w.alloc (.cells #[.int .i64 R, .int .i64 N, .slice ad L cap] 27)).heap[w.heap.size]? = some (.cells #[.int .i64 R, .int .i64 N, .slice ad L cap] 27 (0, 0))) := heap_alloc_new _ _
  rw [hL] at h
  clear hr hL hf
  go_enter Try.func6, Try.ntmps6
  go_wp2_with fail
  go_at_call 24
  refine (large_any R N ad L cap _).mono ?_
  rintro e w1 ⟨rfl, hb⟩
  rw [h]
  have HB1 := Lib.hid (below_then HB0.out hb)
  have HX1 := Lib.hid ((hb.block _ (lt_block HX0.out)).trans HX0.out)
  have q0 : w1.cell? ⟨w.heap.size, 0, none⟩ = some (.int .i64 R) := cell_of HX1.out rfl
  have q1 : w1.cell? ⟨w.heap.size, 1, none⟩ = some (.int .i64 N) := cell_of HX1.out rfl
  have q2 : w1.cell? ⟨w.heap.size, 2, none⟩ = some (.slice ad L cap) := cell_of HX1.out rfl
  clear hb HX0 HB0 h
  go_wp2_with fail
  go_at_call 35
  refine (H35.out _ HB1.out).mono ?_
  rintro e w2 ⟨p, ok, v2, rfl, hrd, hk, hb⟩
  have HK := Lib.hid hk
  clear q0 q1 q2
  have HB2 := Lib.hid (below_then HB1.out hb)
  have HX2 := Lib.hid ((hb.block _ (lt_block HX1.out)).trans HX1.out)
  have q0 : w2.cell? ⟨w.heap.size, 0, none⟩ = some (.int .i64 R) := cell_of HX2.out rfl
  have q1 : w2.cell? ⟨w.heap.size, 1, none⟩ = some (.int .i64 N) := cell_of HX2.out rfl
  have q2 : w2.cell? ⟨w.heap.size, 2, none⟩ = some (.slice ad L cap) := cell_of HX2.out rfl
  have HP2 := Lib.hid hrd
  obtain ⟨a2, c2, hf2⟩ := hrd.form
  subst hf2
  clear hrd hk hb H35 HB1 HX1
  go_wp2_with fail
  go_at_call 36
  refine (H36.out _ HB2.out).mono ?_
  rintro e w3 ⟨p', ok', v3, rfl, hrd, hk, hb⟩
  obtain ⟨hpp, hkk⟩ := HK.out.unique hk
  subst hpp
  subst hkk
  clear q0 q1 q2
  have HB3 := Lib.hid (below_then HB2.out hb)
  have HP3 := Lib.hid (HP2.out.below hb)
  have HQ3 := Lib.hid hrd
  obtain ⟨a3, c3, hf3⟩ := hrd.form
  subst hf3
  clear hrd hk hb H36 HB2 HX2 HP2 HK
  have e1 : (ok == ok) = true := by simp
  go_wp2_with fail
  go_at_call 17
  refine (awake_any _).mono ?_
  rintro e w4 ⟨rfl, hb⟩
  have HB4 := Lib.hid (below_then HB3.out hb)
  have HP4 := Lib.hid (HP3.out.below hb)
  have HQ4 := Lib.hid (HQ3.out.below hb)
  clear hb HP3 HQ3 HB3
  go_wp2_with fail
  go_at_call 34
  refine (same3_any p _ _ _ HP4.out HQ4.out).mono ?_
  rintro e w5 ⟨rfl, hb⟩
  have HB5 := Lib.hid (below_then HB4.out hb)
  clear hb HP4 HQ4 HB4
  go_wp2
  go_ret
  exact ⟨rfl, HB5.out⟩
theorem wks_walk (R N : Int) (l : List E) (s : Value) (x d a b : Int) (w : World) (hR : I64 R) (hN : I64 N) (hr : Rd3 w s l) (hf : FitT l) (hx : I64 x) (hd : I64 d) (ha : I64 a) (hb : I64 b) :
    Calls Try.prog 6 #[.agg #[.int .i64 R, .int .i64 N, s], .int .i64 x, .int .i64 d, .int .i64 a, .int .i64 b] w fun e w' => e = .returned (.bool true) ∧ Below w.heap.size w w' := by
  cases hl : lgF R N l.length
  · exact wks_ok R N l s x d a b w hR hN hr hf hl
  · exact wks_big R N l s x d a b w hr hl
end Go.Proofs.Ytmbogobebllheaa
