/-
  The walk of the law Spaces.
-/
import Derived.Test.YtmbogobebllheaaMy
import Derived.BigQuiet
namespace Go.Proofs.Ytmbogobebllheaa
open Go.RowKit HM GM SP Go.Lib
set_option linter.unusedSimpArgs false
set_option linter.unusedVariables false
set_option maxHeartbeats 4000000
set_option maxRecDepth 100000
theorem spc_big (R N : Int) (l : List E) (s : Value) (x y : Int) (w : World) (hr : Rd3 w s l) (h : lgF R N l.length = true) :
    Calls Try.prog 5 #[.agg #[.int .i64 R, .int .i64 N, s], .int .i64 x, .int .i64 y] w fun e w' => e = .returned (.bool true) ∧ Below w.heap.size w w' := by
  obtain ⟨ad, cap, hform⟩ := rd3_slice hr
  obtain ⟨L, hL⟩ : ∃ L, l.length = L := ⟨_, rfl⟩
  rw [hL] at hform
  subst hform
  have HB0 := Lib.hid (below_alloc w (.cells #[.int .i64 R, .int .i64 N, .slice ad L cap] 27))
  have HX0 : Hid ((w.alloc (.cells #[.int .i64 R, .int .i64 N, .slice ad L cap] 27)).heap[w.heap.size]? = some (.cells #[.int .i64 R, .int .i64 N, .slice ad L cap] 27 (0, 0))) := heap_alloc_new _ _
  rw [hL] at h
  clear hr hL
  go_enter Try.func5, Try.ntmps5
  go_wp2_with fail
  go_at_call 24
  refine (large_any R N ad L cap _).mono ?_
  rintro e w1 ⟨rfl, hb⟩
  rw [h]
  have HB1 := Lib.hid (below_then HB0.out hb)
  clear hb HX0 HB0
  go_wp2_with fail
  go_at_call 17
  refine (awake_any _).mono ?_
  rintro e w2 ⟨rfl, hb⟩
  have HB2 := Lib.hid (below_then HB1.out hb)
  clear hb
  go_wp2
  go_ret
  exact ⟨rfl, HB2.out⟩
theorem spc_ok (R N : Int) (l : List E) (s : Value) (x y : Int) (w : World) (hR : I64 R) (hN : I64 N) (hr : Rd3 w s l) (hf : FitT l) (hx : I64 x) (hy : I64 y) (h : lgF R N l.length = false) :
    Calls Try.prog 5 #[.agg #[.int .i64 R, .int .i64 N, s], .int .i64 x, .int .i64 y] w fun e w' => e = .returned (.bool true) ∧ Below w.heap.size w w' := by
  have H28 : Hid (∀ W, Below w.heap.size w W → Calls Try.prog 28 #[.agg #[.int .i64 R, .int .i64 N, s], .int .i64 x, .int .i64 y] W fun e w' => ∃ v, e = .returned (.tuple #[v, .int .i64 (lkE R N l x y)]) ∧ RdI w' v (psF R N l x y) ∧ Below W.heap.size W w') := fun W hW => psp_any R N l s x y W hR hN (hr.below hW)
  have H29 : Hid (∀ W, Below w.heap.size w W → Calls Try.prog 29 #[.agg #[.int .i64 R, .int .i64 N, s], .int .i64 x, .int .i64 y] W fun e w' => ∃ v, e = .returned (.tuple #[v, .int .i64 (lkE R N l x y)]) ∧ RdI w' v (qsF R N l x y) ∧ Below W.heap.size W w') := fun W hW => qsp_any R N l s x y W hR hN (hr.below hW)
  have H30 : Hid (∀ W, Below w.heap.size w W → Calls Try.prog 30 #[.agg #[.int .i64 R, .int .i64 N, s], .int .i64 x, .int .i64 y] W fun e w' => e = .returned (.tuple #[.int .i64 ((rmO R N l x y).getD 0), .bool (rmO R N l x y).isSome, .int .i64 (lkE R N l x y)]) ∧ Below W.heap.size W w') := fun W hW => rm_any R N l s x y W hR hN (hr.below hW)
  have H31 : Hid (∀ W, Below w.heap.size w W → Calls Try.prog 31 #[.agg #[.int .i64 R, .int .i64 N, s], .int .i64 x, .int .i64 y] W fun e w' => ∃ v, e = .returned (.tuple #[v, .int .i64 (lkE R N l x y)]) ∧ RdI w' v (psF R N l x y) ∧ Below W.heap.size W w') := fun W hW => rpsp_any R N l s x y W hR hN (hr.below hW) hf hx hy
  have H32 : Hid (∀ W, Below w.heap.size w W → Calls Try.prog 32 #[.agg #[.int .i64 R, .int .i64 N, s], .int .i64 x, .int .i64 y] W fun e w' => ∃ v, e = .returned (.tuple #[v, .int .i64 (lkE R N l x y)]) ∧ RdI w' v (qsF R N l x y) ∧ Below W.heap.size W w') := fun W hW => rqsp_any R N l s x y W hR hN (hr.below hW) hf hx hy
  have H33 : Hid (∀ W, Below w.heap.size w W → Calls Try.prog 33 #[.agg #[.int .i64 R, .int .i64 N, s], .int .i64 x, .int .i64 y] W fun e w' => e = .returned (.tuple #[.int .i64 ((rmO R N l x y).getD 0), .bool (rmO R N l x y).isSome, .int .i64 (lkE R N l x y)]) ∧ Below W.heap.size W w') := fun W hW => rrm_any R N l s x y W hR hN (hr.below hW) hf hx hy
  obtain ⟨ad, cap, hform⟩ := rd3_slice hr
  obtain ⟨L, hL⟩ : ∃ L, l.length = L := ⟨_, rfl⟩
  rw [hL] at hform
  subst hform
  have HB0 := Lib.hid (below_alloc w (.cells #[.int .i64 R, .int .i64 N, .slice ad L cap] 27))
  have HX0 : Hid ((w.alloc (.cells #[.int .i64 R, .int .i64 N, .slice ad L cap] 27)).heap[w.heap.size]? = some (.cells #[.int .i64 R, .int .i64 N, .slice ad L cap] 27 (0, 0))) := heap_alloc_new _ _
  rw [hL] at h
  generalize psF R N l x y = ps at *
  generalize qsF R N l x y = qs at *
  generalize (rmO R N l x y).getD 0 = rv at *
  generalize (rmO R N l x y).isSome = rb at *
  generalize lkE R N l x y = er at *
  have e1 : (rv == rv) = true := by simp
  have e2 : (rb == rb) = true := by simp
  have e3 : (er == er) = true := by simp
  clear hr hL hf
  go_enter Try.func5, Try.ntmps5
  go_wp2_with fail
  go_at_call 24
  refine (large_any R N ad L cap _).mono ?_
  rintro e w1 ⟨rfl, hb⟩
  rw [h]
  have HB1 := Lib.hid (below_then HB0.out hb)
  have HX1 := Lib.hid ((hb.block _ (lt_block HX0.out)).trans HX0.out)
  have q0 : w1.cell? ⟨w.heap.size, 0, none⟩ = some (.int .i64 R) := cell_of HX1.out rfl
  have q1 : w1.cell? ⟨w.heap.size, 1, none⟩ = some (.int .i64 N) := cell_of HX1.out rfl
  have q2 : w1.cell? ⟨w.heap.size, 2, none⟩ = some (.slice ad L cap) := cell_of HX1.out rfl
  clear hb HX0 HB0 h
  go_wp2_with fail
  go_at_call 28
  refine (H28.out _ HB1.out).mono ?_
  rintro e w2 ⟨v2, rfl, hrd, hb⟩
  clear q0 q1 q2
  have HB2 := Lib.hid (below_then HB1.out hb)
  have HX2 := Lib.hid ((hb.block _ (lt_block HX1.out)).trans HX1.out)
  have q0 : w2.cell? ⟨w.heap.size, 0, none⟩ = some (.int .i64 R) := cell_of HX2.out rfl
  have q1 : w2.cell? ⟨w.heap.size, 1, none⟩ = some (.int .i64 N) := cell_of HX2.out rfl
  have q2 : w2.cell? ⟨w.heap.size, 2, none⟩ = some (.slice ad L cap) := cell_of HX2.out rfl
  have HP_2 := Lib.hid hrd
  obtain ⟨a2, c2, hf2⟩ := hrd.form
  subst hf2
  clear hrd
  clear hb H28 HB1 HX1
  go_wp2_with fail
  go_at_call 29
  refine (H29.out _ HB2.out).mono ?_
  rintro e w3 ⟨v3, rfl, hrd, hb⟩
  clear q0 q1 q2
  have HB3 := Lib.hid (below_then HB2.out hb)
  have HX3 := Lib.hid ((hb.block _ (lt_block HX2.out)).trans HX2.out)
  have q0 : w3.cell? ⟨w.heap.size, 0, none⟩ = some (.int .i64 R) := cell_of HX3.out rfl
  have q1 : w3.cell? ⟨w.heap.size, 1, none⟩ = some (.int .i64 N) := cell_of HX3.out rfl
  have q2 : w3.cell? ⟨w.heap.size, 2, none⟩ = some (.slice ad L cap) := cell_of HX3.out rfl
  have HP_3 := Lib.hid (HP_2.out.below hb)
  clear HP_2
  have HQ_3 := Lib.hid hrd
  obtain ⟨a3, c3, hf3⟩ := hrd.form
  subst hf3
  clear hrd
  clear hb H29 HB2 HX2
  go_wp2_with fail
  go_at_call 30
  refine (H30.out _ HB3.out).mono ?_
  rintro e w4 ⟨rfl, hb⟩
  clear q0 q1 q2
  have HB4 := Lib.hid (below_then HB3.out hb)
  have HX4 := Lib.hid ((hb.block _ (lt_block HX3.out)).trans HX3.out)
  have q0 : w4.cell? ⟨w.heap.size, 0, none⟩ = some (.int .i64 R) := cell_of HX4.out rfl
  have q1 : w4.cell? ⟨w.heap.size, 1, none⟩ = some (.int .i64 N) := cell_of HX4.out rfl
  have q2 : w4.cell? ⟨w.heap.size, 2, none⟩ = some (.slice ad L cap) := cell_of HX4.out rfl
  have HP_4 := Lib.hid (HP_3.out.below hb)
  clear HP_3
  have HQ_4 := Lib.hid (HQ_3.out.below hb)
  clear HQ_3
  clear hb H30 HB3 HX3
  go_wp2_with fail
  go_at_call 31
  refine (H31.out _ HB4.out).mono ?_
  rintro e w5 ⟨v5, rfl, hrd, hb⟩
  clear q0 q1 q2
  have HB5 := Lib.hid (below_then HB4.out hb)
  have HX5 := Lib.hid ((hb.block _ (lt_block HX4.out)).trans HX4.out)
  have q0 : w5.cell? ⟨w.heap.size, 0, none⟩ = some (.int .i64 R) := cell_of HX5.out rfl
  have q1 : w5.cell? ⟨w.heap.size, 1, none⟩ = some (.int .i64 N) := cell_of HX5.out rfl
  have q2 : w5.cell? ⟨w.heap.size, 2, none⟩ = some (.slice ad L cap) := cell_of HX5.out rfl
  have HP_5 := Lib.hid (HP_4.out.below hb)
  clear HP_4
  have HQ_5 := Lib.hid (HQ_4.out.below hb)
  clear HQ_4
  have HP2_5 := Lib.hid hrd
  obtain ⟨a5, c5, hf5⟩ := hrd.form
  subst hf5
  clear hrd
  clear hb H31 HB4 HX4
  go_wp2_with fail
  go_at_call 32
  refine (H32.out _ HB5.out).mono ?_
  rintro e w6 ⟨v6, rfl, hrd, hb⟩
  clear q0 q1 q2
  have HB6 := Lib.hid (below_then HB5.out hb)
  have HX6 := Lib.hid ((hb.block _ (lt_block HX5.out)).trans HX5.out)
  have q0 : w6.cell? ⟨w.heap.size, 0, none⟩ = some (.int .i64 R) := cell_of HX6.out rfl
  have q1 : w6.cell? ⟨w.heap.size, 1, none⟩ = some (.int .i64 N) := cell_of HX6.out rfl
  have q2 : w6.cell? ⟨w.heap.size, 2, none⟩ = some (.slice ad L cap) := cell_of HX6.out rfl
  have HP_6 := Lib.hid (HP_5.out.below hb)
  clear HP_5
  have HQ_6 := Lib.hid (HQ_5.out.below hb)
  clear HQ_5
  have HP2_6 := Lib.hid (HP2_5.out.below hb)
  clear HP2_5
  have HQ2_6 := Lib.hid hrd
  obtain ⟨a6, c6, hf6⟩ := hrd.form
  subst hf6
  clear hrd
  clear hb H32 HB5 HX5
  go_wp2_with fail
  go_at_call 33
  refine (H33.out _ HB6.out).mono ?_
  rintro e w7 ⟨rfl, hb⟩
  clear q0 q1 q2
  have HB7 := Lib.hid (below_then HB6.out hb)
  have HX7 := Lib.hid ((hb.block _ (lt_block HX6.out)).trans HX6.out)
  have q0 : w7.cell? ⟨w.heap.size, 0, none⟩ = some (.int .i64 R) := cell_of HX7.out rfl
  have q1 : w7.cell? ⟨w.heap.size, 1, none⟩ = some (.int .i64 N) := cell_of HX7.out rfl
  have q2 : w7.cell? ⟨w.heap.size, 2, none⟩ = some (.slice ad L cap) := cell_of HX7.out rfl
  have HP_7 := Lib.hid (HP_6.out.below hb)
  clear HP_6
  have HQ_7 := Lib.hid (HQ_6.out.below hb)
  clear HQ_6
  have HP2_7 := Lib.hid (HP2_6.out.below hb)
  clear HP2_6
  have HQ2_7 := Lib.hid (HQ2_6.out.below hb)
  clear HQ2_6
  clear hb H33 HB6 HX6
  go_wp2_with fail
  clear q0 q1 q2 HX7
  go_at_call 17
  refine (awake_any _).mono ?_
  rintro e w8 ⟨rfl, hb⟩
  have HB8 := Lib.hid (below_then HB7.out hb)
  have HP_8 := Lib.hid (HP_7.out.below hb)
  have HQ_8 := Lib.hid (HQ_7.out.below hb)
  have HP2_8 := Lib.hid (HP2_7.out.below hb)
  have HQ2_8 := Lib.hid (HQ2_7.out.below hb)
  clear hb HP_7 HQ_7 HP2_7 HQ2_7 HB7
  go_wp2_with fail
  go_at_call 34
  refine (same3_any ps _ _ _ HP_8.out HP2_8.out).mono ?_
  rintro e w9 ⟨rfl, hb⟩
  have HB9 := Lib.hid (below_then HB8.out hb)
  have HQ_9 := Lib.hid (HQ_8.out.below hb)
  have HQ2_9 := Lib.hid (HQ2_8.out.below hb)
  clear hb HP_8 HQ_8 HP2_8 HQ2_8 HB8
  go_wp2_with fail
  go_at_call 34
  refine (same3_any qs _ _ _ HQ_9.out HQ2_9.out).mono ?_
  rintro e w10 ⟨rfl, hb⟩
  have HB10 := Lib.hid (below_then HB9.out hb)
  clear hb HQ_9 HQ2_9 HB9
  go_wp2
  go_ret
  exact ⟨rfl, HB10.out⟩
theorem spc_walk (R N : Int) (l : List E) (s : Value) (x y : Int) (w : World) (hR : I64 R) (hN : I64 N) (hr : Rd3 w s l) (hf : FitT l) (hx : I64 x) (hy : I64 y) :
    Calls Try.prog 5 #[.agg #[.int .i64 R, .int .i64 N, s], .int .i64 x, .int .i64 y] w fun e w' => e = .returned (.bool true) ∧ Below w.heap.size w w' := by
  cases hl : lgF R N l.length
  · exact spc_ok R N l s x y w hR hN hr hf hx hy hl
  · exact spc_big R N l s x y w hr hl
end Go.Proofs.Ytmbogobebllheaa
