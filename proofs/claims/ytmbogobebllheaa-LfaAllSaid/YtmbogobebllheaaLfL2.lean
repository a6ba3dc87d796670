/-
  The errors of the reference's All; the walk of the law All.
-/
import Derived.Test.YtmbogobebllheaaLfA1
import Derived.Test.YtmbogobebllheaaMz
import Derived.Test.YtmbogobebllheaaMy
import Derived.BigQuiet
namespace Go.Proofs.Ytmbogobebllheaa
open Go.RowKit HM GM SP Go.Lib
set_option linter.unusedSimpArgs false
set_option linter.unusedVariables false
set_option maxHeartbeats 4000000
set_option maxRecDepth 100000
theorem rla_e1 (R N : Int) (l : List E) (s : Value) (root : Int) (w : World) (hR : I64 R) (hN : I64 N) (hr : Rd3 w s l) (hf : FitT l) (h : roE R N l ≠ 0) :
    Calls Try.prog 26 #[.agg #[.int .i64 R, .int .i64 N, s], .int .i64 root] w (LaQ R N l root w) := by
  have HRO : Hid (∀ W, Below w.heap.size w W → Calls Try.prog 70 #[.agg #[.int .i64 R, .int .i64 N, s]] W fun e w' => e = .returned (.int .i64 (roE R N l)) ∧ Below W.heap.size W w') := fun W hW => rro_any R N l s W hR hN (hr.below hW) hf
  have HRR : Hid (LaR R N l root [] (roE R N l)) := .inl ⟨h, rfl, rfl⟩
  obtain ⟨ad, cap, hform⟩ := rd3_slice hr
  obtain ⟨L, hL⟩ : ∃ L, l.length = L := ⟨_, rfl⟩
  rw [hL] at hform
  subst hform
  have HB0 := Lib.hid (below_alloc w (.cells #[.int .i64 R, .int .i64 N, .slice ad L cap] 27))
  have HX0 : Hid ((w.alloc (.cells #[.int .i64 R, .int .i64 N, .slice ad L cap] 27)).heap[w.heap.size]? = some (.cells #[.int .i64 R, .int .i64 N, .slice ad L cap] 27 (0, 0))) := heap_alloc_new _ _
  generalize roE R N l = er at *
  have hb0 : (er != 0) = true := by simpa using h
  clear hr hL hf h
  go_enter Try.func26, Try.ntmps26
  go_wp2_with fail
  go_at_call 70
  refine (HRO.out _ HB0.out).mono ?_
  rintro e w1 ⟨rfl, hb⟩
  have HB1 := Lib.hid (below_then HB0.out hb)
  have HX1 := Lib.hid ((hb.block _ (lt_block HX0.out)).trans HX0.out)
  have q0 : w1.cell? ⟨w.heap.size, 0, none⟩ = some (.int .i64 R) := cell_of HX1.out rfl
  have q1 : w1.cell? ⟨w.heap.size, 1, none⟩ = some (.int .i64 N) := cell_of HX1.out rfl
  have q2 : w1.cell? ⟨w.heap.size, 2, none⟩ = some (.slice ad L cap) := cell_of HX1.out rfl
  clear hb HRO HB0 HX0
  go_wp2
  go_ret2
  exact ⟨[], er, _, rfl, rdA_nil _, HRR.out, HB1.out⟩
theorem rla_e2 (R N : Int) (l : List E) (s : Value) (root : Int) (w : World) (hR : I64 R) (hN : I64 N) (hr : Rd3 w s l) (hf : FitT l) (h : roE R N l = 0) (h1 : root < 0) :
    Calls Try.prog 26 #[.agg #[.int .i64 R, .int .i64 N, s], .int .i64 root] w (LaQ R N l root w) := by
  have HRO : Hid (∀ W, Below w.heap.size w W → Calls Try.prog 70 #[.agg #[.int .i64 R, .int .i64 N, s]] W fun e w' => e = .returned (.int .i64 (roE R N l)) ∧ Below W.heap.size W w') := fun W hW => rro_any R N l s W hR hN (hr.below hW) hf
  have HRR : Hid (LaR R N l root [] 5) := .inr (.inl ⟨h, by omega, rfl, rfl⟩)
  have f1 : decide (root < 0) = true := by simp; omega
  obtain ⟨ad, cap, hform⟩ := rd3_slice hr
  obtain ⟨L, hL⟩ : ∃ L, l.length = L := ⟨_, rfl⟩
  rw [hL] at hform
  subst hform
  have HB0 := Lib.hid (below_alloc w (.cells #[.int .i64 R, .int .i64 N, .slice ad L cap] 27))
  have HX0 : Hid ((w.alloc (.cells #[.int .i64 R, .int .i64 N, .slice ad L cap] 27)).heap[w.heap.size]? = some (.cells #[.int .i64 R, .int .i64 N, .slice ad L cap] 27 (0, 0))) := heap_alloc_new _ _
  rw [h] at HRO
  clear hr hL hf h
  go_enter Try.func26, Try.ntmps26
  go_wp2_with fail
  go_at_call 70
  refine (HRO.out _ HB0.out).mono ?_
  rintro e w1 ⟨rfl, hb⟩
  have HB1 := Lib.hid (below_then HB0.out hb)
  have HX1 := Lib.hid ((hb.block _ (lt_block HX0.out)).trans HX0.out)
  have q0 : w1.cell? ⟨w.heap.size, 0, none⟩ = some (.int .i64 R) := cell_of HX1.out rfl
  have q1 : w1.cell? ⟨w.heap.size, 1, none⟩ = some (.int .i64 N) := cell_of HX1.out rfl
  have q2 : w1.cell? ⟨w.heap.size, 2, none⟩ = some (.slice ad L cap) := cell_of HX1.out rfl
  clear hb HRO HB0 HX0
  go_wp2
  go_ret2
  exact ⟨[], 5, _, rfl, rdA_nil _, HRR.out, HB1.out⟩
theorem rla_e3 (R N : Int) (l : List E) (s : Value) (root : Int) (w : World) (hR : I64 R) (hN : I64 N) (hr : Rd3 w s l) (hf : FitT l) (h : roE R N l = 0) (h1 : 0 ≤ root) (h2 : R ≤ root) :
    Calls Try.prog 26 #[.agg #[.int .i64 R, .int .i64 N, s], .int .i64 root] w (LaQ R N l root w) := by
  have HRO : Hid (∀ W, Below w.heap.size w W → Calls Try.prog 70 #[.agg #[.int .i64 R, .int .i64 N, s]] W fun e w' => e = .returned (.int .i64 (roE R N l)) ∧ Below W.heap.size W w') := fun W hW => rro_any R N l s W hR hN (hr.below hW) hf
  have HRR : Hid (LaR R N l root [] 5) := .inr (.inl ⟨h, by omega, rfl, rfl⟩)
  have f1 : decide (root < 0) = false := by simp; omega
  have f2 : decide (R ≤ root) = true := by simp; omega
  obtain ⟨ad, cap, hform⟩ := rd3_slice hr
  obtain ⟨L, hL⟩ : ∃ L, l.length = L := ⟨_, rfl⟩
  rw [hL] at hform
  subst hform
  have HB0 := Lib.hid (below_alloc w (.cells #[.int .i64 R, .int .i64 N, .slice ad L cap] 27))
  have HX0 : Hid ((w.alloc (.cells #[.int .i64 R, .int .i64 N, .slice ad L cap] 27)).heap[w.heap.size]? = some (.cells #[.int .i64 R, .int .i64 N, .slice ad L cap] 27 (0, 0))) := heap_alloc_new _ _
  rw [h] at HRO
  clear hr hL hf h
  go_enter Try.func26, Try.ntmps26
  go_wp2_with fail
  go_at_call 70
  refine (HRO.out _ HB0.out).mono ?_
  rintro e w1 ⟨rfl, hb⟩
  have HB1 := Lib.hid (below_then HB0.out hb)
  have HX1 := Lib.hid ((hb.block _ (lt_block HX0.out)).trans HX0.out)
  have q0 : w1.cell? ⟨w.heap.size, 0, none⟩ = some (.int .i64 R) := cell_of HX1.out rfl
  have q1 : w1.cell? ⟨w.heap.size, 1, none⟩ = some (.int .i64 N) := cell_of HX1.out rfl
  have q2 : w1.cell? ⟨w.heap.size, 2, none⟩ = some (.slice ad L cap) := cell_of HX1.out rfl
  clear hb HRO HB0 HX0
  go_wp2
  go_ret2
  exact ⟨[], 5, _, rfl, rdA_nil _, HRR.out, HB1.out⟩
theorem rla_any (R N : Int) (l : List E) (s : Value) (root : Int) (w : World) (hR : I64 R) (hN : I64 N) (hr : Rd3 w s l) (hf : FitT l) :
    Calls Try.prog 26 #[.agg #[.int .i64 R, .int .i64 N, s], .int .i64 root] w (LaQ R N l root w) := by
  by_cases h : roE R N l = 0
  · by_cases h1 : root < 0
    · exact rla_e2 R N l s root w hR hN hr hf h h1
    · by_cases h2 : R ≤ root
      · exact rla_e3 R N l s root w hR hN hr hf h (by omega) h2
      · obtain ⟨h3, rfl⟩ := roE_ok h
        obtain ⟨r, rfl⟩ : ∃ r : Nat, R = (r : Int) := ⟨R.toNat, by omega⟩
        obtain ⟨x, rfl⟩ : ∃ x : Nat, root = (x : Int) := ⟨root.toNat, by omega⟩
        refine (rla_ok r x l s w (chk_iff.1 h3) hr hf (by omega) h).mono ?_
        rintro e w' ⟨v, t, rfl, h4, h5, h6⟩
        exact ⟨_, 0, v, rfl, h4, .inr (.inr ⟨h, ⟨by omega, by omega⟩, rfl, t, h5, by rw [Int.toNat_natCast]⟩), h6⟩
  · exact rla_e1 R N l s root w hR hN hr hf h
theorem lal_big (R N : Int) (l : List E) (s : Value) (root : Int) (w : World) (hr : Rd3 w s l) (h : lgF R N l.length = true) :
    Calls Try.prog 4 #[.agg #[.int .i64 R, .int .i64 N, s], .int .i64 root] w fun e w' => e = .returned (.bool true) ∧ Below w.heap.size w w' := by
  obtain ⟨ad, cap, hform⟩ := rd3_slice hr
  obtain ⟨L, hL⟩ : ∃ L, l.length = L := ⟨_, rfl⟩
  rw [hL] at hform
  subst hform
  have HB0 := Lib.hid (below_alloc w (.cells #[.int .i64 R, .int .i64 N, .slice ad L cap] 27))
  have HX0 : Hid ((w.alloc (.cells #[.int .i64 R, .int .i64 N, .slice ad L cap] 27)).heap[w.heap.size]? = some (.cells #[.int .i64 R, .int .i64 N, .slice ad L cap] 27 (0, 0))) := heap_alloc_new _ _
  rw [hL] at h
  clear hr hL
  go_enter Try.func4, Try.ntmps4
  go_wp2_with fail
  go_at_call 24
  refine (large_any R N ad L cap _).mono ?_
  rintro e w1 ⟨rfl, hb⟩
  rw [h]
  have HB1 := Lib.hid (below_then HB0.out hb)
  clear hb HX0 HB0
  go_wp2_with fail
  go_at_call 17
  refine (awake_any _).mono ?_
  rintro e w2 ⟨rfl, hb⟩
  have HB2 := Lib.hid (below_then HB1.out hb)
  clear hb
  go_wp2
  go_ret
  exact ⟨rfl, HB2.out⟩
theorem lal_ok (R N : Int) (l : List E) (s : Value) (root : Int) (w : World) (hR : I64 R) (hN : I64 N) (hr : Rd3 w s l) (hf : FitT l) (h : lgF R N l.length = false) :
    Calls Try.prog 4 #[.agg #[.int .i64 R, .int .i64 N, s], .int .i64 root] w fun e w' => e = .returned (.bool true) ∧ Below w.heap.size w w' := by
  have H25 : Hid (∀ W, Below w.heap.size w W → Calls Try.prog 25 #[.agg #[.int .i64 R, .int .i64 N, s], .int .i64 root] W (LaQ R N l root W)) := fun W hW => la_any R N l s root W hR hN (hr.below hW)
  have H26 : Hid (∀ W, Below w.heap.size w W → Calls Try.prog 26 #[.agg #[.int .i64 R, .int .i64 N, s], .int .i64 root] W (LaQ R N l root W)) := fun W hW => rla_any R N l s root W hR hN (hr.below hW) hf
  obtain ⟨ad, cap, hform⟩ := rd3_slice hr
  obtain ⟨L, hL⟩ : ∃ L, l.length = L := ⟨_, rfl⟩
  rw [hL] at hform
  subst hform
  have HB0 := Lib.hid (below_alloc w (.cells #[.int .i64 R, .int .i64 N, .slice ad L cap] 27))
  have HX0 : Hid ((w.alloc (.cells #[.int .i64 R, .int .i64 N, .slice ad L cap] 27)).heap[w.heap.size]? = some (.cells #[.int .i64 R, .int .i64 N, .slice ad L cap] 27 (0, 0))) := heap_alloc_new _ _
  rw [hL] at h
  clear hr hL hf
  go_enter Try.func4, Try.ntmps4
  go_wp2_with fail
  go_at_call 24
  refine (large_any R N ad L cap _).mono ?_
  rintro e w1 ⟨rfl, hb⟩
  rw [h]
  have HB1 := Lib.hid (below_then HB0.out hb)
  have HX1 := Lib.hid ((hb.block _ (lt_block HX0.out)).trans HX0.out)
  have q0 : w1.cell? ⟨w.heap.size, 0, none⟩ = some (.int .i64 R) := cell_of HX1.out rfl
  have q1 : w1.cell? ⟨w.heap.size, 1, none⟩ = some (.int .i64 N) := cell_of HX1.out rfl
  have q2 : w1.cell? ⟨w.heap.size, 2, none⟩ = some (.slice ad L cap) := cell_of HX1.out rfl
  clear hb HX0 HB0 h
  go_wp2_with fail
  go_at_call 25
  refine (H25.out _ HB1.out).mono ?_
  rintro e w2 ⟨p, er, v2, rfl, hrd, hk, hb⟩
  have HK := Lib.hid hk
  clear q0 q1 q2
  have HB2 := Lib.hid (below_then HB1.out hb)
  have HX2 := Lib.hid ((hb.block _ (lt_block HX1.out)).trans HX1.out)
  have q0 : w2.cell? ⟨w.heap.size, 0, none⟩ = some (.int .i64 R) := cell_of HX2.out rfl
  have q1 : w2.cell? ⟨w.heap.size, 1, none⟩ = some (.int .i64 N) := cell_of HX2.out rfl
  have q2 : w2.cell? ⟨w.heap.size, 2, none⟩ = some (.slice ad L cap) := cell_of HX2.out rfl
  have HP2 := Lib.hid hrd
  obtain ⟨a2, c2, hf2⟩ := hrd.form
  subst hf2
  clear hrd hk hb H25 HB1 HX1
  go_wp2_with fail
  go_at_call 26
  refine (H26.out _ HB2.out).mono ?_
  rintro e w3 ⟨p', er', v3, rfl, hrd, hk, hb⟩
  obtain ⟨hpp, hkk⟩ := HK.out.unique hk
  subst hpp
  subst hkk
  clear q0 q1 q2
  have HB3 := Lib.hid (below_then HB2.out hb)
  have HP3 := Lib.hid (HP2.out.below hb)
  have HQ3 := Lib.hid hrd
  obtain ⟨a3, c3, hf3⟩ := hrd.form
  subst hf3
  clear hrd hk hb H26 HB2 HX2 HP2 HK
  have e1 : (er == er) = true := by simp
  go_wp2_with fail
  go_at_call 17
  refine (awake_any _).mono ?_
  rintro e w4 ⟨rfl, hb⟩
  have HB4 := Lib.hid (below_then HB3.out hb)
  have HP4 := Lib.hid (HP3.out.below hb)
  have HQ4 := Lib.hid (HQ3.out.below hb)
  clear hb HP3 HQ3 HB3
  go_wp2_with fail
  go_at_call 27
  refine (sameA_any p _ _ _ HP4.out HQ4.out).mono ?_
  rintro e w5 ⟨rfl, hb⟩
  have HB5 := Lib.hid (below_then HB4.out hb)
  clear hb HP4 HQ4 HB4
  go_wp2
  go_ret
  exact ⟨rfl, HB5.out⟩
theorem lal_walk (R N : Int) (l : List E) (s : Value) (root : Int) (w : World) (hR : I64 R) (hN : I64 N) (hr : Rd3 w s l) (hf : FitT l) (hx : I64 root) :
    Calls Try.prog 4 #[.agg #[.int .i64 R, .int .i64 N, s], .int .i64 root] w fun e w' => e = .returned (.bool true) ∧ Below w.heap.size w w' := by
  cases hl : lgF R N l.length
  · exact lal_ok R N l s root w hR hN hr hf hl
  · exact lal_big R N l s root w hr hl
end Go.Proofs.Ytmbogobebllheaa
