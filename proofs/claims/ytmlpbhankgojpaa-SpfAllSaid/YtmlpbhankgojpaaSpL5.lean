/-
  The walk of the law All.
-/
import Derived.Test.YtmlpbhankgojpaaSpLv
import Derived.Test.YtmlpbhankgojpaaSpR2
namespace Go.Proofs.Ytmlpbhankgojpaa
open Go.RowKit HM GM SP
set_option linter.unusedSimpArgs false
set_option linter.unusedVariables false
set_option maxHeartbeats 4000000
set_option maxRecDepth 100000
theorem all_walk (R N : Int) (l : List E) (s : Value) (w : World) (hR : I64 R) (hN : I64 N) (hr : Rd3 w s l) (hf : FitT l) :
    Calls Try.prog 6 #[.agg #[.int .i64 R, .int .i64 N, s]] w fun e w' => e = .returned (.bool true) ∧ Below w.heap.size w w' := by
  have HAll : Hid (∀ W, Below w.heap.size w W → Calls Try.prog 21 #[.agg #[.int .i64 R, .int .i64 N, s]] W (AllQ R N l W)) := fun W hW => all_any R N l s W hR hN (hr.below hW)
  have HRef : Hid (∀ W, Below w.heap.size w W → Calls Try.prog 22 #[.agg #[.int .i64 R, .int .i64 N, s]] W (AllQ R N l W)) := fun W hW => rall_any R N l s W hR hN (hr.below hW) hf
  obtain ⟨ad, cap, hform⟩ := rd3_slice hr
  obtain ⟨L, hL⟩ : ∃ L, l.length = L := ⟨_, rfl⟩
  rw [hL] at hform
  subst hform
  clear hr hL
  have HB := Lib.hid (below_alloc w (.cells #[.int .i64 R, .int .i64 N, .slice ad L cap] 24))
  have HBX : Hid ((w.alloc (.cells #[.int .i64 R, .int .i64 N, .slice ad L cap] 24)).heap[w.heap.size]? = some (.cells #[.int .i64 R, .int .i64 N, .slice ad L cap] 24 (0, 0))) := heap_alloc_new _ _
  go_enter Try.func6, Try.ntmps6
  go_wp2_with fail
  go_at_call 21
  refine (HAll.out _ HB.out).mono ?_
  rintro e w1 ⟨rows, er, v, rfl, ht, hq, hb⟩
  have HQ := Lib.hid hq
  have HT := Lib.hid ht
  have HB1 := Lib.hid (below_then HB.out hb)
  have hbx := (hb.block _ (lt_block HBX.out)).trans HBX.out
  have q0 : w1.cell? ⟨w.heap.size, 0, none⟩ = some (.int .i64 R) := cell_of hbx rfl
  have q1 : w1.cell? ⟨w.heap.size, 1, none⟩ = some (.int .i64 N) := cell_of hbx rfl
  have q2 : w1.cell? ⟨w.heap.size, 2, none⟩ = some (.slice ad L cap) := cell_of hbx rfl
  obtain ⟨a1, c1, rfl⟩ := ht.form
  clear hq ht hb hbx HB HBX HAll
  go_wp2_with fail
  go_at_call 22
  refine (HRef.out _ HB1.out).mono ?_
  rintro e w2 ⟨rows', er', v', rfl, ht', hq', hb⟩
  obtain ⟨h1, h2⟩ := HQ.out.unique hq'
  subst h1
  subst h2
  have HT1 := Lib.hid (HT.out.below hb)
  have HT2 := Lib.hid ht'
  have HB2 := Lib.hid (below_then HB1.out hb)
  obtain ⟨a2, c2, rfl⟩ := ht'.form
  clear hq' ht' hb q0 q1 q2 HT HQ HRef
  go_wp2_with fail
  go_at_call 23
  refine (rows_any rows rows _ _ _ HT1.out HT2.out).mono ?_
  rintro e w3 ⟨he, hb⟩
  rw [decide_eq_true rfl] at he
  subst he
  have HB3 := Lib.hid (below_then HB2.out hb)
  clear hb
  go_wp2_with fail
  go_at_call 15
  refine (lives_any _).mono ?_
  rintro e w4 ⟨rfl, hb⟩
  have HB4 := Lib.hid (below_then HB3.out hb)
  clear hb
  go_wp2
  go_ret
  exact ⟨rfl, HB4.out⟩
end Go.Proofs.Ytmlpbhankgojpaa
