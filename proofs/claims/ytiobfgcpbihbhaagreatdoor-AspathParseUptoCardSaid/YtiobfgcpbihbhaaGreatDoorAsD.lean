/-
  The walks of mayFollow and Check.
-/
import Derived.Test.YtiobfgcpbihbhaaGreatDoorAsC
import Derived.BigQuiet
import Derived.Deep.RegionHeld3
namespace Go.Proofs.YtiobfgcpbihbhaaGreatDoor
open Go.RowKit P
set_option linter.unusedSimpArgs false
set_option linter.unusedVariables false
set_option maxHeartbeats 4000000
set_option maxRecDepth 100000
theorem mem1 (a k : Int) : decide (a ∈ [k]) = decide (a = k) := by simp
theorem may_any (k : Int) (ns : List Int) (u : Value) (k2 : Int) (ms : List Int) (u2 : Value) (w : World) (hu : RdI w u ns) (hu2 : RdI w u2 ms) :
    Calls Tryz.prog 40 #[.agg #[.int .i64 k, u], .agg #[.int .i64 k2, u2]] w fun e w' => e = .returned (.bool (mayF ⟨k, ns⟩ ⟨k2, ms⟩)) ∧ Below w.heap.size w w' := by
  have HM : Hid (mayF ⟨k, ns⟩ ⟨k2, ms⟩ = (!(isConf k && !isConf k2) && (!(isSeq k && decide (k2 = k)) || decide (ms.length = 255)))) := rfl
  generalize mayF ⟨k, ns⟩ ⟨k2, ms⟩ = q at *
  obtain ⟨ad, cap, rfl⟩ := hu.form
  obtain ⟨ad2, cap2, rfl⟩ := hu2.form
  generalize ns.length = L at *
  generalize ms.length = L2 at *
  have HB0 : Hid (Below w.heap.size w ((w.alloc (.cells #[.int .i64 k, .slice ad L cap] 46)).alloc (.cells #[.int .i64 k2, .slice ad2 L2 cap2] 46))) := below_then (below_alloc _ _) (below_alloc _ _)
  have HXS0 : Hid (((w.alloc (.cells #[.int .i64 k, .slice ad L cap] 46)).alloc (.cells #[.int .i64 k2, .slice ad2 L2 cap2] 46)).heap[w.heap.size]? = some (.cells #[.int .i64 k, .slice ad L cap] 46 (0, 0))) := ((below_alloc _ _).block _ (by simp)).trans (heap_alloc_new _ _)
  have HXB0 : Hid (((w.alloc (.cells #[.int .i64 k, .slice ad L cap] 46)).alloc (.cells #[.int .i64 k2, .slice ad2 L2 cap2] 46)).heap[w.heap.size + 1]? = some (.cells #[.int .i64 k2, .slice ad2 L2 cap2] 46 (0, 0))) := heap_at (by simp)
  clear hu hu2
  go_enter Tryz.func40, Tryz.ntmps40
  have HR0 : Hid (RdI (((w.alloc (.cells #[.int .i64 k, .slice ad L cap] 46)).alloc (.cells #[.int .i64 k2, .slice ad2 L2 cap2] 46)).alloc (.cells #[.int .i64 3, .int .i64 4] 3)) (.slice (some ⟨w.heap.size + 1 + 1, 0, none⟩) 2 2) [3, 4]) := rdi_at _ [3, 4] 3 _ (by simp) _ rfl _ rfl (by simp)
  have HBa0 : Hid (Below w.heap.size w (((w.alloc (.cells #[.int .i64 k, .slice ad L cap] 46)).alloc (.cells #[.int .i64 k2, .slice ad2 L2 cap2] 46)).alloc (.cells #[.int .i64 3, .int .i64 4] 3))) := below_then HB0.out (below_alloc _ _)
  have HXSa0 : Hid ((((w.alloc (.cells #[.int .i64 k, .slice ad L cap] 46)).alloc (.cells #[.int .i64 k2, .slice ad2 L2 cap2] 46)).alloc (.cells #[.int .i64 3, .int .i64 4] 3)).heap[w.heap.size]? = some (.cells #[.int .i64 k, .slice ad L cap] 46 (0, 0))) := ((below_alloc _ _).block _ (lt_block HXS0.out)).trans HXS0.out
  have HXBa0 : Hid ((((w.alloc (.cells #[.int .i64 k, .slice ad L cap] 46)).alloc (.cells #[.int .i64 k2, .slice ad2 L2 cap2] 46)).alloc (.cells #[.int .i64 3, .int .i64 4] 3)).heap[w.heap.size + 1]? = some (.cells #[.int .i64 k2, .slice ad2 L2 cap2] 46 (0, 0))) := ((below_alloc _ _).block _ (lt_block HXB0.out)).trans HXB0.out
  go_wp2_with fail
  go_at_call 44
  refine (isOf_any k (.slice ad L cap) _ [3, 4] _ HR0.out rfl).mono ?_
  rintro e w1 ⟨rfl, hb⟩
  have HB1 := Lib.hid (below_then HBa0.out hb)
  have HXS1 := Lib.hid ((hb.block _ (lt_block HXSa0.out)).trans HXSa0.out)
  have HXB1 := Lib.hid ((hb.block _ (lt_block HXBa0.out)).trans HXBa0.out)
  clear hb HR0 HBa0 HXSa0 HXBa0 HB0 HXS0 HXB0
  rw [memConf]
  cases hc : isConf k with
  | false =>
    have q0 : w1.cell? ⟨w.heap.size, 0, none⟩ = some (.int .i64 k) := cell_of HXS1.out rfl
    have q1 : w1.cell? ⟨w.heap.size, 1, none⟩ = some (.slice ad L cap) := cell_of HXS1.out rfl
    have q2 : w1.cell? ⟨w.heap.size + 1, 0, none⟩ = some (.int .i64 k2) := cell_of HXB1.out rfl
    have q3 : w1.cell? ⟨w.heap.size + 1, 1, none⟩ = some (.slice ad2 L2 cap2) := cell_of HXB1.out rfl
    have HR1 : Hid (RdI (w1.alloc (.cells #[.int .i64 2, .int .i64 3] 3)) (.slice (some ⟨w1.heap.size, 0, none⟩) 2 2) [2, 3]) := rdi_at _ [2, 3] 3 _ (by simp) _ rfl _ rfl (by simp)
    have HBa1 : Hid (Below w.heap.size w (w1.alloc (.cells #[.int .i64 2, .int .i64 3] 3))) := below_then HB1.out (below_alloc _ _)
    have HXSa1 : Hid ((w1.alloc (.cells #[.int .i64 2, .int .i64 3] 3)).heap[w.heap.size]? = some (.cells #[.int .i64 k, .slice ad L cap] 46 (0, 0))) := ((below_alloc _ _).block _ (lt_block HXS1.out)).trans HXS1.out
    have HXBa1 : Hid ((w1.alloc (.cells #[.int .i64 2, .int .i64 3] 3)).heap[w.heap.size + 1]? = some (.cells #[.int .i64 k2, .slice ad2 L2 cap2] 46 (0, 0))) := ((below_alloc _ _).block _ (lt_block HXB1.out)).trans HXB1.out
    go_wp2_with fail
    go_at_call 44
    refine (isOf_any k (.slice ad L cap) _ [2, 3] _ HR1.out rfl).mono ?_
    rintro e w2 ⟨rfl, hb⟩
    have HB2 := Lib.hid (below_then HBa1.out hb)
    have HXS2 := Lib.hid ((hb.block _ (lt_block HXSa1.out)).trans HXSa1.out)
    have HXB2 := Lib.hid ((hb.block _ (lt_block HXBa1.out)).trans HXBa1.out)
    clear hb HR1 HBa1 HXSa1 HXBa1 HB1 HXS1 HXB1 q0 q1 q2 q3
    rw [memSeq]
    cases hs : isSeq k with
    | false =>
      have HE : Hid (q = true) := by show _ = _; rw [HM.out, hc, hs]; rfl
      clear HM hs
      have q0 : w2.cell? ⟨w.heap.size, 0, none⟩ = some (.int .i64 k) := cell_of HXS2.out rfl
      have q1 : w2.cell? ⟨w.heap.size, 1, none⟩ = some (.slice ad L cap) := cell_of HXS2.out rfl
      have q2 : w2.cell? ⟨w.heap.size + 1, 0, none⟩ = some (.int .i64 k2) := cell_of HXB2.out rfl
      have q3 : w2.cell? ⟨w.heap.size + 1, 1, none⟩ = some (.slice ad2 L2 cap2) := cell_of HXB2.out rfl
      go_wp2
      go_ret
      exact ⟨by rw [HE.out] <;> rfl, HB2.out⟩
    | true =>
      have q0 : w2.cell? ⟨w.heap.size, 0, none⟩ = some (.int .i64 k) := cell_of HXS2.out rfl
      have q1 : w2.cell? ⟨w.heap.size, 1, none⟩ = some (.slice ad L cap) := cell_of HXS2.out rfl
      have q2 : w2.cell? ⟨w.heap.size + 1, 0, none⟩ = some (.int .i64 k2) := cell_of HXB2.out rfl
      have q3 : w2.cell? ⟨w.heap.size + 1, 1, none⟩ = some (.slice ad2 L2 cap2) := cell_of HXB2.out rfl
      have HR2 : Hid (RdI (w2.alloc (.cells #[.int .i64 k] 3)) (.slice (some ⟨w2.heap.size, 0, none⟩) 1 1) [k]) := rdi_at _ [k] 3 _ (by simp) _ rfl _ rfl (by simp)
      have HBa2 : Hid (Below w.heap.size w (w2.alloc (.cells #[.int .i64 k] 3))) := below_then HB2.out (below_alloc _ _)
      have HXSa2 : Hid ((w2.alloc (.cells #[.int .i64 k] 3)).heap[w.heap.size]? = some (.cells #[.int .i64 k, .slice ad L cap] 46 (0, 0))) := ((below_alloc _ _).block _ (lt_block HXS2.out)).trans HXS2.out
      have HXBa2 : Hid ((w2.alloc (.cells #[.int .i64 k] 3)).heap[w.heap.size + 1]? = some (.cells #[.int .i64 k2, .slice ad2 L2 cap2] 46 (0, 0))) := ((below_alloc _ _).block _ (lt_block HXB2.out)).trans HXB2.out
      go_wp2_with fail
      go_at_call 44
      refine (isOf_any k2 (.slice ad2 L2 cap2) _ [k] _ HR2.out rfl).mono ?_
      rintro e w3 ⟨rfl, hb⟩
      have HB3 := Lib.hid (below_then HBa2.out hb)
      have HXS3 := Lib.hid ((hb.block _ (lt_block HXSa2.out)).trans HXSa2.out)
      have HXB3 := Lib.hid ((hb.block _ (lt_block HXBa2.out)).trans HXBa2.out)
      clear hb HR2 HBa2 HXSa2 HXBa2 HB2 HXS2 HXB2 q0 q1 q2 q3
      rw [mem1]
      by_cases he : k2 = k
      · rw [decide_eq_true he]
        have q0 : w3.cell? ⟨w.heap.size, 0, none⟩ = some (.int .i64 k) := cell_of HXS3.out rfl
        have q1 : w3.cell? ⟨w.heap.size, 1, none⟩ = some (.slice ad L cap) := cell_of HXS3.out rfl
        have q2 : w3.cell? ⟨w.heap.size + 1, 0, none⟩ = some (.int .i64 k2) := cell_of HXB3.out rfl
        have q3 : w3.cell? ⟨w.heap.size + 1, 1, none⟩ = some (.slice ad2 L2 cap2) := cell_of HXB3.out rfl
        by_cases hl : L2 = 255
        · have n1 : ((L2 : Int) == 255) = true := by simp; omega
          have n1' : (L2 == 255) = true := by simp; omega
          have HE : Hid (q = true) := by show _ = _; rw [HM.out, hc, hs, decide_eq_true he, decide_eq_true hl]; rfl
          clear HM hs he
          go_wp2
          go_ret
          exact ⟨by rw [HE.out] <;> rfl, HB3.out⟩
        · have n1 : ((L2 : Int) == 255) = false := by simp; omega
          have n1' : (L2 == 255) = false := by simp; omega
          have HE : Hid (q = false) := by show _ = _; rw [HM.out, hc, hs, decide_eq_true he, decide_eq_false hl]; rfl
          clear HM hs he
          go_wp2
          go_ret
          exact ⟨by rw [HE.out] <;> rfl, HB3.out⟩
      · rw [decide_eq_false he]
        have q0 : w3.cell? ⟨w.heap.size, 0, none⟩ = some (.int .i64 k) := cell_of HXS3.out rfl
        have q1 : w3.cell? ⟨w.heap.size, 1, none⟩ = some (.slice ad L cap) := cell_of HXS3.out rfl
        have q2 : w3.cell? ⟨w.heap.size + 1, 0, none⟩ = some (.int .i64 k2) := cell_of HXB3.out rfl
        have q3 : w3.cell? ⟨w.heap.size + 1, 1, none⟩ = some (.slice ad2 L2 cap2) := cell_of HXB3.out rfl
        have HE : Hid (q = true) := by show _ = _; rw [HM.out, hc, hs, decide_eq_false he]; rfl
        clear HM hs he
        go_wp2
        go_ret
        exact ⟨by rw [HE.out] <;> rfl, HB3.out⟩
  | true =>
    have q0 : w1.cell? ⟨w.heap.size, 0, none⟩ = some (.int .i64 k) := cell_of HXS1.out rfl
    have q1 : w1.cell? ⟨w.heap.size, 1, none⟩ = some (.slice ad L cap) := cell_of HXS1.out rfl
    have q2 : w1.cell? ⟨w.heap.size + 1, 0, none⟩ = some (.int .i64 k2) := cell_of HXB1.out rfl
    have q3 : w1.cell? ⟨w.heap.size + 1, 1, none⟩ = some (.slice ad2 L2 cap2) := cell_of HXB1.out rfl
    have HR1 : Hid (RdI (w1.alloc (.cells #[.int .i64 3, .int .i64 4] 3)) (.slice (some ⟨w1.heap.size, 0, none⟩) 2 2) [3, 4]) := rdi_at _ [3, 4] 3 _ (by simp) _ rfl _ rfl (by simp)
    have HBa1 : Hid (Below w.heap.size w (w1.alloc (.cells #[.int .i64 3, .int .i64 4] 3))) := below_then HB1.out (below_alloc _ _)
    have HXSa1 : Hid ((w1.alloc (.cells #[.int .i64 3, .int .i64 4] 3)).heap[w.heap.size]? = some (.cells #[.int .i64 k, .slice ad L cap] 46 (0, 0))) := ((below_alloc _ _).block _ (lt_block HXS1.out)).trans HXS1.out
    have HXBa1 : Hid ((w1.alloc (.cells #[.int .i64 3, .int .i64 4] 3)).heap[w.heap.size + 1]? = some (.cells #[.int .i64 k2, .slice ad2 L2 cap2] 46 (0, 0))) := ((below_alloc _ _).block _ (lt_block HXB1.out)).trans HXB1.out
    go_wp2_with fail
    go_at_call 44
    refine (isOf_any k2 (.slice ad2 L2 cap2) _ [3, 4] _ HR1.out rfl).mono ?_
    rintro e w2 ⟨rfl, hb⟩
    have HB2 := Lib.hid (below_then HBa1.out hb)
    have HXS2 := Lib.hid ((hb.block _ (lt_block HXSa1.out)).trans HXSa1.out)
    have HXB2 := Lib.hid ((hb.block _ (lt_block HXBa1.out)).trans HXBa1.out)
    clear hb HR1 HBa1 HXSa1 HXBa1 HB1 HXS1 HXB1 q0 q1 q2 q3
    rw [memConf]
    cases hc2 : isConf k2 with
    | false =>
      have HE : Hid (q = false) := by show _ = _; rw [HM.out, hc, hc2]; rfl
      clear HM hc hc2
      go_wp2
      go_ret
      exact ⟨by rw [HE.out] <;> rfl, HB2.out⟩
    | true =>
      have q0 : w2.cell? ⟨w.heap.size, 0, none⟩ = some (.int .i64 k) := cell_of HXS2.out rfl
      have q1 : w2.cell? ⟨w.heap.size, 1, none⟩ = some (.slice ad L cap) := cell_of HXS2.out rfl
      have q2 : w2.cell? ⟨w.heap.size + 1, 0, none⟩ = some (.int .i64 k2) := cell_of HXB2.out rfl
      have q3 : w2.cell? ⟨w.heap.size + 1, 1, none⟩ = some (.slice ad2 L2 cap2) := cell_of HXB2.out rfl
      have HR2 : Hid (RdI (w2.alloc (.cells #[.int .i64 2, .int .i64 3] 3)) (.slice (some ⟨w2.heap.size, 0, none⟩) 2 2) [2, 3]) := rdi_at _ [2, 3] 3 _ (by simp) _ rfl _ rfl (by simp)
      have HBa2 : Hid (Below w.heap.size w (w2.alloc (.cells #[.int .i64 2, .int .i64 3] 3))) := below_then HB2.out (below_alloc _ _)
      have HXSa2 : Hid ((w2.alloc (.cells #[.int .i64 2, .int .i64 3] 3)).heap[w.heap.size]? = some (.cells #[.int .i64 k, .slice ad L cap] 46 (0, 0))) := ((below_alloc _ _).block _ (lt_block HXS2.out)).trans HXS2.out
      have HXBa2 : Hid ((w2.alloc (.cells #[.int .i64 2, .int .i64 3] 3)).heap[w.heap.size + 1]? = some (.cells #[.int .i64 k2, .slice ad2 L2 cap2] 46 (0, 0))) := ((below_alloc _ _).block _ (lt_block HXB2.out)).trans HXB2.out
      go_wp2_with fail
      go_at_call 44
      refine (isOf_any k (.slice ad L cap) _ [2, 3] _ HR2.out rfl).mono ?_
      rintro e w3 ⟨rfl, hb⟩
      have HB3 := Lib.hid (below_then HBa2.out hb)
      have HXS3 := Lib.hid ((hb.block _ (lt_block HXSa2.out)).trans HXSa2.out)
      have HXB3 := Lib.hid ((hb.block _ (lt_block HXBa2.out)).trans HXBa2.out)
      clear hb HR2 HBa2 HXSa2 HXBa2 HB2 HXS2 HXB2 q0 q1 q2 q3
      rw [memSeq]
      cases hs : isSeq k with
      | false =>
        have HE : Hid (q = true) := by show _ = _; rw [HM.out, hc, hc2, hs]; rfl
        clear HM hs
        have q0 : w3.cell? ⟨w.heap.size, 0, none⟩ = some (.int .i64 k) := cell_of HXS3.out rfl
        have q1 : w3.cell? ⟨w.heap.size, 1, none⟩ = some (.slice ad L cap) := cell_of HXS3.out rfl
        have q2 : w3.cell? ⟨w.heap.size + 1, 0, none⟩ = some (.int .i64 k2) := cell_of HXB3.out rfl
        have q3 : w3.cell? ⟨w.heap.size + 1, 1, none⟩ = some (.slice ad2 L2 cap2) := cell_of HXB3.out rfl
        go_wp2
        go_ret
        exact ⟨by rw [HE.out] <;> rfl, HB3.out⟩
      | true =>
        have q0 : w3.cell? ⟨w.heap.size, 0, none⟩ = some (.int .i64 k) := cell_of HXS3.out rfl
        have q1 : w3.cell? ⟨w.heap.size, 1, none⟩ = some (.slice ad L cap) := cell_of HXS3.out rfl
        have q2 : w3.cell? ⟨w.heap.size + 1, 0, none⟩ = some (.int .i64 k2) := cell_of HXB3.out rfl
        have q3 : w3.cell? ⟨w.heap.size + 1, 1, none⟩ = some (.slice ad2 L2 cap2) := cell_of HXB3.out rfl
        have HR3 : Hid (RdI (w3.alloc (.cells #[.int .i64 k] 3)) (.slice (some ⟨w3.heap.size, 0, none⟩) 1 1) [k]) := rdi_at _ [k] 3 _ (by simp) _ rfl _ rfl (by simp)
        have HBa3 : Hid (Below w.heap.size w (w3.alloc (.cells #[.int .i64 k] 3))) := below_then HB3.out (below_alloc _ _)
        have HXSa3 : Hid ((w3.alloc (.cells #[.int .i64 k] 3)).heap[w.heap.size]? = some (.cells #[.int .i64 k, .slice ad L cap] 46 (0, 0))) := ((below_alloc _ _).block _ (lt_block HXS3.out)).trans HXS3.out
        have HXBa3 : Hid ((w3.alloc (.cells #[.int .i64 k] 3)).heap[w.heap.size + 1]? = some (.cells #[.int .i64 k2, .slice ad2 L2 cap2] 46 (0, 0))) := ((below_alloc _ _).block _ (lt_block HXB3.out)).trans HXB3.out
        go_wp2_with fail
        go_at_call 44
        refine (isOf_any k2 (.slice ad2 L2 cap2) _ [k] _ HR3.out rfl).mono ?_
        rintro e w4 ⟨rfl, hb⟩
        have HB4 := Lib.hid (below_then HBa3.out hb)
        have HXS4 := Lib.hid ((hb.block _ (lt_block HXSa3.out)).trans HXSa3.out)
        have HXB4 := Lib.hid ((hb.block _ (lt_block HXBa3.out)).trans HXBa3.out)
        clear hb HR3 HBa3 HXSa3 HXBa3 HB3 HXS3 HXB3 q0 q1 q2 q3
        rw [mem1]
        by_cases he : k2 = k
        · rw [decide_eq_true he]
          have q0 : w4.cell? ⟨w.heap.size, 0, none⟩ = some (.int .i64 k) := cell_of HXS4.out rfl
          have q1 : w4.cell? ⟨w.heap.size, 1, none⟩ = some (.slice ad L cap) := cell_of HXS4.out rfl
          have q2 : w4.cell? ⟨w.heap.size + 1, 0, none⟩ = some (.int .i64 k2) := cell_of HXB4.out rfl
          have q3 : w4.cell? ⟨w.heap.size + 1, 1, none⟩ = some (.slice ad2 L2 cap2) := cell_of HXB4.out rfl
          by_cases hl : L2 = 255
          · have n1 : ((L2 : Int) == 255) = true := by simp; omega
            have n1' : (L2 == 255) = true := by simp; omega
            have HE : Hid (q = true) := by show _ = _; rw [HM.out, hc, hc2, hs, decide_eq_true he, decide_eq_true hl]; rfl
            clear HM hs he
            go_wp2
            go_ret
            exact ⟨by rw [HE.out] <;> rfl, HB4.out⟩
          · have n1 : ((L2 : Int) == 255) = false := by simp; omega
            have n1' : (L2 == 255) = false := by simp; omega
            have HE : Hid (q = false) := by show _ = _; rw [HM.out, hc, hc2, hs, decide_eq_true he, decide_eq_false hl]; rfl
            clear HM hs he
            go_wp2
            go_ret
            exact ⟨by rw [HE.out] <;> rfl, HB4.out⟩
        · rw [decide_eq_false he]
          have q0 : w4.cell? ⟨w.heap.size, 0, none⟩ = some (.int .i64 k) := cell_of HXS4.out rfl
          have q1 : w4.cell? ⟨w.heap.size, 1, none⟩ = some (.slice ad L cap) := cell_of HXS4.out rfl
          have q2 : w4.cell? ⟨w.heap.size + 1, 0, none⟩ = some (.int .i64 k2) := cell_of HXB4.out rfl
          have q3 : w4.cell? ⟨w.heap.size + 1, 1, none⟩ = some (.slice ad2 L2 cap2) := cell_of HXB4.out rfl
          have HE : Hid (q = true) := by show _ = _; rw [HM.out, hc, hc2, hs, decide_eq_false he]; rfl
          clear HM hs he
          go_wp2
          go_ret
          exact ⟨by rw [HE.out] <;> rfl, HB4.out⟩
end Go.Proofs.YtiobfgcpbihbhaaGreatDoor
