/-
  The examples' answer.
-/
import Derived.Test.YtegponbmelgngaaCvK
import Derived.Test.YtegponbmelgngaaTrMath
namespace Go.Proofs.Ytegponbmelgngaa
open Go.RowKit
set_option linter.unusedSimpArgs false
set_option linter.unusedVariables false
set_option maxHeartbeats 4000000
set_option maxRecDepth 100000

/-- lists of one, two, three, four prefixes in a block of their own -/
theorem rd_new (W : World) (cs : Array Value) (l : List PP) {b : Nat} (hb : b = W.heap.size) (h : cs.toList = flat l) (n : Nat) (hn : n = l.length) : Rd (W.alloc (.cells cs 28)) (.slice (some ⟨b, 0, none⟩) n n) l := by
  subst hb hn
  refine ⟨_, _, rfl, fun k x hk => ⟨W.heap.size, 0, rfl, by simp, ?_, ?_⟩⟩
  · have g := World.news_of_block (heap_alloc_new W (.cells cs 28)) (k * 2) _ (by rw [h]; exact (flat_get l k x hk).1)
    rwa [Addr.add_lit] at g
  · have g := World.news_of_block (heap_alloc_new W (.cells cs 28)) (k * 2 + 1) _ (by rw [h]; exact (flat_get l k x hk).2)
    rwa [Addr.add_lit] at g
theorem ex_normal : CM.Nrm (mem [(167772416, 24), (167772160, 24), (167772167, 32)]) [(167772160, 9)] := by
  refine nrm_list ⟨by decide, by decide, by decide, ?_, by decide⟩ fun y => ?_
  · intro x hx y hy z h1 h2
    simp only [List.mem_cons, List.not_mem_nil, or_false] at hx hy
    rcases hx with rfl; rcases hy with rfl; rfl
  · rw [Bool.eq_iff_iff, mem_iff, CM.setOf_iff]
    unfold CM.inB blk
    have v1 : V (167772416, 24) = true := by decide
    have v2 : V (167772160, 24) = true := by decide
    have v3 : V (167772167, 32) = true := by decide
    simp [v1, v2, v3]
    omega
theorem ex_subt : CM.Nrm (fun y => (mem [(167772160, 30)] y && !mem [(167772161, 32)] y)) [(167772160, 0), (167772162, 1)] := by
  refine nrm_list ⟨by decide, by decide, by decide, ?_, by decide⟩ fun y => ?_
  · intro x hx y hy z h1 h2
    simp only [List.mem_cons, List.not_mem_nil, or_false] at hx hy
    unfold CM.inB at h1 h2
    rcases hx with rfl | rfl <;> rcases hy with rfl | rfl <;> first | rfl | (exfalso; simp at h1 h2; omega)
  · have v1 : V (167772160, 30) = true := by decide
    have v2 : V (167772161, 32) = true := by decide
    have e1 : mem [(167772160, 30)] y = decide (167772160 ≤ y ∧ y < 167772164) := by
      rw [Bool.eq_iff_iff, mem_iff]; unfold CM.inB blk; simp [v1]
    have e2 : mem [(167772161, 32)] y = decide (167772161 ≤ y ∧ y < 167772162) := by
      rw [Bool.eq_iff_iff, mem_iff]; unfold CM.inB blk; simp [v2]
    rw [e1, e2, Bool.eq_iff_iff, CM.setOf_iff]
    unfold CM.inB
    simp
    omega
theorem ex_sum {lo hi : Nat} (h : Ends [(167772160, 24), (167772928, 24)] lo hi) : sumP lo hi = (167772160, 22) := by
  have v1 : V (167772160, 24) = true := by decide
  have v2 : V (167772928, 24) = true := by decide
  have e : ∀ y, mem [(167772160, 24), (167772928, 24)] y = true ↔ (167772160 ≤ y ∧ y < 167772416) ∨ (167772928 ≤ y ∧ y < 167773184) := fun y => by
    rw [mem_iff]; unfold CM.inB blk; simp [v1, v2]
  obtain ⟨h1, h2, h3⟩ := h
  rw [e] at h1 h2
  have g1 := h3 167772160 ((e _).2 (by omega))
  have g2 := h3 167773183 ((e _).2 (by omega))
  obtain rfl : lo = 167772160 := by omega
  obtain rfl : hi = 167773183 := by omega
  decide
theorem fit3 {l : List PP} (h : ∀ x ∈ l, x.1 < 4294967296 ∧ -9223372036854775808 ≤ x.2 ∧ x.2 ≤ 9223372036854775807) : FitL l := h
theorem awake5_any (w : World) : Calls Try.prog 17 #[] w fun e w' => e = .returned (.bool true) ∧ Below w.heap.size w w' := by
  have HN : Hid (∀ W v1, Rd W v1 [(167772416, 24), (167772160, 24), (167772167, 32)] → Calls Try.prog 21 #[v1] W fun e w' => ∃ v, e = .returned v ∧ Rd w' v [(167772160, 23)] ∧ Below W.heap.size W w') := fun W v1 h => by
    refine (normal_any _ v1 W (by simp [Big]) (fit3 (by decide)) h).mono ?_
    rintro e w' ⟨v, B, rfl, hB, hr, hb⟩
    rw [hB.unique ex_normal] at hr
    exact ⟨v, rfl, hr, hb⟩
  have HR : Hid (∀ W, Calls Try.prog 33 #[.int .u32 167772161, .int .u32 167772166] W fun e w' => ∃ v, e = .returned (.tuple #[v, .int .i64 0]) ∧ Rd w' v [(167772161, 32), (167772162, 31), (167772164, 31), (167772166, 32)] ∧ Below W.heap.size W w') := fun W => by
    refine (range_any 167772161 167772166 (by decide) (by decide) W (by decide)).mono ?_
    rintro e w' ⟨v, B, rfl, hB, hr, hb⟩
    rw [hB.unique ex_range] at hr
    exact ⟨v, rfl, hr, hb⟩
  have HS : Hid (∀ W v1, Rd W v1 [(167772160, 24), (167772928, 24)] → Calls Try.prog 18 #[v1] W fun e w' => e = .returned (.tuple #[.agg #[.int .u32 167772160, .int .i64 22], .bool true]) ∧ Below W.heap.size W w') := fun W v1 h => by
    have hne : ascd [(167772160, 24), (167772928, 24)] ≠ [] := fun he => by
      have := (ascd_mem [(167772160, 24), (167772928, 24)] (167772160, 24)).2 ⟨by simp, by decide⟩
      rw [he] at this; cases this
    refine (summary_some _ v1 W (by simp [Big]) (fit3 (by decide)) h hne).mono ?_
    rintro e w' ⟨lo, hi, rfl, hE, hb⟩
    rw [ex_sum hE]
    exact ⟨rfl, hb⟩
  have HD : Hid (∀ W v1 v2, Rd W v1 [(167772160, 30)] → Rd W v2 [(167772161, 32)] → Calls Try.prog 31 #[v1, v2] W fun e w' => ∃ ad cap, e = .returned (.slice ad 2 cap) ∧ Below W.heap.size W w') := fun W v1 v2 h1 h2 => by
    refine (subt_any _ _ v1 v2 W (by simp [Big]) (by simp [Big]) (fit3 (by decide)) (fit3 (by decide)) h1 h2).mono ?_
    rintro e w' ⟨v, B, rfl, hB, hr, hb⟩
    rw [hB.unique ex_subt] at hr
    obtain ⟨ad, cap, rfl⟩ := rdP_slice hr
    exact ⟨ad, cap, rfl, hb⟩
  have HE : Hid (∀ W v1 v2 l, Big l → Rd W v1 l → Rd W v2 l → Calls Try.prog 20 #[v1, v2] W fun e w' => e = .returned (.bool true) ∧ Below W.heap.size W w') := fun W v1 v2 l hl h1 h2 => by
    refine (sameP_any l l v1 v2 W hl h1 h2).mono ?_
    rintro e w' ⟨rfl, hb⟩
    exact ⟨by simp, hb⟩
  go_enter Try.func17, Try.ntmps17
  go_wp2_with fail
  refine (HN.out _ _ (rd_new w _ _ rfl (by simp [flat, encP]) 3 rfl)).mono ?_
  rintro e w1 ⟨v1, rfl, hr, hb⟩
  have B1 := Lib.hid (below_then (below_alloc _ _) hb)
  have R1 := Lib.hid hr
  clear hr hb
  go_wp2_with fail
  refine (HR.out _).mono ?_
  rintro e w2 ⟨v2, rfl, hr, hb⟩
  have B2 := Lib.hid (below_then B1.out hb)
  have R2 := Lib.hid (And.intro (R1.out.below hb) hr)
  clear hr hb
  go_wp2_with fail
  refine (HS.out _ _ (rd_new w2 _ _ rfl (by simp [flat, encP]) 2 rfl)).mono ?_
  rintro e w3 ⟨rfl, hb⟩
  have B3 := Lib.hid (below_then B2.out (below_then (below_alloc _ _) hb))
  have R3 := Lib.hid (And.intro (R2.out.1.below (below_then (below_alloc _ _) hb)) (R2.out.2.below (below_then (below_alloc _ _) hb)))
  clear hb
  go_wp2_with fail
  have B3a := Lib.hid (below_alloc w3 (.cells #[.int .u32 167772160, .int .i64 22] 28))
  have q0 : (w3.alloc (.cells #[.int .u32 167772160, .int .i64 22] 28)).cell? ⟨w3.heap.size, 0, none⟩ = some (.int .u32 167772160) := by simp
  have q1 : (w3.alloc (.cells #[.int .u32 167772160, .int .i64 22] 28)).cell? ⟨w3.heap.size, 1, none⟩ = some (.int .i64 22) := by simp
  have hz4 : (w3.alloc (.cells #[.int .u32 167772160, .int .i64 22] 28)).heap.size = w3.heap.size + 1 := by simp
  have R4 := Lib.hid (And.intro (R3.out.1.below B3a.out) (R3.out.2.below B3a.out))
  have B4 := Lib.hid (below_then B3.out B3a.out)
  obtain ⟨q, hq⟩ : ∃ q, w3.heap.size = q := ⟨_, rfl⟩
  rw [hq] at q0 q1 hz4 ⊢
  clear B3a
  generalize w3.alloc (.cells #[.int .u32 167772160, .int .i64 22] 28) = w4 at *
  have hq4 : q < w4.heap.size := by omega
  clear hq R3 B3 R2
  refine (HD.out _ _ _ ((rd_new w4 #[.int .u32 167772160, .int .i64 30] [(167772160, 30)] (b := q + 1) hz4.symm (by simp [flat, encP]) 1 rfl).below (below_alloc _ _)) (rd_new (w4.alloc (.cells #[.int .u32 167772160, .int .i64 30] 28)) #[.int .u32 167772161, .int .i64 32] [(167772161, 32)] (b := q + 1 + 1) (by simp; omega) (by simp [flat, encP]) 1 rfl)).mono ?_
  rintro e w5 ⟨ad5, cap5, rfl, hb⟩
  have hb5 := below_then (below_then (below_alloc _ _) (below_alloc _ _)) hb
  have B5 := Lib.hid (below_then B4.out hb5)
  have R5 := Lib.hid (And.intro (R4.out.1.below hb5) (R4.out.2.below hb5))
  have q0 := carry hb5 q0
  have q1 := carry hb5 q1
  clear hb hb5 R4 hq4 hz4
  go_wp2_with fail
  refine (HE.out _ _ _ _ (by simp [Big]) (R5.out.1.below (below_alloc _ _)) (rd_new w5 #[.int .u32 167772160, .int .i64 23] [(167772160, 23)] rfl (by simp [flat, encP]) 1 rfl)).mono ?_
  rintro e w6 ⟨rfl, hb⟩
  have hb6 := below_then (below_alloc _ _) hb
  have B6 := Lib.hid (below_then B5.out hb6)
  have R6 := Lib.hid (R5.out.2.below hb6)
  have q0 := carry hb6 q0
  have q1 := carry hb6 q1
  clear hb hb6
  go_wp2_with fail
  refine (HE.out _ _ _ _ (by simp [Big]) (R6.out.below (below_alloc _ _)) (rd_new w6 #[.int .u32 167772161, .int .i64 32, .int .u32 167772162, .int .i64 31, .int .u32 167772164, .int .i64 31, .int .u32 167772166, .int .i64 32] _ rfl (by simp [flat, encP]) 4 rfl)).mono ?_
  rintro e w7 ⟨rfl, hb⟩
  have hb7 := below_then (below_alloc _ _) hb
  have B7 := Lib.hid (below_then B6.out hb7)
  have q0 := carry hb7 q0
  have q1 := carry hb7 q1
  clear hb hb7
  go_wp2
  go_ret
  exact ⟨rfl, B7.out⟩
end Go.Proofs.Ytegponbmelgngaa
