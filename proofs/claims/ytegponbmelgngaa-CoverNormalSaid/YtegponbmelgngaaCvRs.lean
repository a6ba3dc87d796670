/-
  The reference's Summary.
-/
import Derived.Test.YtegponbmelgngaaCvRf
namespace Go.Proofs.Ytegponbmelgngaa
open Go.RowKit
set_option linter.unusedSimpArgs false
set_option linter.unusedVariables false
set_option maxHeartbeats 4000000
set_option maxRecDepth 100000

theorem rsumm_none (a : List PP) (v1 : Value) (w : World) (ha : Big a) (fa : FitL a) (hr1 : Rd w v1 a) (he : ∀ y, mem a y = false) :
    Calls Try.prog 19 #[v1] w fun e w' => e = .returned (.tuple #[.agg #[.int .u32 0, .int .i64 0], .bool false]) ∧ Below w.heap.size w w' := by
  have H1 : Hid (∀ W, Below w.heap.size w W → Calls Try.prog 63 #[v1] W fun e w' => ∃ ad cap, e = .returned (.slice ad 0 cap) ∧ Below W.heap.size W w') := fun W hW => by
    refine (spans_any merged_any a v1 W ha fa (hr1.below hW)).mono ?_
    rintro e w1 ⟨u1, O, rfl, s1, h1, l1, ⟨ad, cap, rfl, _⟩, hb1⟩
    have : O = [] := by
      cases O with
      | nil => rfl
      | cons x r =>
        have h2 := s1.ne x (by simp)
        have h3 := (s1.mem x.1).2 ⟨x, by simp, Nat.le_refl _, h2⟩
        rw [he] at h3; cases h3
    subst this
    exact ⟨ad, cap, rfl, hb1⟩
  clear hr1 fa ha he
  go_enter Try.func19, Try.ntmps19
  go_wp2_with fail
  go_at_call 63
  refine (H1.out _ (below_alloc _ _)).mono ?_
  rintro e w1 ⟨ad, cap, rfl, hb⟩
  have B1 := Lib.hid (below_then (below_alloc _ _) hb)
  have hz1 : w.heap.size < w1.heap.size := by have := hb.size; simp at this; omega
  obtain ⟨hc1, hf1⟩ := bcell hb
  have rc0 : w1.cell? ⟨w.heap.size, 0, none⟩ = some (.int .u32 0) := by rw [hc1 _ _ (by simp)]; simp
  have rc1 : w1.cell? ⟨w.heap.size, 1, none⟩ = some (.int .i64 0) := by rw [hc1 _ _ (by simp)]; simp
  clear hb
  go_wp2
  exact bodyPost_ret (v := .tuple #[.agg #[.int .u32 0, .int .i64 0], .bool false]) (by simp [results, Try.results19, go_sem, *]) rfl ⟨rfl, (B1.out.setCell (Nat.le_refl _) _).setCell (Nat.le_refl _) _⟩
theorem rsumm_some (a : List PP) (v1 : Value) (w : World) (ha : Big a) (fa : FitL a) (hr1 : Rd w v1 a) (lo hi : Nat) (he : Ends a lo hi) :
    Calls Try.prog 19 #[v1] w fun e w' => e = .returned (.tuple #[.agg #[.int .u32 ((sumP lo hi).1 : Int), .int .i64 (sumP lo hi).2], .bool true]) ∧ Below w.heap.size w w' := by
  have hlo := mem_lt (l := a) (fun p hp => (fa p hp).1) lo he.1
  have hhi := mem_lt (l := a) (fun p hp => (fa p hp).1) hi he.2.1
  have H1 : Hid (∀ W, Below w.heap.size w W → Calls Try.prog 63 #[v1] W fun e w' => ∃ ad cap n b off, e = .returned (.slice ad (n + 1) cap) ∧ n ≤ 4294967296 ∧ ad = some ⟨b, off, none⟩ ∧ w'.cell? ⟨b, off, none⟩ = some (.int .u64 (lo : Int)) ∧ w'.cell? ⟨b, off + n * 2 + 1, none⟩ = some (.int .u64 ((hi + 1 : Nat) : Int)) ∧ Below W.heap.size W w') := fun W hW => by
    refine (spans_any merged_any a v1 W ha fa (hr1.below hW)).mono ?_
    rintro e w1 ⟨u1, O, rfl, s1, h1, l1, ⟨ad, cap, rfl, hc⟩, hb1⟩
    obtain ⟨x, hx, hx1, hx2⟩ := (s1.mem lo).1 he.1
    obtain ⟨n, hn⟩ : ∃ n, O.length = n + 1 := ⟨O.length - 1, by have := List.length_pos_of_mem hx; omega⟩
    obtain ⟨f, hf⟩ : ∃ f, O[0]? = some f := ⟨_, List.getElem?_eq_getElem (by omega)⟩
    obtain ⟨z, hz⟩ : ∃ f, O[n]? = some f := ⟨_, List.getElem?_eq_getElem (by omega)⟩
    have hf1 := s1.ne f (List.mem_of_getElem? hf)
    have hz1 := s1.ne z (List.mem_of_getElem? hz)
    have ef : f.1 = lo := by
      have := (he.2.2 f.1 ((s1.mem f.1).2 ⟨f, List.mem_of_getElem? hf, Nat.le_refl _, hf1⟩)).1
      obtain ⟨i, hi⟩ := List.getElem?_of_mem hx
      have hil := (List.getElem?_eq_some_iff.1 hi).1
      by_cases e0 : i = 0
      · subst e0; rw [hf] at hi; cases hi; omega
      · have := List.pairwise_iff_getElem.1 s1.asc 0 i (by omega) hil (by omega)
        rw [(List.getElem?_eq_some_iff.1 hf).2, (List.getElem?_eq_some_iff.1 hi).2] at this
        omega
    have ez : z.2 = hi + 1 := by
      have h3 := (he.2.2 (z.2 - 1) ((s1.mem _).2 ⟨z, List.mem_of_getElem? hz, by omega, by omega⟩)).2
      obtain ⟨y, hy, hy1, hy2⟩ := (s1.mem hi).1 he.2.1
      obtain ⟨i, hi'⟩ := List.getElem?_of_mem hy
      have hil := (List.getElem?_eq_some_iff.1 hi').1
      by_cases e0 : i = n
      · subst e0; rw [hz] at hi'; cases hi'; omega
      · have := List.pairwise_iff_getElem.1 s1.asc i n hil (by omega) (by omega)
        rw [(List.getElem?_eq_some_iff.1 hz).2, (List.getElem?_eq_some_iff.1 hi').2] at this
        omega
    obtain ⟨b, off, rfl, _, c0, _⟩ := hc 0 f hf
    obtain ⟨b', off', e', _, _, c1⟩ := hc n z hz
    cases e'
    rw [ef] at c0
    rw [ez] at c1
    exact ⟨_, cap, n, b, off, by rw [hn], by unfold Big at ha; omega, rfl, by simpa using c0, c1, hb1⟩
  have KC : Hid (∀ n, n ≤ 32 → (M.topN lo n = M.topN hi n ↔ n ≤ M.comN lo hi)) := fun n hn => by rw [← M.keepN_eq_iff]; exact M.keep_com lo hi hlo hhi n hn
  have hcl := M.comN_le lo hi
  clear hr1 fa ha he
  go_enter Try.func19, Try.ntmps19
  go_wp2_with fail
  go_at_call 63
  refine (H1.out _ (below_alloc _ _)).mono ?_
  rintro e w1 ⟨ad, cap, n, b, off, rfl, hn, rfl, c0, c1, hb⟩
  have B1 := Lib.hid (below_then (below_alloc _ _) hb)
  have hz1 : w.heap.size < w1.heap.size := by have := hb.size; simp at this; omega
  obtain ⟨hc1, hf1⟩ := bcell hb
  have rc0 : w1.cell? ⟨w.heap.size, 0, none⟩ = some (.int .u32 0) := by rw [hc1 _ _ (by simp)]; simp
  have rc1 : w1.cell? ⟨w.heap.size, 1, none⟩ = some (.int .i64 0) := by rw [hc1 _ _ (by simp)]; simp
  have rf : ∀ o, w1.frozen? ⟨w.heap.size, o, none⟩ = false := fun o => by rw [hf1 _ _ (by simp)]; simp
  clear hb hc1 hf1
  have n0 : (0 : Int) ≤ (n : Int) := by omega
  go_wp2_with fail
  go_quiet (fail)
  go_wp2_with fail
  go_loopg [7] 32 (fun g s7 wr => ∃ (m q : Nat), m ≤ 32 ∧ M.comN lo hi ≤ m ∧ m ≤ g ∧ s7 = .int .i64 (m : Int) ∧ w1.drewN q = wr)
  case atStart => exact ⟨32, nq, by omega, by omega, by omega, rfl, rfl⟩
  case round =>
    obtain ⟨m, q, hm, hmc, hmg, rfl, rfl⟩ := hrel
    have kc := KC.out m hm
    have m0 : (0 : Int) ≤ 32 - (m : Int) := by omega
    have m1 : 32 - (m : Int) ≤ 32 := by omega
    have ecl : (lo : Int) / 2 ^ (32 - m) = ((M.topN lo m : Nat) : Int) := by unfold M.topN; push_cast; rfl
    have ech : (hi : Int) / 2 ^ (32 - m) = ((M.topN hi m : Nat) : Int) := by unfold M.topN; push_cast; rfl
    by_cases hEq : M.topN lo m = M.topN hi m
    · have hmm : m = M.comN lo hi := by have := kc.1 hEq; omega
      have hb : ((lo : Int) / 2 ^ (32 - m) != (hi : Int) / 2 ^ (32 - m)) = false := by rw [ecl, ech, hEq]; simp
      have HS : Hid (sumP lo hi = (M.keepN lo m, (m : Int))) := by show _ = _; unfold sumP; rw [← hmm]
      have hkl := M.keepN_le lo m
      have hkw : IntKind.u64.wrap ((lo : Int) / 2 ^ (32 - m) * 2 ^ (32 - m)) = ((M.keepN lo m : Nat) : Int) := by
        rw [show (lo : Int) / 2 ^ (32 - m) * 2 ^ (32 - m) = ((M.keepN lo m : Nat) : Int) by unfold M.keepN; push_cast; rfl]
        show ((M.keepN lo m : Nat) : Int) % 18446744073709551616 = _
        omega
      generalize M.keepN lo m = kk at *
      clear ecl ech hEq hmm kc
      go_wp2_with fail
      go_quiet (fail)
      go_wp2_with fail
      have r0 : (w1.drewN (q + nq)).cell? ⟨w.heap.size, 0, none⟩ = some (.int .u32 0) := rc0
      exact bodyPost_ret (v := .tuple #[.agg #[.int .u32 (kk : Int), .int .i64 (m : Int)], .bool true]) (by simp [results, Try.results19, go_sem, *]) rfl ⟨by rw [HS.out], ((below_drewN B1.out _).setCell (Nat.le_refl _) _).setCell (Nat.le_refl _) _⟩
    · have hb : ((lo : Int) / 2 ^ (32 - m) != (hi : Int) / 2 ^ (32 - m)) = true := by
        rw [ecl, ech]; simp; omega
      have hlt : M.comN lo hi < m := by
        rcases Nat.lt_or_ge (M.comN lo hi) m with h | h
        · exact h
        · exact absurd (kc.2 h) hEq
      clear ecl ech hEq kc
      go_wp2_with fail
      go_quiet (fail)
      go_wp2_with fail
      go_roundg (m - 1)
      case measure => omega
      case rel => exact ⟨m - 1, q + nq, by omega, by omega, Nat.le_refl _, by rw [show ((m - 1 : Nat) : Int) = (m : Int) - 1 by omega], rfl⟩
end Go.Proofs.Ytegponbmelgngaa
