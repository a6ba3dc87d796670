/-
  The walk of the reference's Allowed.
-/
import Derived.Test.YtmlpbhankgojpaaGrC
namespace Go.Proofs.Ytmlpbhankgojpaa
open Go.RowKit GM Go.Sort
set_option linter.unusedSimpArgs false
set_option linter.unusedVariables false
set_option maxHeartbeats 4000000
set_option maxRecDepth 100000

theorem rallowed_bad (R N : Int) (s : Value) (e : E) (w : World) (hR : 0 ≤ R) (hN : 0 ≤ N) (hs : R + N ≤ 128) (hf : I64 e.1 ∧ I64 e.2.1) (hb : ¬ (isN R N e.1 = true ∧ isN R N e.2.1 = true)) :
    Calls Try.prog 33 #[.agg #[.int .i64 R, .int .i64 N, s], .agg #[.int .i64 e.1, .int .i64 e.2.1, .int .i64 e.2.2]] w fun en w' => en = .returned (.int .i64 5) ∧ Below w.heap.size w w' := by
  obtain ⟨a, b, c⟩ := e
  dsimp only at hb hf ⊢
  have HA : Hid (∀ W, Calls Try.prog 51 #[.agg #[.int .i64 R, .int .i64 N, s], .int .i64 a] W fun e w' => e = .returned (.bool (isN R N a)) ∧ Below W.heap.size W w') := fun W => node_any R N s a W hR hN hs hf.1
  have HB : Hid (∀ W, Calls Try.prog 51 #[.agg #[.int .i64 R, .int .i64 N, s], .int .i64 b] W fun e w' => e = .returned (.bool (isN R N b)) ∧ Below W.heap.size W w') := fun W => node_any R N s b W hR hN hs hf.2
  clear hf
  cases ha : isN R N a
  · rw [ha] at HA
    clear hb ha HB
    go_enter Try.func33, Try.ntmps33
    go_wp2_with (go_at_call 51; refine (HA.out _).mono ?_; rintro e w1 ⟨rfl, hb1⟩; have B1 := Lib.hid hb1; clear hb1)
    go_ret
    exact ⟨rfl, below_then (below_two _ _ _) B1.out⟩
  · cases hbb : isN R N b
    · rw [ha] at HA
      rw [hbb] at HB
      clear hb ha hbb
      go_enter Try.func33, Try.ntmps33
      go_wp2_with fail
      go_at_call 51
      refine (HA.out _).mono ?_
      rintro e w1 ⟨rfl, hb1⟩
      obtain ⟨hc1, hf1⟩ := bcell hb1
      have hz1 : w.heap.size + 1 < w1.heap.size := by have := hb1.size; simp at this; omega
      have B1 := Lib.hid hb1
      clear hb1
      go_wp2_with (go_at_call 51; refine (HB.out _).mono ?_; rintro e w2 ⟨rfl, hb2⟩; have B2 := Lib.hid hb2; clear hb2)
      go_ret
      exact ⟨rfl, below_then (below_then (below_two _ _ _) B1.out) B2.out⟩
    · exact absurd ⟨ha, hbb⟩ hb
theorem rallowed_in (R N : Int) (s : Value) (e : E) (w : World) (hR : 0 ≤ R) (hN : 0 ≤ N) (hs : R + N ≤ 128) (hf : I64 e.1 ∧ I64 e.2.1) (hb : isN R N e.1 = true ∧ isN R N e.2.1 = true) :
    Calls Try.prog 33 #[.agg #[.int .i64 R, .int .i64 N, s], .agg #[.int .i64 e.1, .int .i64 e.2.1, .int .i64 e.2.2]] w fun en w' => en = .returned (.int .i64 (alw R N e)) ∧ Below w.heap.size w w' := by
  have HAL : Hid (alw R N e = if e.1 = e.2.1 ∨ (R ≤ e.1 ∧ R ≤ e.2.1) ∨ costOK R e = false then 1 else 0) := by show _ = _; unfold alw; rw [if_pos hb]
  obtain ⟨a, b, c⟩ := e
  dsimp only at hb hf ⊢
  have HA : Hid (∀ W, Calls Try.prog 51 #[.agg #[.int .i64 R, .int .i64 N, s], .int .i64 a] W fun e w' => e = .returned (.bool true) ∧ Below W.heap.size W w') := fun W => by
    have := node_any R N s a W hR hN hs hf.1; rwa [hb.1] at this
  have HB : Hid (∀ W, Calls Try.prog 51 #[.agg #[.int .i64 R, .int .i64 N, s], .int .i64 b] W fun e w' => e = .returned (.bool true) ∧ Below W.heap.size W w') := fun W => by
    have := node_any R N s b W hR hN hs hf.2; rwa [hb.2] at this
  clear hb hf
  go_enter Try.func33, Try.ntmps33
  go_wp2_with fail
  go_at_call 51
  refine (HA.out _).mono ?_
  rintro e w1 ⟨rfl, hb1⟩
  obtain ⟨hc1, hf1⟩ := bcell hb1
  have hz1 : w.heap.size + 1 < w1.heap.size := by have := hb1.size; simp at this; omega
  have B1 := Lib.hid hb1
  clear hb1
  go_wp2_with fail
  go_at_call 51
  refine (HB.out _).mono ?_
  rintro e w2 ⟨rfl, hb2⟩
  obtain ⟨hc2, hf2⟩ := bcell hb2
  have c0 : w2.cell? ⟨w.heap.size, 0, none⟩ = some (.int .i64 R) := by rw [hc2 _ _ (by omega), hc1 _ _ (by simp; omega)]; simp [World.cell?_alloc_some]
  have d0 : w2.cell? ⟨w.heap.size + 1, 0, none⟩ = some (.int .i64 a) := by rw [hc2 _ _ (by omega), hc1 _ _ (by simp)]; simp
  have d1 : w2.cell? ⟨w.heap.size + 1, 1, none⟩ = some (.int .i64 b) := by rw [hc2 _ _ (by omega), hc1 _ _ (by simp)]; simp
  have d2 : w2.cell? ⟨w.heap.size + 1, 2, none⟩ = some (.int .i64 c) := by rw [hc2 _ _ (by omega), hc1 _ _ (by simp)]; simp
  have B2 := Lib.hid (below_then (below_then (below_two w (.cells #[.int .i64 R, .int .i64 N, s] 24) (.cells #[.int .i64 a, .int .i64 b, .int .i64 c] 46)) B1.out) hb2)
  clear hb2 hc1 hc2 hf1 hf2
  by_cases hab : a = b
  · have HX : Hid (alw R N (a, b, c) = 1) := by show _ = _; rw [HAL.out, if_pos (.inl hab)]
    have e1 : (a == b) = true := by simpa using hab
    clear hab HAL
    go_wp2
    go_ret
    exact ⟨by rw [HX.out]; rfl, B2.out⟩
  · have e1 : (a == b) = false := by simpa using hab
    by_cases hra : R ≤ a
    · have ea : decide (a < R) = false := decide_eq_false (by omega)
      by_cases hrb : R ≤ b
      · have HX : Hid (alw R N (a, b, c) = 1) := by show _ = _; rw [HAL.out, if_pos (.inr (.inl ⟨hra, hrb⟩))]
        clear hab HAL
        go_wp2
        go_ret
        exact ⟨by rw [HX.out]; rfl, B2.out⟩
      · have e2 : decide (R ≤ b) = false := decide_eq_false hrb
        by_cases h0 : c = 0
        · have e3 : (c != 0) = false := by simpa using h0
          have HX : Hid (alw R N (a, b, c) = 0) := by show _ = _; rw [HAL.out, if_neg (by rintro (h | h | h); exact hab h; exact hrb h.2; (unfold costOK at h; rw [if_pos hra] at h; exact of_decide_eq_false h h0))]
          clear hab HAL h0
          go_wp2
          go_ret
          exact ⟨by rw [HX.out]; rfl, B2.out⟩
        · have e3 : (c != 0) = true := by simpa using h0
          have HX : Hid (alw R N (a, b, c) = 1) := by show _ = _; rw [HAL.out, if_pos (.inr (.inr (by unfold costOK; rw [if_pos hra]; exact decide_eq_false h0)))]
          clear hab HAL h0
          go_wp2
          go_ret
          exact ⟨by rw [HX.out]; rfl, B2.out⟩
    · have e2 : decide (R ≤ a) = false := decide_eq_false hra
      have hra' : a < R := by omega
      by_cases h0 : c < 1
      · have HX : Hid (alw R N (a, b, c) = 1) := by show _ = _; rw [HAL.out, if_pos (.inr (.inr (by unfold costOK; rw [if_neg hra]; exact decide_eq_false (by dsimp only; omega))))]
        clear hab HAL
        go_wp2
        go_ret
        exact ⟨by rw [HX.out]; rfl, B2.out⟩
      · have e3 : decide (c < 1) = false := decide_eq_false h0
        by_cases h1 : 65535 < c
        · have HX : Hid (alw R N (a, b, c) = 1) := by show _ = _; rw [HAL.out, if_pos (.inr (.inr (by unfold costOK; rw [if_neg hra]; exact decide_eq_false (by dsimp only; omega))))]
          clear hab HAL
          go_wp2
          go_ret
          exact ⟨by rw [HX.out]; rfl, B2.out⟩
        · have e4 : decide (65535 < c) = false := decide_eq_false h1
          have HX : Hid (alw R N (a, b, c) = 0) := by show _ = _; rw [HAL.out, if_neg (by rintro (h | h | h); exact hab h; exact hra h.1; (unfold costOK at h; rw [if_neg hra] at h; have := of_decide_eq_false h; dsimp only at this; omega))]
          clear hab HAL
          go_wp2
          go_ret
          exact ⟨by rw [HX.out]; rfl, B2.out⟩
theorem rallowed_any (R N : Int) (s : Value) (e : E) (w : World) (hR : 0 ≤ R) (hN : 0 ≤ N) (hs : R + N ≤ 128) (hf : I64 e.1 ∧ I64 e.2.1) :
    Calls Try.prog 33 #[.agg #[.int .i64 R, .int .i64 N, s], .agg #[.int .i64 e.1, .int .i64 e.2.1, .int .i64 e.2.2]] w fun en w' => en = .returned (.int .i64 (alw R N e)) ∧ Below w.heap.size w w' := by
  by_cases hb : isN R N e.1 = true ∧ isN R N e.2.1 = true
  · exact rallowed_in R N s e w hR hN hs hf hb
  · rw [show alw R N e = 5 by unfold alw; rw [if_neg hb]]
    exact rallowed_bad R N s e w hR hN hs hf hb
end Go.Proofs.Ytmlpbhankgojpaa
