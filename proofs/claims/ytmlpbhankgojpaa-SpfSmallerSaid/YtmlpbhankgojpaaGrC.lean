/-
  The walks of the reference's Node, Size, Allowed, Before and Check.
-/
import Derived.Test.YtmlpbhankgojpaaGrB
namespace Go.Proofs.Ytmlpbhankgojpaa
open Go.RowKit GM Go.Sort
set_option linter.unusedSimpArgs false
set_option linter.unusedVariables false
set_option maxHeartbeats 4000000
set_option maxRecDepth 100000

theorem node_any (R N : Int) (s : Value) (x : Int) (w : World) (hR : 0 ≤ R) (hN : 0 ≤ N) (hs : R + N ≤ 128) (hx : I64 x) :
    Calls Try.prog 51 #[.agg #[.int .i64 R, .int .i64 N, s], .int .i64 x] w fun e w' => e = .returned (.bool (isN R N x)) ∧ Below w.heap.size w w' := by
  unfold I64 at hx
  by_cases h0 : 0 ≤ x
  · by_cases h1 : x < R
    · have H : Hid (isN R N x = true) := decide_eq_true ⟨h0, by omega⟩
      go_enter Try.func51, Try.ntmps51
      go_wp2
      go_ret
      exact ⟨by rw [H.out]; rfl, below_alloc _ _⟩
    · have e1 : decide (x < R) = false := decide_eq_false h1
      have H : Hid (isN R N x = decide (x - R < N)) := by show _ = _; unfold isN; exact decide_eq_decide.2 ⟨fun h => by omega, fun h => ⟨h0, by omega⟩⟩
      have hw : IntKind.i64.wrap (x - R) = x - R := IntWalk.i64_in _ (by omega)
      go_enter Try.func51, Try.ntmps51
      go_wp2
      go_ret
      exact ⟨by rw [H.out]; rfl, below_alloc _ _⟩
  · have H : Hid (isN R N x = false) := decide_eq_false (fun h => h0 h.1)
    have h1 : decide (0 ≤ x) = false := decide_eq_false h0
    clear hx
    go_enter Try.func51, Try.ntmps51
    go_wp2
    go_ret
    exact ⟨by rw [H.out]; rfl, below_alloc _ _⟩
theorem gbefore_any (a b : E) (w : World) : Calls Try.prog 34 #[.agg #[.int .i64 a.1, .int .i64 a.2.1, .int .i64 a.2.2], .agg #[.int .i64 b.1, .int .i64 b.2.1, .int .i64 b.2.2]] w fun e w' => e = .returned (.bool (bef a b)) ∧ Gr w w' := by
  have HB := Lib.hid (bef_iff (a := a) (b := b))
  obtain ⟨a0, a1, a2⟩ := a
  obtain ⟨b0, b1, b2⟩ := b
  dsimp only at HB ⊢
  have G2 := Lib.hid (((Gr.refl w).alloc (.cells #[.int .i64 a0, .int .i64 a1, .int .i64 a2] 46)).alloc (.cells #[.int .i64 b0, .int .i64 b1, .int .i64 b2] 46))
  by_cases h0 : a0 < b0
  · have H : Hid (bef (a0, a1, a2) (b0, b1, b2) = true) := HB.out.2 (.inl h0)
    go_enter Try.func34, Try.ntmps34
    go_wp2
    go_ret
    exact ⟨by rw [H.out]; rfl, G2.out⟩
  · have e0 : decide (a0 < b0) = false := decide_eq_false h0
    by_cases h1 : a0 = b0
    · subst h1
      by_cases h2 : a1 < b1
      · have H : Hid (bef (a0, a1, a2) (a0, b1, b2) = true) := HB.out.2 (.inr ⟨rfl, h2⟩)
        go_enter Try.func34, Try.ntmps34
        go_wp2
        go_ret
        exact ⟨by rw [H.out]; rfl, G2.out⟩
      · have e2 : decide (a1 < b1) = false := decide_eq_false h2
        have H : Hid (bef (a0, a1, a2) (a0, b1, b2) = false) := by
          show _ = _
          cases hb : bef (a0, a1, a2) (a0, b1, b2)
          · rfl
          · rcases HB.out.1 hb with h | h
            · exact absurd h h0
            · exact absurd h.2 h2
        go_enter Try.func34, Try.ntmps34
        go_wp2
        go_ret
        exact ⟨by rw [H.out]; rfl, G2.out⟩
    · have e1 : (a0 == b0) = false := by simpa using h1
      have H : Hid (bef (a0, a1, a2) (b0, b1, b2) = false) := by
        show _ = _
        cases hb : bef (a0, a1, a2) (b0, b1, b2)
        · rfl
        · rcases HB.out.1 hb with h | h
          · exact absurd h h0
          · exact absurd h.1 h1
      clear h1
      go_enter Try.func34, Try.ntmps34
      go_wp2
      go_ret
      exact ⟨by rw [H.out]; rfl, G2.out⟩
def szE (R N : Int) : Int := if R < 0 ∨ N < 0 then 5 else if 128 < R + N then 4 else 0
theorem size_any (R N : Int) (s : Value) (w : World) (hR : I64 R) (hN : I64 N) :
    Calls Try.prog 32 #[.agg #[.int .i64 R, .int .i64 N, s]] w fun e w' => e = .returned (.int .i64 (szE R N)) ∧ Below w.heap.size w w' := by
  unfold I64 at hR hN
  by_cases h0 : R < 0
  · have H : Hid (szE R N = 5) := by show _ = _; unfold szE; rw [if_pos (.inl h0)]
    go_enter Try.func32, Try.ntmps32
    go_wp2
    go_ret
    exact ⟨by rw [H.out]; rfl, below_alloc _ _⟩
  · have e0 : decide (R < 0) = false := decide_eq_false h0
    by_cases h1 : N < 0
    · have H : Hid (szE R N = 5) := by show _ = _; unfold szE; rw [if_pos (.inr h1)]
      go_enter Try.func32, Try.ntmps32
      go_wp2
      go_ret
      exact ⟨by rw [H.out]; rfl, below_alloc _ _⟩
    · have e1 : decide (N < 0) = false := decide_eq_false h1
      by_cases h2 : 128 < R
      · have H : Hid (szE R N = 4) := by show _ = _; unfold szE; rw [if_neg (by omega), if_pos (by omega)]
        go_enter Try.func32, Try.ntmps32
        go_wp2
        go_ret
        exact ⟨by rw [H.out]; rfl, below_alloc _ _⟩
      · have e2 : decide (128 < R) = false := decide_eq_false h2
        have hw : IntKind.i64.wrap (128 - R) = 128 - R := IntWalk.i64_in _ (by omega)
        by_cases h3 : 128 - R < N
        · have H : Hid (szE R N = 4) := by show _ = _; unfold szE; rw [if_neg (by omega), if_pos (by omega)]
          go_enter Try.func32, Try.ntmps32
          go_wp2
          go_ret
          exact ⟨by rw [H.out]; rfl, below_alloc _ _⟩
        · have e3 : decide (128 - R < N) = false := decide_eq_false h3
          have H : Hid (szE R N = 0) := by show _ = _; unfold szE; rw [if_neg (by omega), if_neg (by omega)]
          go_enter Try.func32, Try.ntmps32
          go_wp2
          go_ret
          exact ⟨by rw [H.out]; rfl, below_alloc _ _⟩
end Go.Proofs.Ytmlpbhankgojpaa
