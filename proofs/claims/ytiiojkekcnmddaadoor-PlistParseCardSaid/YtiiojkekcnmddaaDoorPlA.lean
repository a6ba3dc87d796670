/-
  Rules of prefix lists: the walks of Check, Match, covers and of their references.
-/
import Derived.Test.YtiiojkekcnmddaaDoorWalkO
import Derived.Laws.OwnMore
import Derived.Deep.LoopGhost
import Derived.Deep.Draws
import Derived.Deep.AppendLies
import Derived.OneCell
namespace Go.Proofs.YtiiojkekcnmddaaDoor
open Go.RowKit
set_option linter.unusedSimpArgs false
set_option linter.unusedVariables false
set_option maxHeartbeats 1500000
set_option maxRecDepth 100000

/-- a rule: whether it permits, its prefix, its least and greatest length -/
abbrev Ru := Bool × (Nat × Int) × Int × Int
abbrev ruV (r : Ru) : Value := .agg #[.bool r.1, .int .u32 (r.2.1.1 : Int), .int .i64 r.2.1.2, .int .i64 r.2.2.1, .int .i64 r.2.2.2]
abbrev ruC (r : Ru) : Obj := .cells #[.bool r.1, .int .u32 (r.2.1.1 : Int), .int .i64 r.2.1.2, .int .i64 r.2.2.1, .int .i64 r.2.2.2] 27
def RuOk (r : Ru) : Prop := r.2.1.1 < 4294967296 ∧ I64 r.2.1.2 ∧ I64 r.2.2.1 ∧ I64 r.2.2.2
def lenBad (n mn mx : Int) : Bool := decide (mn < n) || decide (mx < mn) || decide (32 < mx)
def chkR (r : Ru) : Int := if vld r.2.1.1 r.2.1.2 = false then 1 else if lenBad r.2.1.2 r.2.2.1 r.2.2.2 = true then 5 else 0
def matR (r : Ru) (p : Nat × Int) : Bool := (chkR r == 0) && (cov r.2.1.1 r.2.1.2 p.1 p.2 && (decide (r.2.2.1 ≤ p.2) && decide (p.2 ≤ r.2.2.2)))
def covR (r q : Ru) : Bool := cov r.2.1.1 r.2.1.2 q.2.1.1 q.2.1.2 && (decide (r.2.2.1 ≤ q.2.2.1) && decide (q.2.2.2 ≤ r.2.2.2))
theorem check_any (r : Ru) (hr : RuOk r) (w : World) : Calls Tryd.prog 10 #[ruV r] w fun e w' => e = .returned (.int .i64 (chkR r)) ∧ Below w.heap.size w w' := by
  obtain ⟨pm, ⟨a, n⟩, mn, mx⟩ := r
  obtain ⟨ha, hn, hmn, hmx⟩ := hr
  dsimp only at *
  cases hv : vld a n
  · have HC : Hid (chkR (pm, (a, n), mn, mx) = 1) := by unfold Hid chkR; simp [hv]
    go_enter Tryd.func10, Tryd.ntmps10
    go_wp2_with fail
    go_at_call 24
    refine (valid_any a ha n hn _).mono ?_
    rintro e w1 ⟨rfl, h1⟩
    obtain ⟨hc1, hf1⟩ := bcell h1
    go_wp2_with fail
    go_ret
    exact ⟨ret_i HC.out.symm, below_then (below_alloc _ _) h1⟩
  · have HC : Hid (chkR (pm, (a, n), mn, mx) = if lenBad n mn mx = true then 5 else 0) := by unfold Hid chkR; simp [hv]
    unfold lenBad at HC
    cases d1 : decide (mn < n) <;> cases d2 : decide (mx < mn) <;> cases d3 : decide (32 < mx)
    all_goals (
      rw [d1, d2, d3] at HC
      simp only [Bool.or_false, Bool.or_true, Bool.true_or, Bool.false_or, if_true, Bool.false_eq_true, if_false] at HC
      go_enter Tryd.func10, Tryd.ntmps10
      go_wp2_with fail
      go_at_call 24
      refine (valid_any a ha n hn _).mono ?_
      rintro e w1 ⟨rfl, h1⟩
      obtain ⟨hc1, hf1⟩ := bcell h1
      go_wp2_with fail
      go_ret
      exact ⟨ret_i HC.out.symm, below_then (below_alloc _ _) h1⟩)
theorem rcheck_any (r : Ru) (hr : RuOk r) (w : World) : Calls Tryd.prog 11 #[ruV r] w fun e w' => e = .returned (.int .i64 (chkR r)) ∧ Below w.heap.size w w' := by
  obtain ⟨pm, ⟨a, n⟩, mn, mx⟩ := r
  obtain ⟨ha, hn, hmn, hmx⟩ := hr
  dsimp only at *
  cases hv : vld a n
  · have HC : Hid (chkR (pm, (a, n), mn, mx) = 1) := by unfold Hid chkR; simp [hv]
    go_enter Tryd.func11, Tryd.ntmps11
    go_wp2_with fail
    go_at_call 23
    refine (rvalid_any a ha n hn _).mono ?_
    rintro e w1 ⟨rfl, h1⟩
    obtain ⟨hc1, hf1⟩ := bcell h1
    go_wp2_with fail
    go_ret
    exact ⟨ret_i HC.out.symm, below_then (below_alloc _ _) h1⟩
  · have HC : Hid (chkR (pm, (a, n), mn, mx) = if lenBad n mn mx = true then 5 else 0) := by unfold Hid chkR; simp [hv]
    unfold lenBad at HC
    cases d1 : decide (mn < n) <;> cases d2 : decide (mx < mn) <;> cases d3 : decide (32 < mx)
    all_goals (
      rw [d1, d2, d3] at HC
      simp only [Bool.or_false, Bool.or_true, Bool.true_or, Bool.false_or, if_true, Bool.false_eq_true, if_false] at HC
      go_enter Tryd.func11, Tryd.ntmps11
      go_wp2_with fail
      go_at_call 23
      refine (rvalid_any a ha n hn _).mono ?_
      rintro e w1 ⟨rfl, h1⟩
      obtain ⟨hc1, hf1⟩ := bcell h1
      go_wp2_with fail
      go_ret
      exact ⟨ret_i HC.out.symm, below_then (below_alloc _ _) h1⟩)
theorem ok_pre {r : Ru} (hr : RuOk r) : r.2.1.1 < 4294967296 ∧ I64 r.2.1.2 := ⟨hr.1, hr.2.1⟩
theorem coversR_any (r q : Ru) (hr : RuOk r) (hq : RuOk q) (w : World) : Calls Tryd.prog 39 #[ruV r, ruV q] w fun e w' => e = .returned (.bool (covR r q)) ∧ Below w.heap.size w w' := by
  obtain ⟨pm, ⟨a, n⟩, mn, mx⟩ := r
  obtain ⟨qm, ⟨b, m⟩, kn, kx⟩ := q
  obtain ⟨ha, hn, hmn, hmx⟩ := hr
  obtain ⟨hb, hm, hkn, hkx⟩ := hq
  dsimp only at *
  obtain ⟨z, hz⟩ : ∃ z, cov a n b m = z := ⟨_, rfl⟩
  have HC : Hid (covR (pm, (a, n), mn, mx) (qm, (b, m), kn, kx) = (z && (decide (mn ≤ kn) && decide (kx ≤ mx)))) := by unfold Hid covR; rw [← hz]
  have H := Lib.hid (covers_any a ha n hn b hb m hm)
  rw [hz] at H
  clear hz
  cases z <;> cases d1 : decide (mn ≤ kn) <;> cases d2 : decide (kx ≤ mx)
  all_goals (
    rw [d1, d2] at HC
    simp only [Bool.and_false, Bool.and_true, Bool.true_and, Bool.false_and] at HC
    go_enter Tryd.func39, Tryd.ntmps39
    go_wp2_with fail
    go_at_call 25
    refine (H.out _).mono ?_
    rintro e w1 ⟨rfl, h1⟩
    obtain ⟨hc1, hf1⟩ := bcell h1
    go_wp2_with fail
    go_ret
    exact ⟨ret_b HC.out.symm, below_then (below2 _ _ _) h1⟩)
theorem rcoversR_any (r q : Ru) (hr : RuOk r) (hq : RuOk q) (w : World) : Calls Tryd.prog 40 #[ruV r, ruV q] w fun e w' => e = .returned (.bool (covR r q)) ∧ Below w.heap.size w w' := by
  obtain ⟨pm, ⟨a, n⟩, mn, mx⟩ := r
  obtain ⟨qm, ⟨b, m⟩, kn, kx⟩ := q
  obtain ⟨ha, hn, hmn, hmx⟩ := hr
  obtain ⟨hb, hm, hkn, hkx⟩ := hq
  dsimp only at *
  obtain ⟨z, hz⟩ : ∃ z, cov a n b m = z := ⟨_, rfl⟩
  have HC : Hid (covR (pm, (a, n), mn, mx) (qm, (b, m), kn, kx) = (z && (decide (mn ≤ kn) && decide (kx ≤ mx)))) := by unfold Hid covR; rw [← hz]
  have H := Lib.hid (rcovers_any a ha n hn b hb m hm)
  rw [hz] at H
  clear hz
  cases z <;> cases d1 : decide (mn ≤ kn) <;> cases d2 : decide (kx ≤ mx)
  all_goals (
    rw [d1, d2] at HC
    simp only [Bool.and_false, Bool.and_true, Bool.true_and, Bool.false_and] at HC
    go_enter Tryd.func40, Tryd.ntmps40
    go_wp2_with fail
    go_at_call 26
    refine (H.out _).mono ?_
    rintro e w1 ⟨rfl, h1⟩
    obtain ⟨hc1, hf1⟩ := bcell h1
    go_wp2_with fail
    go_ret
    exact ⟨ret_b HC.out.symm, below_then (below2 _ _ _) h1⟩)
theorem match_any (r : Ru) (p : Nat × Int) (hr : RuOk r) (hp : p.1 < 4294967296) (hp2 : I64 p.2) (w : World) :
    Calls Tryd.prog 13 #[ruV r, .agg #[.int .u32 (p.1 : Int), .int .i64 p.2]] w fun e w' => e = .returned (.bool (matR r p)) ∧ Below w.heap.size w w' := by
  have HK := Lib.hid (check_any r hr)
  obtain ⟨pm, ⟨a, n⟩, mn, mx⟩ := r
  obtain ⟨b, m⟩ := p
  obtain ⟨ha, hn, hmn, hmx⟩ := hr
  dsimp only at *
  obtain ⟨z, hz⟩ : ∃ z, cov a n b m = z := ⟨_, rfl⟩
  obtain ⟨c, hc⟩ : ∃ c, chkR (pm, (a, n), mn, mx) = c := ⟨_, rfl⟩
  have HC : Hid (matR (pm, (a, n), mn, mx) (b, m) = ((c == 0) && (z && (decide (mn ≤ m) && decide (m ≤ mx))))) := by unfold Hid matR; rw [← hz, ← hc]
  have H := Lib.hid (covers_any a ha n hn b hp m hp2)
  rw [hz] at H
  rw [hc] at HK
  clear hz hc
  cases d0 : (c == 0)
  · rw [d0] at HC
    simp only [Bool.and_false, Bool.and_true, Bool.true_and, Bool.false_and] at HC
    go_enter Tryd.func13, Tryd.ntmps13
    go_wp2_with fail
    go_at_call 10
    refine (HK.out _).mono ?_
    rintro e w1 ⟨rfl, h1⟩
    obtain ⟨hc1, hf1⟩ := bcell h1
    go_wp2_with fail
    go_ret
    exact ⟨ret_b HC.out.symm, below_then (below2 _ _ _) h1⟩
  · cases z <;> cases d1 : decide (mn ≤ m) <;> cases d2 : decide (m ≤ mx)
    all_goals (
      rw [d0, d1, d2] at HC
      simp only [Bool.and_false, Bool.and_true, Bool.true_and, Bool.false_and] at HC
      go_enter Tryd.func13, Tryd.ntmps13
      go_wp2_with fail
      go_at_call 10
      refine (HK.out _).mono ?_
      rintro e w1 ⟨rfl, h1⟩
      have hs1 : w.heap.size + 2 ≤ w1.heap.size := by have := h1.size; simp at this; omega
      obtain ⟨hc1, hf1⟩ := bcell h1
      go_wp2_with fail
      go_at_call 25
      refine (H.out _).mono ?_
      rintro e w2 ⟨rfl, h2⟩
      obtain ⟨hc2, hf2⟩ := bcell h2
      have z0 : w.heap.size < w1.heap.size := by omega
      have z1 : w.heap.size + 1 < w1.heap.size := by omega
      go_wp2_with fail
      go_ret
      exact ⟨ret_b HC.out.symm, below_then (below_then (below2 _ _ _) h1) h2⟩)
end Go.Proofs.YtiiojkekcnmddaaDoor
