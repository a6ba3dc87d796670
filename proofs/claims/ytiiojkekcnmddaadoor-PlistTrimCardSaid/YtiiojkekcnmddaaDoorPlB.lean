/-
  The walks of the reference's Match, of the closures, of IndexFunc and of Permits.
-/
import Derived.Test.YtiiojkekcnmddaaDoorPlA
import Derived.BigQuiet
namespace Go.Proofs.YtiiojkekcnmddaaDoor
open Go.RowKit
set_option linter.unusedSimpArgs false
set_option linter.unusedVariables false
set_option maxHeartbeats 1500000
set_option maxRecDepth 100000

theorem rmatch_any (r : Ru) (p : Nat × Int) (hr : RuOk r) (hp : p.1 < 4294967296) (hp2 : I64 p.2) (w : World) :
    Calls Tryd.prog 14 #[ruV r, .agg #[.int .u32 (p.1 : Int), .int .i64 p.2]] w fun e w' => e = .returned (.bool (matR r p)) ∧ Below w.heap.size w w' := by
  have HK := Lib.hid (rcheck_any r hr)
  obtain ⟨pm, ⟨a, n⟩, mn, mx⟩ := r
  obtain ⟨b, m⟩ := p
  obtain ⟨ha, hn, hmn, hmx⟩ := hr
  dsimp only at *
  have hzv : vld b m = false → cov a n b m = false := fun h => cov_out h
  obtain ⟨z, hz⟩ : ∃ z, cov a n b m = z := ⟨_, rfl⟩
  obtain ⟨c, hc⟩ : ∃ c, chkR (pm, (a, n), mn, mx) = c := ⟨_, rfl⟩
  obtain ⟨v, hv⟩ : ∃ v, vld b m = v := ⟨_, rfl⟩
  have HC : Hid (matR (pm, (a, n), mn, mx) (b, m) = ((c == 0) && (z && (decide (mn ≤ m) && decide (m ≤ mx))))) := by unfold Hid matR; rw [← hz, ← hc]
  have H := Lib.hid (rcovers_any a ha n hn b hp m hp2)
  have HV := Lib.hid (rvalid_any b hp m hp2)
  rw [hz] at H hzv
  rw [hc] at HK
  rw [hv] at HV hzv
  clear hz hc hv
  cases d0 : (c == 0)
  · rw [d0] at HC
    simp only [Bool.and_false, Bool.and_true, Bool.true_and, Bool.false_and] at HC
    go_enter Tryd.func14, Tryd.ntmps14
    go_wp2_with fail
    go_at_call 11
    refine (HK.out _).mono ?_
    rintro e w1 ⟨rfl, h1⟩
    obtain ⟨hc1, hf1⟩ := bcell h1
    go_wp2_with fail
    go_ret
    exact ⟨ret_b HC.out.symm, below_then (below2 _ _ _) h1⟩
  · cases v
    · have hzf := hzv rfl
      subst hzf
      rw [d0] at HC
      simp only [Bool.and_false, Bool.and_true, Bool.true_and, Bool.false_and] at HC
      go_enter Tryd.func14, Tryd.ntmps14
      go_wp2_with fail
      go_at_call 11
      refine (HK.out _).mono ?_
      rintro e w1 ⟨rfl, h1⟩
      have hs1 : w.heap.size + 2 ≤ w1.heap.size := by have := h1.size; simp at this; omega
      obtain ⟨hc1, hf1⟩ := bcell h1
      go_wp2_with fail
      go_at_call 23
      refine (HV.out _).mono ?_
      rintro e w2 ⟨rfl, h2⟩
      obtain ⟨hc2, hf2⟩ := bcell h2
      have z0 : w.heap.size < w1.heap.size := by omega
      have z1 : w.heap.size + 1 < w1.heap.size := by omega
      go_wp2_with fail
      go_ret
      exact ⟨ret_b HC.out.symm, below_then (below_then (below2 _ _ _) h1) h2⟩
    · clear hzv
      cases z <;> cases d1 : decide (mn ≤ m) <;> cases d2 : decide (m ≤ mx)
      all_goals (
        rw [d0, d1, d2] at HC
        simp only [Bool.and_false, Bool.and_true, Bool.true_and, Bool.false_and] at HC
        go_enter Tryd.func14, Tryd.ntmps14
        go_wp2_with fail
        go_at_call 11
        refine (HK.out _).mono ?_
        rintro e w1 ⟨rfl, h1⟩
        have hs1 : w.heap.size + 2 ≤ w1.heap.size := by have := h1.size; simp at this; omega
        obtain ⟨hc1, hf1⟩ := bcell h1
        go_wp2_with fail
        go_at_call 23
        refine (HV.out _).mono ?_
        rintro e w2 ⟨rfl, h2⟩
        obtain ⟨hc2, hf2⟩ := bcell h2
        have z0 : w.heap.size < w1.heap.size := by omega
        have z1 : w.heap.size + 1 < w1.heap.size := by omega
        go_wp2_with fail
        go_at_call 26
        refine (H.out _).mono ?_
        rintro e w3 ⟨rfl, h3⟩
        obtain ⟨hc3, hf3⟩ := bcell h3
        have z2 : w.heap.size < w2.heap.size := Nat.lt_of_lt_of_le z0 h2.size
        have z3 : w.heap.size + 1 < w2.heap.size := Nat.lt_of_lt_of_le z1 h2.size
        go_wp2_with fail
        go_ret
        exact ⟨ret_b HC.out.symm, below_then (below_then (below_then (below2 _ _ _) h1) h2) h3⟩)
end Go.Proofs.YtiiojkekcnmddaaDoor
