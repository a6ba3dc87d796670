/-
  The library's sort of addresses: choosePivot.
-/
import Derived.Test.YtaniiennfogjaaaDoorAgPa
namespace Go.Proofs.YtaniiennfogjaaaDoor
open Go.RowKit
set_option linter.unusedSimpArgs false
set_option linter.unusedVariables false
set_option maxHeartbeats 1500000
set_option maxRecDepth 100000

theorem pivot_any (B g cap L : Nat) (l : List Nat) (w : World) (a n : Nat) (h : OwnA B w (.slice (some ⟨g, 0, none⟩) L cap) l) (hL : L = l.length) (hn : a + n ≤ L) (h13 : 13 ≤ n) (hbig : L ≤ 1000000) :
    Calls Tryd.prog 68 #[.slice (some ⟨g, 0, none⟩) L cap, .int .i64 (a : Int), .int .i64 ((a : Int) + (n : Int))] w fun e w' => ∃ (p : Nat) (d : Int), e = .returned (.tuple #[.int .i64 (p : Int), .int .i64 d]) ∧ a ≤ p ∧ p < a + n ∧ (d = 0 ∨ d = 1 ∨ d = 2) ∧ OwnA B w' (.slice (some ⟨g, 0, none⟩) L cap) l ∧ Below B w w' := by
  have HR0 : Hid (RowC B g cap L l w.heap.size 0 (w.alloc (.cells #[.int .i64 0] 3)) ∧ Below B w (w.alloc (.cells #[.int .i64 0] 3))) := ⟨⟨h.below (below_alloc _ _), h.1, (by have := h.base.2; omega), heap_alloc_new _ _⟩, (below_alloc _ _).mono h.1⟩
  obtain ⟨q, hq⟩ : ∃ q, n / 4 = q := ⟨_, rfl⟩
  have hq3 : 3 ≤ q := by omega
  have hq4 : 4 * q ≤ n := by omega
  have hqi : ((n : Int)).tdiv 4 = (q : Int) := by rw [← hq]; exact rfl
  have hqd : (n : Int) / 4 = (q : Int) := by omega
  have e0 : (a : Int) + (n : Int) - (a : Int) = (n : Int) := by omega
  have HMED : Hid (∀ (W : World) (i j k : Nat) (c : Int), RowC B g cap L l w.heap.size c W → i < L → j < L → k < L → 0 ≤ c → c ≤ 900000 → Calls Tryd.prog 86 #[.slice (some ⟨g, 0, none⟩) L cap, .int .i64 (i : Int), .int .i64 (j : Int), .int .i64 (k : Int), .pointer (some ⟨w.heap.size, 0, none⟩)] W fun e w' => ∃ (x : Nat) (d : Int), e = .returned (.int .i64 (x : Int)) ∧ (x = i ∨ x = j ∨ x = k) ∧ c ≤ d ∧ d ≤ c + 3 ∧ RowC B g cap L l w.heap.size d w' ∧ Below B W w') := fun W i j k c hW hi hj hk h0 h1 => median_any B g cap L _ l c W i j k hW hL hi hj hk hbig h0 h1
  have HADJ : Hid (∀ (W : World) (i : Nat) (c : Int), RowC B g cap L l w.heap.size c W → i + 1 < L → 1 ≤ i → 0 ≤ c → c ≤ 900000 → Calls Tryd.prog 85 #[.slice (some ⟨g, 0, none⟩) L cap, .int .i64 (i : Int), .pointer (some ⟨w.heap.size, 0, none⟩)] W fun e w' => ∃ (x : Nat) (d : Int), e = .returned (.int .i64 (x : Int)) ∧ (x + 1 = i ∨ x = i ∨ x = i + 1) ∧ c ≤ d ∧ d ≤ c + 3 ∧ RowC B g cap L l w.heap.size d w' ∧ Below B W w') := fun W i c hW hi h1 h0 hc => medadj_any B g cap L _ l c W i hW hL hi h1 hbig h0 hc
  clear hq hL h
  by_cases h50 : 50 ≤ n
  · have h50' : (50 : Int) ≤ (n : Int) := by omega
    have HA1 := HADJ.out _ (a + q) 0 HR0.out.1 (by omega) (by omega) (by omega) (by omega)
    rw [Int.natCast_add] at HA1
    have HA1 := Lib.hid HA1
    have HA2 : Hid (∀ (W : World) (c : Int), RowC B g cap L l w.heap.size c W → 0 ≤ c → c ≤ 900000 → Calls Tryd.prog 85 #[.slice (some ⟨g, 0, none⟩) L cap, .int .i64 ((a : Int) + (q : Int) * 2), .pointer (some ⟨w.heap.size, 0, none⟩)] W fun e w' => ∃ (x : Nat) (d : Int), e = .returned (.int .i64 (x : Int)) ∧ (x + 1 = a + q * 2 ∨ x = a + q * 2 ∨ x = a + q * 2 + 1) ∧ c ≤ d ∧ d ≤ c + 3 ∧ RowC B g cap L l w.heap.size d w' ∧ Below B W w') := fun W c hW h0 h1 => by
      have := HADJ.out W (a + q * 2) c hW (by omega) (by omega) h0 h1
      rwa [Int.natCast_add, Int.natCast_mul] at this
    have HA3 : Hid (∀ (W : World) (c : Int), RowC B g cap L l w.heap.size c W → 0 ≤ c → c ≤ 900000 → Calls Tryd.prog 85 #[.slice (some ⟨g, 0, none⟩) L cap, .int .i64 ((a : Int) + (q : Int) * 3), .pointer (some ⟨w.heap.size, 0, none⟩)] W fun e w' => ∃ (x : Nat) (d : Int), e = .returned (.int .i64 (x : Int)) ∧ (x + 1 = a + q * 3 ∨ x = a + q * 3 ∨ x = a + q * 3 + 1) ∧ c ≤ d ∧ d ≤ c + 3 ∧ RowC B g cap L l w.heap.size d w' ∧ Below B W w') := fun W c hW h0 h1 => by
      have := HADJ.out W (a + q * 3) c hW (by omega) (by omega) h0 h1
      rwa [Int.natCast_add, Int.natCast_mul] at this
    clear HADJ
    go_enter Tryd.func68, Tryd.ntmps68
    go_wp2_with fail
    go_at_call 85
    refine HA1.out.mono ?_
    rintro en w1 ⟨x1, d1, rfl, hx1, h1, h2, hr1, hb1⟩
    have HX1 : Hid (RowC B g cap L l w.heap.size d1 w1 ∧ (a < x1 ∧ x1 < a + n) ∧ 0 ≤ d1 ∧ d1 ≤ 3 ∧ Below B w w1) := ⟨hr1, by omega, by omega, by omega, HR0.out.2.trans hb1⟩
    clear hx1 h1 h2 hr1 hb1
    go_wp2_with fail
    go_at_call 85
    refine (HA2.out _ _ HX1.out.1 HX1.out.2.2.1 (by have := HX1.out.2.2.2.1; omega)).mono ?_
    rintro en w2 ⟨x2, d2, rfl, hx2, h1, h2, hr2, hb2⟩
    have HX2 : Hid (RowC B g cap L l w.heap.size d2 w2 ∧ (a < x2 ∧ x2 < a + n) ∧ 0 ≤ d2 ∧ d2 ≤ 6 ∧ Below B w w2) := ⟨hr2, by omega, by have := HX1.out.2.2.1; omega, by have := HX1.out.2.2.2.1; omega, HX1.out.2.2.2.2.trans hb2⟩
    clear hx2 h1 h2 hr2 hb2
    go_wp2_with fail
    go_at_call 85
    refine (HA3.out _ _ HX2.out.1 HX2.out.2.2.1 (by have := HX2.out.2.2.2.1; omega)).mono ?_
    rintro en w3 ⟨x3, d3, rfl, hx3, h1, h2, hr3, hb3⟩
    have HX3 : Hid (RowC B g cap L l w.heap.size d3 w3 ∧ (a < x3 ∧ x3 < a + n) ∧ 0 ≤ d3 ∧ d3 ≤ 9 ∧ Below B w w3) := ⟨hr3, by omega, by have := HX2.out.2.2.1; omega, by have := HX2.out.2.2.2.1; omega, HX2.out.2.2.2.2.trans hb3⟩
    clear hx3 h1 h2 hr3 hb3
    go_wp2_with fail
    go_at_call 86
    refine (HMED.out _ _ _ _ _ HX3.out.1 (by have := HX1.out.2.1; omega) (by have := HX2.out.2.1; omega) (by have := HX3.out.2.1; omega) HX3.out.2.2.1 (by have := HX3.out.2.2.2.1; omega)).mono ?_
    rintro en w4 ⟨x, d, rfl, hx, h1, h2, hr4, hb4⟩
    have HX : Hid (a ≤ x ∧ x < a + n ∧ OwnA B w4 (.slice (some ⟨g, 0, none⟩) L cap) l ∧ Below B w w4) := ⟨by have := HX1.out.2.1; have := HX2.out.2.1; have := HX3.out.2.1; omega, by have := HX1.out.2.1; have := HX2.out.2.1; have := HX3.out.2.1; omega, hr4.1, HX3.out.2.2.2.2.trans hb4⟩
    have cs : w4.cell? ⟨w.heap.size, 0, none⟩ = some (.int .i64 d) := cellO hr4.2.2.2 rfl
    clear hx h1 h2 hr4 hb4
    by_cases hd0 : d = 0
    · subst hd0
      go_wp2_with fail
      go_ret2
      exact ⟨x, 1, rfl, HX.out.1, HX.out.2.1, .inr (.inl rfl), HX.out.2.2⟩
    · have f1 : (d == 0) = false := by simpa using hd0
      by_cases hd1 : d = 12
      · subst hd1
        go_wp2_with fail
        go_ret2
        exact ⟨x, 2, rfl, HX.out.1, HX.out.2.1, .inr (.inr rfl), HX.out.2.2⟩
      · have f2 : (d == 12) = false := by simpa using hd1
        go_wp2_with fail
        go_ret2
        exact ⟨x, 0, rfl, HX.out.1, HX.out.2.1, .inl rfl, HX.out.2.2⟩
  · have h50' : ¬ (50 : Int) ≤ (n : Int) := by omega
    have HM1 := HMED.out _ (a + q) (a + q * 2) (a + q * 3) 0 HR0.out.1 (by omega) (by omega) (by omega) (by omega) (by omega)
    rw [Int.natCast_add, Int.natCast_add, Int.natCast_add, Int.natCast_mul, Int.natCast_mul] at HM1
    have HM1 := Lib.hid HM1
    clear HMED HADJ
    go_enter Tryd.func68, Tryd.ntmps68
    go_wp2_with fail
    go_at_call 86
    refine HM1.out.mono ?_
    rintro en w4 ⟨x, d, rfl, hx, h1, h2, hr4, hb4⟩
    have HX : Hid (a ≤ x ∧ x < a + n ∧ OwnA B w4 (.slice (some ⟨g, 0, none⟩) L cap) l ∧ Below B w w4) := ⟨by omega, by omega, hr4.1, HR0.out.2.trans hb4⟩
    have cs : w4.cell? ⟨w.heap.size, 0, none⟩ = some (.int .i64 d) := cellO hr4.2.2.2 rfl
    clear hx h1 h2 hr4 hb4
    by_cases hd0 : d = 0
    · subst hd0
      go_wp2_with fail
      go_ret2
      exact ⟨x, 1, rfl, HX.out.1, HX.out.2.1, .inr (.inl rfl), HX.out.2.2⟩
    · have f1 : (d == 0) = false := by simpa using hd0
      by_cases hd1 : d = 12
      · subst hd1
        go_wp2_with fail
        go_ret2
        exact ⟨x, 2, rfl, HX.out.1, HX.out.2.1, .inr (.inr rfl), HX.out.2.2⟩
      · have f2 : (d == 12) = false := by simpa using hd1
        go_wp2_with fail
        go_ret2
        exact ⟨x, 0, rfl, HX.out.1, HX.out.2.1, .inl rfl, HX.out.2.2⟩
end Go.Proofs.YtaniiennfogjaaaDoor
