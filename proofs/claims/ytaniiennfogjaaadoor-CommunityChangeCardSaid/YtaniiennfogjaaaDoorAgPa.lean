/-
  The library's sort of addresses: order2, median, medianAdjacent.
-/
import Derived.Test.YtaniiennfogjaaaDoorAgIs
namespace Go.Proofs.YtaniiennfogjaaaDoor
open Go.RowKit
set_option linter.unusedSimpArgs false
set_option linter.unusedVariables false
set_option maxHeartbeats 1500000
set_option maxRecDepth 100000

/-- a row of addresses and the counter of swaps beside it -/
def RowC (B g cap L : Nat) (l : List Nat) (sp : Nat) (c : Int) (w : World) : Prop :=
  OwnA B w (.slice (some ⟨g, 0, none⟩) L cap) l ∧ B ≤ sp ∧ sp ≠ g ∧ w.heap[sp]? = some (.cells #[.int .i64 c] 3 (0, 0))
theorem RowC.drewN {B g cap L sp : Nat} {l : List Nat} {c : Int} {w : World} (h : RowC B g cap L l sp c w) (q : Nat) : RowC B g cap L l sp c (w.drewN q) := ⟨h.1.drewN q, h.2.1, h.2.2.1, h.2.2.2⟩
theorem OwnA.setOther {B g cap n sp o : Nat} {w : World} {l : List Nat} {u : Value} (h : OwnA B w (.slice (some ⟨g, 0, none⟩) n cap) l) (hne : sp ≠ g) : OwnA B (w.setCell ⟨sp, o, none⟩ u) (.slice (some ⟨g, 0, none⟩) n cap) l := by
  refine ⟨by have := h.1; simpa [World.setCell] using this, h.2.1, ?_⟩
  rcases h.2.2 with ⟨h', _⟩ | ⟨g', cap', cur, h', hB, hg, h3⟩
  · simp at h'
  · have e := h'
    simp at e
    have eg : g = g' := by first | exact e.1 | exact e.1.1
    subst eg
    exact .inr ⟨g, cap', cur, h', hB, by rw [heap_set_ne (Ne.symm hne)]; exact hg, h3⟩
theorem RowC.count {B g cap L sp : Nat} {l : List Nat} {c d : Int} {w : World} (h : RowC B g cap L l sp c w) : RowC B g cap L l sp d (w.setCell ⟨sp, 0, none⟩ (.int .i64 d)) :=
  ⟨h.1.setOther h.2.2.1, h.2.1, h.2.2.1, by rw [heap_set_eq h.2.2.2]; rfl⟩
theorem order2_any (B g cap L sp : Nat) (l : List Nat) (c : Int) (w : World) (i j : Nat) (h : RowC B g cap L l sp c w) (hL : L = l.length) (hi : i < L) (hj : j < L) (hbig : L ≤ 1000000) (hc0 : 0 ≤ c) (hc1 : c ≤ 1000000) :
    Calls Tryd.prog 92 #[.slice (some ⟨g, 0, none⟩) L cap, .int .i64 (i : Int), .int .i64 (j : Int), .pointer (some ⟨sp, 0, none⟩)] w fun e w' => ∃ (x y : Nat) (d : Int), e = .returned (.tuple #[.int .i64 (x : Int), .int .i64 (y : Int)]) ∧ ((x = i ∧ y = j) ∨ (x = j ∧ y = i)) ∧ c ≤ d ∧ d ≤ c + 1 ∧ RowC B g cap L l sp d w' ∧ Below B w w' := by
  obtain ⟨a, ha⟩ : ∃ a, l[i]? = some a := ⟨_, List.getElem?_eq_getElem (by omega)⟩
  obtain ⟨b, hb⟩ : ∃ b, l[j]? = some b := ⟨_, List.getElem?_eq_getElem (by omega)⟩
  have ca := h.1.cell ha hL
  have cb := h.1.cell hb hL
  have HLS : Hid (∀ W, Calls Tryd.prog 71 #[.int .u32 (b : Int), .int .u32 (a : Int)] W fun e w' => e = .returned (.bool (decide (b < a))) ∧ W = w') := fun W => less_any b a W
  have H := Lib.hid h
  have cs : w.cell? ⟨sp, 0, none⟩ = some (.int .i64 c) := cellO h.2.2.2 rfl
  have fs : w.frozen? ⟨sp, 0, none⟩ = false := freeO h.2.2.2 _
  have i0 : (0 : Int) ≤ (i : Int) := by omega
  have i1 : (i : Int) < (L : Int) := by omega
  have j0 : (0 : Int) ≤ (j : Int) := by omega
  have j1 : (j : Int) < (L : Int) := by omega
  have HS : Hid (∀ k, RowC B g cap L l sp (c + 1) ((w.drewN k).setCell ⟨sp, 0, none⟩ (.int .i64 (c + 1))) ∧ Below B w ((w.drewN k).setCell ⟨sp, 0, none⟩ (.int .i64 (c + 1)))) := fun k => ⟨(h.drewN k).count, (below_drewN (Below.refl _ _) k).setCell h.2.1 _⟩
  clear h ha hb hL hi hj
  obtain ⟨q, hq⟩ : ∃ q, decide (b < a) = q := ⟨_, rfl⟩
  rw [hq] at HLS
  clear hq
  cases q with
  | true =>
    go_enter Tryd.func92, Tryd.ntmps92
    go_wp2_with fail
    go_quiet ((go_at_call 71; exact Calls.quiet_of_same ((HLS.out _).mono fun _ _ h => ⟨h.1, h.2.symm⟩)))
    go_wp2_with fail
    go_ret2
    exact ⟨j, i, c + 1, rfl, .inr ⟨rfl, rfl⟩, by omega, by omega, (HS.out _).1, (HS.out _).2⟩
  | false =>
    go_enter Tryd.func92, Tryd.ntmps92
    go_wp2_with fail
    go_quiet ((go_at_call 71; exact Calls.quiet_of_same ((HLS.out _).mono fun _ _ h => ⟨h.1, h.2.symm⟩)))
    go_wp2_with fail
    go_ret2
    exact ⟨i, j, c, rfl, .inl ⟨rfl, rfl⟩, by omega, by omega, H.out.drewN _, below_drewN (Below.refl _ _) _⟩
theorem median_any (B g cap L sp : Nat) (l : List Nat) (c : Int) (w : World) (i j k : Nat) (h : RowC B g cap L l sp c w) (hL : L = l.length) (hi : i < L) (hj : j < L) (hk : k < L) (hbig : L ≤ 1000000) (hc0 : 0 ≤ c) (hc1 : c ≤ 900000) :
    Calls Tryd.prog 86 #[.slice (some ⟨g, 0, none⟩) L cap, .int .i64 (i : Int), .int .i64 (j : Int), .int .i64 (k : Int), .pointer (some ⟨sp, 0, none⟩)] w fun e w' => ∃ (x : Nat) (d : Int), e = .returned (.int .i64 (x : Int)) ∧ (x = i ∨ x = j ∨ x = k) ∧ c ≤ d ∧ d ≤ c + 3 ∧ RowC B g cap L l sp d w' ∧ Below B w w' := by
  have H1 := Lib.hid (order2_any B g cap L sp l c w i j h hL hi hj hbig hc0 (by omega))
  have HO : Hid (∀ (W : World) (x y : Nat) (d : Int), RowC B g cap L l sp d W → (x = i ∨ x = j ∨ x = k) → (y = i ∨ y = j ∨ y = k) → c ≤ d → d ≤ c + 2 → Calls Tryd.prog 92 #[.slice (some ⟨g, 0, none⟩) L cap, .int .i64 (x : Int), .int .i64 (y : Int), .pointer (some ⟨sp, 0, none⟩)] W fun e w' => ∃ (x' y' : Nat) (d' : Int), e = .returned (.tuple #[.int .i64 (x' : Int), .int .i64 (y' : Int)]) ∧ ((x' = x ∧ y' = y) ∨ (x' = y ∧ y' = x)) ∧ d ≤ d' ∧ d' ≤ d + 1 ∧ RowC B g cap L l sp d' w' ∧ Below B W w') := fun W x y d hW hx hy h1 h2 => order2_any B g cap L sp l d W x y hW hL (by omega) (by omega) hbig (by omega) (by omega)
  clear h hL hi hj hk
  go_enter Tryd.func86, Tryd.ntmps86
  go_wp2_with fail
  go_at_call 92
  refine H1.out.mono ?_
  rintro en w1 ⟨x1, y1, d1, rfl, hxy1, h1, h2, hr1, hb1⟩
  have HA1 : Hid (RowC B g cap L l sp d1 w1 ∧ (x1 = i ∨ x1 = j ∨ x1 = k) ∧ (y1 = i ∨ y1 = j ∨ y1 = k) ∧ c ≤ d1 ∧ d1 ≤ c + 1 ∧ Below B w w1) := ⟨hr1, by omega, by omega, h1, by omega, hb1⟩
  clear hxy1 h1 h2 hr1 hb1
  go_wp2_with fail
  go_at_call 92
  refine (HO.out _ _ _ _ HA1.out.1 HA1.out.2.2.1 (.inr (.inr rfl)) HA1.out.2.2.2.1 (by have := HA1.out.2.2.2.2.1; omega)).mono ?_
  rintro en w2 ⟨x2, y2, d2, rfl, hxy2, h1, h2, hr2, hb2⟩
  have HA2 : Hid (RowC B g cap L l sp d2 w2 ∧ (x1 = i ∨ x1 = j ∨ x1 = k) ∧ (x2 = i ∨ x2 = j ∨ x2 = k) ∧ c ≤ d2 ∧ d2 ≤ c + 2 ∧ Below B w w2) := ⟨hr2, HA1.out.2.1, by have := HA1.out.2.2.1; omega, by have := HA1.out.2.2.2.1; omega, by have := HA1.out.2.2.2.2.1; omega, HA1.out.2.2.2.2.2.trans hb2⟩
  clear hxy2 h1 h2 hr2 hb2
  go_wp2_with fail
  go_at_call 92
  refine (HO.out _ _ _ _ HA2.out.1 HA2.out.2.1 HA2.out.2.2.1 HA2.out.2.2.2.1 HA2.out.2.2.2.2.1).mono ?_
  rintro en w3 ⟨x3, y3, d3, rfl, hxy3, h1, h2, hr3, hb3⟩
  have HA3 : Hid ((y3 = i ∨ y3 = j ∨ y3 = k) ∧ c ≤ d3 ∧ d3 ≤ c + 3 ∧ RowC B g cap L l sp d3 w3 ∧ Below B w w3) := ⟨by have := HA2.out.2.1; have := HA2.out.2.2.1; omega, by have := HA2.out.2.2.2.1; omega, by have := HA2.out.2.2.2.2.1; omega, hr3, HA2.out.2.2.2.2.2.trans hb3⟩
  clear hxy3 h1 h2 hr3 hb3
  go_wp2_with fail
  go_ret
  exact ⟨y3, d3, rfl, HA3.out⟩
theorem medadj_any (B g cap L sp : Nat) (l : List Nat) (c : Int) (w : World) (i : Nat) (h : RowC B g cap L l sp c w) (hL : L = l.length) (hi : i + 1 < L) (hi1 : 1 ≤ i) (hbig : L ≤ 1000000) (hc0 : 0 ≤ c) (hc1 : c ≤ 900000) :
    Calls Tryd.prog 85 #[.slice (some ⟨g, 0, none⟩) L cap, .int .i64 (i : Int), .pointer (some ⟨sp, 0, none⟩)] w fun e w' => ∃ (x : Nat) (d : Int), e = .returned (.int .i64 (x : Int)) ∧ (x + 1 = i ∨ x = i ∨ x = i + 1) ∧ c ≤ d ∧ d ≤ c + 3 ∧ RowC B g cap L l sp d w' ∧ Below B w w' := by
  obtain ⟨m, rfl⟩ : ∃ m, i = m + 1 := ⟨i - 1, by omega⟩
  have H1 : Hid (Calls Tryd.prog 86 #[.slice (some ⟨g, 0, none⟩) L cap, .int .i64 (m : Int), .int .i64 ((m : Int) + 1), .int .i64 ((m : Int) + 1 + 1), .pointer (some ⟨sp, 0, none⟩)] w fun e w' => ∃ (x : Nat) (d : Int), e = .returned (.int .i64 (x : Int)) ∧ (x = m ∨ x = m + 1 ∨ x = m + 2) ∧ c ≤ d ∧ d ≤ c + 3 ∧ RowC B g cap L l sp d w' ∧ Below B w w') := median_any B g cap L sp l c w m (m + 1) (m + 2) h hL (by omega) (by omega) (by omega) hbig hc0 hc1
  clear h hL
  have hwm : IntKind.i64.wrap (m : Int) = (m : Int) := IntWalk.i64_in _ (by constructor <;> omega)
  go_enter Tryd.func85, Tryd.ntmps85
  go_wp2_with (go_at_call 86; refine H1.out.mono ?_; rintro en w1 ⟨x, d, rfl, hx, h2⟩; have HX : Hid (x + 1 = m + 1 ∨ x = m + 1 ∨ x = m + 1 + 1) := (by show _ ∨ _; omega); have H2 := Lib.hid h2; clear h2 hx)
  go_ret
  exact ⟨x, d, rfl, HX.out, H2.out⟩
end Go.Proofs.YtaniiennfogjaaaDoor
