/-
  The library's sort of addresses: reverseRange.
-/
import Derived.Test.YtaniiennfogjaaaDoorMb
import Derived.Test.YtaniiennfogjaaaDoorAgPb
namespace Go.Proofs.YtaniiennfogjaaaDoor
open Go.RowKit
set_option linter.unusedSimpArgs false
set_option linter.unusedVariables false
set_option maxHeartbeats 1500000
set_option maxRecDepth 100000

/-- a row whose segment is on the way -/
def SegS (B g cap L a b : Nat) (l0 l : List Nat) (w W : World) : Prop := SegP a b l0 l ∧ OwnA B W (.slice (some ⟨g, 0, none⟩) L cap) l ∧ Below B w W
theorem SegS.swap {B g cap L a b : Nat} {l0 l : List Nat} {w W : World} (h : SegS B g cap L a b l0 l w W) (hL : L = l0.length) {i j x y : Nat} (hi : a ≤ i ∧ i < b) (hj : a ≤ j ∧ j < b) (hx : l[i]? = some x) (hy : l[j]? = some y) (k : Nat) :
    SegS B g cap L a b l0 ((l.set i y).set j x) w (((W.drewN k).setCell ⟨g, i, none⟩ (.int .u32 (y : Int))).setCell ⟨g, j, none⟩ (.int .u32 (x : Int))) := by
  have hl : L = l.length := by rw [hL, h.1.len]
  have h1 := h.2.1.drewN k
  have h2 := h1.set hl i y
  have h3 := h2.set (by rw [List.length_set]; exact hl) j x
  have hb2 := below_drewN h.2.2 k
  have hg2 := h.2.1.base.1
  exact ⟨h.1.swap hi hj hx hy, h3, (hb2.setCell (p := ⟨g, i, none⟩) hg2 _).setCell (p := ⟨g, j, none⟩) hg2 _⟩
theorem reverse_any (B g cap L a n : Nat) (l : List Nat) (w : World) (h : OwnA B w (.slice (some ⟨g, 0, none⟩) L cap) l) (hL : L = l.length) (hn : a + (n + 1) ≤ L) (hbig : L ≤ 1000000) :
    Calls Tryd.prog 69 #[.slice (some ⟨g, 0, none⟩) L cap, .int .i64 (a : Int), .int .i64 ((a : Int) + ((n : Int) + 1))] w fun e w' => e = .returned (.tuple #[]) ∧ ∃ l', SegS B g cap L a (a + (n + 1)) l l' w w' := by
  have H := Lib.hid h
  have HL := Lib.hid hL
  have e0 : (a : Int) + ((n : Int) + 1) - 1 = ((a + n : Nat) : Int) := by omega
  clear h hL
  go_enter Tryd.func69, Tryd.ntmps69
  go_wp2_with fail
  go_loopg [6, 7] (n + 1) (fun gg s6 s7 wr => ∃ (i j : Nat) (l1 : List Nat), s6 = .int .i64 (i : Int) ∧ s7 = .int .i64 (j : Int) ∧ a ≤ i ∧ j ≤ a + n ∧ i ≤ a + n + 1 ∧ j + 1 - i ≤ gg ∧ Hid (SegS B g cap L a (a + (n + 1)) l l1 w wr))
  case atStart => exact ⟨a, a + n, l, rfl, by go_num, Nat.le_refl _, Nat.le_refl _, by omega, by omega, SegP.refl _ _ _, H.out, Below.refl _ _⟩
  case round =>
    obtain ⟨i, j, l1, rfl, rfl, hi, hj, hi2, hg, HI⟩ := hrel
    by_cases hlt : i < j
    · have hlen : l1.length = L := by have := HI.out.1.len; have := HL.out; omega
      obtain ⟨m, rfl⟩ : ∃ m, j = m + 1 := ⟨j - 1, by omega⟩
      obtain ⟨x, hx⟩ : ∃ x, l1[i]? = some x := ⟨_, List.getElem?_eq_getElem (by omega)⟩
      obtain ⟨y, hy⟩ : ∃ y, l1[m + 1]? = some y := ⟨_, List.getElem?_eq_getElem (by omega)⟩
      have cx := HI.out.2.1.cell hx hlen.symm
      have cy := HI.out.2.1.cell hy hlen.symm
      have y0 := HI.out.2.1.free i
      have y1 := HI.out.2.1.free (m + 1)
      have HSW : Hid (∀ k, SegS B g cap L a (a + (n + 1)) l ((l1.set i y).set (m + 1) x) w (((wr.drewN k).setCell ⟨g, i, none⟩ (.int .u32 (y : Int))).setCell ⟨g, m + 1, none⟩ (.int .u32 (x : Int)))) := fun k => HI.out.swap HL.out ⟨hi, by omega⟩ ⟨by omega, by omega⟩ hx hy k
      have i0 : (0 : Int) ≤ (i : Int) := by omega
      have i1 : (i : Int) < (L : Int) := by omega
      have j0 : (0 : Int) ≤ (m : Int) + 1 := by omega
      have j1 : (m : Int) + 1 < (L : Int) := by omega
      have k1 : (i : Int) < (m : Int) + 1 := by omega
      have hwm : IntKind.i64.wrap (m : Int) = (m : Int) := IntWalk.i64_in _ (by constructor <;> omega)
      have hne : ¬ i = m + 1 := by omega
      clear hx hy hlen
      go_wp2_with fail
      go_region
      all_goals (
        go_wp2_with fail
        go_roundg (m + 1 - (i + 1))
        case measure => omega
        case rel => exact ⟨i + 1, m, (l1.set i y).set (m + 1) x, by go_num, by go_num, by omega, by omega, by omega, by omega, HSW.out _⟩)
    · have k1 : decide ((i : Int) < (j : Int)) = false := decide_eq_false (by omega)
      go_wp2
      go_end0
      exact ⟨rfl, l1, HI.out⟩
end Go.Proofs.YtaniiennfogjaaaDoor
