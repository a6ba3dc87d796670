/-
  The library's sort of addresses: insertionSort in a segment.
-/
import Derived.Test.YtaniiennfogjaaaDoorAgPt
import Derived.Test.YtaniiennfogjaaaDoorMb
namespace Go.Proofs.YtaniiennfogjaaaDoor
open Go.RowKit
set_option linter.unusedSimpArgs false
set_option linter.unusedVariables false
set_option maxHeartbeats 1500000
set_option maxRecDepth 100000

theorem insseg_any (B g cap L a b : Nat) (l : List Nat) (w : World) (h : OwnA B w (.slice (some ⟨g, 0, none⟩) L cap) l) (hL : L = l.length) (hab : a ≤ b) (hb : b ≤ L) (hbig : L ≤ 1000000) :
    Calls Tryd.prog 65 #[.slice (some ⟨g, 0, none⟩) L cap, .int .i64 (a : Int), .int .i64 (b : Int)] w fun e w' => e = .returned (.tuple #[]) ∧ ∃ l', SegS B g cap L a b l l' w w' ∧ SrtSeg a b l' := by
  have H := Lib.hid h
  have HL := Lib.hid hL
  clear h hL
  go_enter Tryd.func65, Tryd.ntmps65
  go_wp2_with fail
  go_loopg [6, 7] L (fun gg s6 s7 wr => ∃ (i : Nat) (l1 : List Nat), s6 = .int .i64 (i : Int) ∧ (∃ u, u = s7) ∧ a + 1 ≤ i ∧ (i ≤ b ∨ i = a + 1) ∧ b - i ≤ gg ∧ Hid (SegS B g cap L a b l l1 w wr ∧ InsA a l1 (i - 1) i))
  case atStart => exact ⟨a + 1, l, by go_num, ⟨_, rfl⟩, Nat.le_refl _, .inr rfl, by omega, ⟨SegP.refl _ _ _, H.out, Below.refl _ _⟩, fun p q x y h1 h2 h3 _ _ _ => by omega⟩
  case round =>
    obtain ⟨i, l1, rfl, ⟨u7, rfl⟩, hi1, hi2, hg, HI⟩ := hrel
    by_cases hlt : i < b
    · have HI2 : Hid (SegS B g cap L a b l l1 w wr ∧ InsA a l1 i i) := ⟨HI.out.1, by
        have := HI.out.2
        obtain ⟨k, rfl⟩ : ∃ k, i = k + 1 := ⟨i - 1, by omega⟩
        exact insA_next this⟩
      clear HI
      go_wp2_with fail
      obtain ⟨W1, hW1⟩ : ∃ W1, W1 = wr := ⟨_, rfl⟩
      rw [← hW1] at HI2 ⊢
      clear hW1
      go_loopg [7] i (fun gk s7 wr => ∃ (j : Nat) (l2 : List Nat), s7 = .int .i64 (j : Int) ∧ a ≤ j ∧ j ≤ i ∧ j ≤ gk ∧ Hid (SegS B g cap L a b l l2 w wr ∧ InsA a l2 i j))
      case atStart => exact ⟨i, l1, rfl, by omega, Nat.le_refl _, Nat.le_refl _, HI2.out⟩
      case round =>
        clear HI2
        obtain ⟨j, l2, rfl, haj, hji, hgk, HJ⟩ := hrel
        have hlen : l2.length = L := by have := HJ.out.1.1.len; have := HL.out; omega
        have HLN := Lib.hid hlen
        by_cases hja : j = a
        · have HD : Hid (InsA a l2 i (i + 1)) := insA_done HJ.out.2 hji (.inl (by omega))
          subst hja
          have hd1 : decide ((j : Int) > (j : Int)) = false := decide_eq_false (by omega)
          have hd2 : decide ((j : Int) < (j : Int)) = false := decide_eq_false (by omega)
          have hd3 : ¬ (j : Int) < (j : Int) := by omega
          clear hlen
          go_wp2_with fail
          go_quiet (fail)
          go_wp2_with fail
          go_roundg (b - (i + 1))
          case measure => omega
          case rel => exact ⟨i + 1, l2, by go_num, ⟨_, rfl⟩, by omega, .inl (by omega), by omega, ⟨HJ.out.1.1, HJ.out.1.2.1.drewN _, below_drewN HJ.out.1.2.2 _⟩, by rw [show i + 1 - 1 = i by omega]; exact HD.out⟩
        · obtain ⟨m, rfl⟩ : ∃ m, j = m + 1 := ⟨j - 1, by omega⟩
          obtain ⟨x, hx⟩ : ∃ x, l2[m]? = some x := ⟨_, List.getElem?_eq_getElem (by omega)⟩
          obtain ⟨y, hy⟩ : ∃ y, l2[m + 1]? = some y := ⟨_, List.getElem?_eq_getElem (by omega)⟩
          have ca := HJ.out.1.2.1.cell hx HLN.out.symm
          have cb := HJ.out.1.2.1.cell hy HLN.out.symm
          have HXY : Hid (l2[m]? = some x ∧ l2[m + 1]? = some y) := ⟨hx, hy⟩
          have hwm : IntKind.i64.wrap (m : Int) = (m : Int) := IntWalk.i64_in _ (by constructor <;> omega)
          have m0 : (0 : Int) ≤ (m : Int) := by omega
          have m1 : (m : Int) < (L : Int) := by omega
          have m2 : (m : Int) + 1 < (L : Int) := by omega
          have m3 : (a : Int) < (m : Int) + 1 := by omega
          have hd1 : decide ((m : Int) + 1 > (a : Int)) = true := decide_eq_true (by omega)
          have HLS : Hid (∀ W, Calls Tryd.prog 71 #[.int .u32 (y : Int), .int .u32 (x : Int)] W fun e w' => e = .returned (.bool (decide (y < x))) ∧ W = w') := fun W => less_any y x W
          clear hx hy hlen
          by_cases hyx : y < x
          · have hq : decide (y < x) = true := decide_eq_true hyx
            rw [hq] at HLS
            have HSW : Hid (∀ k1, SegS B g cap L a b l ((l2.set (m + 1) x).set m y) w (((wr.drewN k1).setCell ⟨g, m + 1, none⟩ (.int .u32 (x : Int))).setCell ⟨g, m, none⟩ (.int .u32 (y : Int)))) := fun k1 => HJ.out.1.swap HL.out ⟨by omega, by omega⟩ ⟨by omega, by omega⟩ HXY.out.2 HXY.out.1 k1
            have HIN : Hid (InsA a ((l2.set (m + 1) x).set m y) i m) := insA_swap HJ.out.2 (by omega) hji HXY.out.1 HXY.out.2 hyx
            have y0 := HJ.out.1.2.1.free m
            have y1 := HJ.out.1.2.1.free (m + 1)
            clear hyx hq
            go_wp2_with fail
            go_quiet ((go_at_call 71; exact Calls.quiet_of_same ((HLS.out _).mono fun _ _ h => ⟨h.1, h.2.symm⟩)))
            go_wp2_with fail
            go_region
            all_goals (
              go_wp2_with fail
              go_roundg m
              case measure => omega
              case rel => exact ⟨m, (l2.set (m + 1) x).set m y, by go_num, by omega, by omega, Nat.le_refl _, HSW.out _, HIN.out⟩)
          · have hq : decide (y < x) = false := decide_eq_false hyx
            rw [hq] at HLS
            have HD : Hid (InsA a l2 i (i + 1)) := insA_done HJ.out.2 hji (.inr ⟨x, y, HXY.out.1, HXY.out.2, hyx⟩)
            clear hyx hq
            go_wp2_with fail
            go_quiet ((go_at_call 71; exact Calls.quiet_of_same ((HLS.out _).mono fun _ _ h => ⟨h.1, h.2.symm⟩)))
            go_wp2_with fail
            go_roundg (b - (i + 1))
            case measure => omega
            case rel => exact ⟨i + 1, l2, by go_num, ⟨_, rfl⟩, by omega, .inl (by omega), by omega, ⟨HJ.out.1.1, HJ.out.1.2.1.drewN _, below_drewN HJ.out.1.2.2 _⟩, by rw [show i + 1 - 1 = i by omega]; exact HD.out⟩
    · have k1 : decide ((i : Int) < (b : Int)) = false := decide_eq_false (by omega)
      have HS : Hid (SrtSeg a b l1) := fun p q x y h1 h2 h3 hx hy => HI.out.2 p q x y h1 h2 (by omega) (by omega) hx hy
      go_wp2
      go_end0
      exact ⟨rfl, l1, HI.out.1, HS.out⟩
end Go.Proofs.YtaniiennfogjaaaDoor
