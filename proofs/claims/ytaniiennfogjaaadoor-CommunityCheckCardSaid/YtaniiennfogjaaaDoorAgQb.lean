/-
  The library's sort of addresses: breakPatterns.
-/
import Derived.Test.YtaniiennfogjaaaDoorAgPr
import Derived.Test.YtaniiennfogjaaaDoorSoLay
import Derived.Sort.Walk7
namespace Go.Proofs.YtaniiennfogjaaaDoor
open Go.RowKit Go.Sort Go.Lib
set_option linter.unusedSimpArgs false
set_option linter.unusedVariables false
set_option maxHeartbeats 1500000
set_option maxRecDepth 100000

theorem len142_any (n : Nat) (w : World) (hn : n ≤ 1000000) : Calls Tryd.prog 59 #[.int .u64 (n : Int)] w fun e w' => (∃ k : Nat, e = .returned (.int .i64 (k : Int)) ∧ k ≤ 64) ∧ w' = w := by
  have h := Any.bits_Len (SlLaysF0.n15.bits { Tryd.sortL with }) (n : Int) w (by omega) (by omega)
  exact h.mono (by rintro e w' ⟨he, hw⟩; exact ⟨⟨_, he, bitLen_le _ 64 (by omega) (by omega)⟩, hw⟩)
theorem next171_any (rb X : Nat) (hX : X < 18446744073709551616) (w : World) (hc : w.cell? ⟨rb, 0, none⟩ = some (.int .u64 X)) (hf : w.frozen? ⟨rb, 0, none⟩ = false) :
    Calls Tryd.prog 84 #[.pointer (some ⟨rb, 0, none⟩)] w fun e w' => ∃ Y : Nat, Y < 18446744073709551616 ∧ e = .returned (.int .u64 (Y : Int)) ∧ w' = (w.setCell ⟨rb, 0, none⟩ (.int .u64 (Y : Int))).drewN 3 := by
  have h := AnyF.xorshift_Next (P := Tryd.prog) (ρ := Tryd.sortP_ren) Tryd.sortX rb 0 X hX w hc hf
  exact h.mono (by rintro e w' ⟨he, hw⟩; exact ⟨xorNextN X, xorNextN_lt X hX, he, hw⟩)
theorem pow170_any (n : Nat) (h8 : 8 ≤ n) (hn : n ≤ 1000000) (w : World) :
    Calls Tryd.prog 83 #[.int .i64 (n : Int)] w fun e w' => (∃ M : Nat, 1 ≤ M ∧ M ≤ 2 * n ∧ e = .returned (.int .u64 (M : Int))) ∧ w' = w := by
  have h := AnyF.nextPowerOfTwo (P := Tryd.prog) (ρ := Tryd.sortP_ren) Tryd.sortL n (by omega) w
  exact h.mono (by
    rintro e w' ⟨he, hw⟩
    exact ⟨⟨1 <<< bitsLen n, by rw [Nat.one_shiftLeft]; exact Nat.two_pow_pos _, by rw [Nat.one_shiftLeft]; exact two_pow_bitsLen_le (by omega), he⟩, hw⟩)
theorem break_any (B g cap L a n : Nat) (l : List Nat) (w : World) (h : OwnA B w (.slice (some ⟨g, 0, none⟩) L cap) l) (hL : L = l.length) (h13 : 13 ≤ n) (hn : a + n ≤ L) (hbig : L ≤ 1000000) :
    Calls Tryd.prog 67 #[.slice (some ⟨g, 0, none⟩) L cap, .int .i64 (a : Int), .int .i64 ((a : Int) + (n : Int))] w fun e w' => e = .returned (.tuple #[]) ∧ ∃ l', SegS B g cap L a (a + n) l l' w w' := by
  obtain ⟨q, hq⟩ : ∃ q, n / 4 = q := ⟨_, rfl⟩
  have hq3 : 3 ≤ q := by omega
  have hq4 : 4 * q ≤ n := by omega
  have hqi : ((n : Int)).tdiv 4 = (q : Int) := by rw [← hq]; exact rfl
  have hqd : (n : Int) / 4 = (q : Int) := by omega
  have e0 : (a : Int) + (n : Int) - (a : Int) = (n : Int) := by omega
  have h8 : (8 : Int) ≤ (n : Int) := by omega
  have HP : Hid (∀ W, Calls Tryd.prog 83 #[.int .i64 (n : Int)] W fun e w' => (∃ M : Nat, 1 ≤ M ∧ M ≤ 2 * n ∧ e = .returned (.int .u64 (M : Int))) ∧ w' = W) := fun W => pow170_any n (by omega) (by omega) W
  have H := Lib.hid h
  have HL := Lib.hid hL
  clear hq h hL
  go_enter Tryd.func67, Tryd.ntmps67
  go_wp2_with (go_at_call 83; refine (HP.out _).mono ?_; rintro en w' ⟨⟨M, hM1, hM2, rfl⟩, rfl⟩)
  obtain ⟨i0, hi0⟩ : ∃ i0, a + q * 2 = i0 + 1 := ⟨a + q * 2 - 1, by omega⟩
  have HE := Lib.hid (show (a : Int) + (q : Int) * 2 - 1 = (i0 : Int) by omega)
  have hi3 : i0 + 1 ≤ a + q * 2 := by omega
  have hi4 : a + q * 2 ≤ i0 + 1 := by omega
  clear hi0
  have H0 : Hid (SegS B g cap L a (a + n) l l w (w.alloc (.cells #[.int .u64 (n : Int)] 92)) ∧ ∃ X : Nat, X < 18446744073709551616 ∧ (w.alloc (.cells #[.int .u64 (n : Int)] 92)).heap[w.heap.size]? = some (.cells #[.int .u64 (X : Int)] 92 (0, 0))) := ⟨⟨SegP.refl _ _ _, H.out.below (below_alloc _ _), (below_alloc _ _).mono H.out.1⟩, n, by omega, heap_alloc_new _ _⟩
  have HNE : Hid (w.heap.size ≠ g ∧ B ≤ w.heap.size) := ⟨by have := H.out.base.2; omega, H.out.1⟩
  clear H HP
  go_loopg [9] 3 (fun gg s9 wr => ∃ (i : Nat) (l1 : List Nat), s9 = .int .i64 (i : Int) ∧ i0 ≤ i ∧ i ≤ i0 + 3 ∧ i0 + 3 - i ≤ gg ∧ Hid (SegS B g cap L a (a + n) l l1 w wr ∧ ∃ X : Nat, X < 18446744073709551616 ∧ wr.heap[w.heap.size]? = some (.cells #[.int .u64 (X : Int)] 92 (0, 0))))
  case atStart => exact ⟨i0, l, by rw [HE.out], Nat.le_refl _, by omega, by omega, H0.out⟩
  case round =>
    clear H0
    obtain ⟨i, l1, rfl, hi1, hi2, hg, HI⟩ := hrel
    by_cases hlt : i < i0 + 3
    · have z1 : (i : Int) ≤ (a : Int) + (q : Int) * 2 + 1 := by omega
      obtain ⟨X, hX, hbx⟩ := HI.out.2
      have HNX : Hid (Calls Tryd.prog 84 #[.pointer (some ⟨w.heap.size, 0, none⟩)] wr fun e w' => ∃ Y : Nat, Y < 18446744073709551616 ∧ e = .returned (.int .u64 (Y : Int)) ∧ w' = (wr.setCell ⟨w.heap.size, 0, none⟩ (.int .u64 (Y : Int))).drewN 3) := next171_any _ X hX wr (cellO hbx rfl) (freeO hbx _)
      have HW : Hid (∀ Y : Nat, SegS B g cap L a (a + n) l l1 w ((wr.setCell ⟨w.heap.size, 0, none⟩ (.int .u64 (Y : Int))).drewN 3) ∧ ((wr.setCell ⟨w.heap.size, 0, none⟩ (.int .u64 (Y : Int))).drewN 3).heap[w.heap.size]? = some (.cells #[.int .u64 (Y : Int)] 92 (0, 0))) := fun Y => by
        refine ⟨⟨HI.out.1.1, (HI.out.1.2.1.setOther HNE.out.1).drewN 3, below_drewN (HI.out.1.2.2.setCell (p := ⟨w.heap.size, 0, none⟩) HNE.out.2 _) 3⟩, ?_⟩
        show ((wr.setCell ⟨w.heap.size, 0, none⟩ (.int .u64 (Y : Int)))).heap[w.heap.size]? = _
        rw [heap_set_eq hbx]; rfl
      clear hbx
      have hM0 : (0 : Int) ≤ (M : Int) - 1 := by omega
      have hwM : IntKind.u64.wrap ((M : Int) - 1) = (M : Int) - 1 := IntWalk.u64_in _ (by constructor <;> omega)
      go_wp2_with fail
      go_at_call 84
      refine HNX.out.mono ?_
      rintro en w2 ⟨Y, hY, rfl, rfl⟩
      have HW2 := Lib.hid (HW.out Y)
      clear HW HNX
      generalize (wr.setCell ⟨w.heap.size, 0, none⟩ (.int .u64 (Y : Int))).drewN 3 = w2 at HW2 ⊢
      obtain ⟨O, hO⟩ : ∃ O : Nat, O = Y &&& (M - 1) := ⟨_, rfl⟩
      have lO : O ≤ M - 1 := by rw [hO]; exact Nat.and_le_right
      have eAnd : bits .and .u64 (Y : Int) ((M : Int) - 1) = (O : Int) := by
        rw [show ((M : Int) - 1) = ((M - 1 : Nat) : Int) by omega, bits_and_u64_nat _ _ hY (by omega), hO]
      clear hO
      have hOb : (O : Int) ≤ 2000000 := by omega
      have hwO : IntKind.i64.wrap (O : Int) = (O : Int) := IntWalk.i64_in _ (by constructor <;> omega)
      have hlen : l1.length = L := by have := HI.out.1.1.len; have := HL.out; omega
      have HLN := Lib.hid hlen
      obtain ⟨o, ho, hon⟩ : ∃ o : Nat, (o = if n ≤ O then O - n else O) ∧ o < n := ⟨_, rfl, by split <;> omega⟩
      obtain ⟨x, hx⟩ : ∃ x, l1[i]? = some x := ⟨_, List.getElem?_eq_getElem (by omega)⟩
      obtain ⟨y, hy⟩ : ∃ y, l1[a + o]? = some y := ⟨_, List.getElem?_eq_getElem (by omega)⟩
      have cx := HW2.out.1.2.1.cell hx hlen.symm
      have cy := HW2.out.1.2.1.cell hy hlen.symm
      have y0 := HW2.out.1.2.1.free i
      have y1 := HW2.out.1.2.1.free (a + o)
      have HSW : Hid (∀ k, SegS B g cap L a (a + n) l ((l1.set i y).set (a + o) x) w (((w2.drewN k).setCell ⟨g, i, none⟩ (.int .u32 (y : Int))).setCell ⟨g, a + o, none⟩ (.int .u32 (x : Int))) ∧ ∃ X : Nat, X < 18446744073709551616 ∧ (((w2.drewN k).setCell ⟨g, i, none⟩ (.int .u32 (y : Int))).setCell ⟨g, a + o, none⟩ (.int .u32 (x : Int))).heap[w.heap.size]? = some (.cells #[.int .u64 (X : Int)] 92 (0, 0))) := fun k => by
        refine ⟨HW2.out.1.swap HL.out ⟨by omega, by omega⟩ ⟨by omega, by omega⟩ hx hy k, Y, hY, ?_⟩
        rw [heap_set_ne HNE.out.1, heap_set_ne HNE.out.1]
        exact HW2.out.2
      have b0 : (0 : Int) ≤ (i : Int) := by omega
      have b1 : (i : Int) < (L : Int) := by omega
      have b2 : (0 : Int) ≤ (a : Int) + (o : Int) := by omega
      have b3 : (a : Int) + (o : Int) < (L : Int) := by omega
      clear HI HW2 hlen hM1 hM2 hY
      by_cases hie : i = a + o
      · subst hie
        obtain rfl : x = y := by rw [hx] at hy; exact Option.some.inj hy
        clear hx hy
        by_cases hnO : n ≤ O
        · have z2 : (n : Int) ≤ (O : Int) := by omega
          rw [if_pos hnO] at ho
          have z3 : (O : Int) - (n : Int) = (o : Int) := by omega
          clear hnO ho
          go_wp2_with fail
          go_region
          all_goals (
            go_wp2_with fail
            go_roundg (i0 + 3 - (a + o + 1))
            case measure => omega
            case rel => exact ⟨a + o + 1, _, by go_num, by omega, by omega, Nat.le_refl _, HSW.out _⟩)
        · have z2 : ¬ (n : Int) ≤ (O : Int) := by omega
          rw [if_neg hnO] at ho
          subst ho
          clear hnO
          go_wp2_with fail
          go_region
          all_goals (
            go_wp2_with fail
            go_roundg (i0 + 3 - (a + o + 1))
            case measure => omega
            case rel => exact ⟨a + o + 1, _, by go_num, by omega, by omega, Nat.le_refl _, HSW.out _⟩)
      · clear hx hy
        by_cases hnO : n ≤ O
        · have z2 : (n : Int) ≤ (O : Int) := by omega
          rw [if_pos hnO] at ho
          have z3 : (O : Int) - (n : Int) = (o : Int) := by omega
          clear hnO ho
          go_wp2_with fail
          go_region
          all_goals (
            go_wp2_with fail
            go_roundg (i0 + 3 - (i + 1))
            case measure => omega
            case rel => exact ⟨i + 1, _, by go_num, by omega, by omega, Nat.le_refl _, HSW.out _⟩)
        · have z2 : ¬ (n : Int) ≤ (O : Int) := by omega
          rw [if_neg hnO] at ho
          subst ho
          clear hnO
          go_wp2_with fail
          go_region
          all_goals (
            go_wp2_with fail
            go_roundg (i0 + 3 - (i + 1))
            case measure => omega
            case rel => exact ⟨i + 1, _, by go_num, by omega, by omega, Nat.le_refl _, HSW.out _⟩)
    · have z1 : ¬ (i : Int) ≤ (a : Int) + (q : Int) * 2 + 1 := by omega
      go_wp2_with fail
      go_end0
      exact ⟨rfl, l1, HI.out.1⟩
end Go.Proofs.YtaniiennfogjaaaDoor
