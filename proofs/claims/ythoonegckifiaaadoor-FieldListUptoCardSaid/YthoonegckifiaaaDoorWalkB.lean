/-
  The walk of the reference's Put.
-/
import Derived.Test.YthoonegckifiaaaDoorWalkA
namespace Go.Proofs.YthoonegckifiaaaDoor
open Go.RowKit
set_option linter.unusedSimpArgs false
set_option linter.unusedVariables false
set_option maxHeartbeats 4000000
set_option maxRecDepth 100000

theorem app_first {w w1 : World} {e : TypeId} {v1 : Value} {l : List Nat} (hown : w1.ownsRow w.heap.size e 1 v1 (([] : List Nat) ++ l).length (u8s (([] : List Nat) ++ l)))
    (hg : w.grownBy w1 (Value.slice none 0 0).ownBlock) : w1.ownsRow w.heap.size e 1 v1 l.length (u8s l) ∧ Below w.heap.size w w1 := by
  rw [List.nil_append] at hown
  exact ⟨hown, (Below.refl _ w).grown hg (Nat.le_refl _) (fun j hj => by cases hj)⟩
theorem rput_any (l : List Nat) (v : Value) (n : Int) (x m : Nat) (w : World) (hx : x < 18446744073709551616) (hm : (m : Int) = min (max n 0) 8) (hn : I64 n) (hl : l.length ≤ 140737489403896) (hr : Rd w v l) :
    Calls Tryd.prog 15 #[v, .int .i64 n, .int .u64 x] w fun e w' => ∃ v', e = .returned v' ∧ w'.ownsRow w.heap.size 5 1 v' (l ++ lowB m x).length (u8s (l ++ lowB m x)) ∧ Below w.heap.size w w' := by
  have hc : (n < 0 ∧ m = 0) ∨ (n = m ∧ m ≤ 8) ∨ (8 < n ∧ m = 8) := by omega
  obtain ⟨i0, hi, hz0, hz1, hz2⟩ := info_parts u8_info
  have HR := Lib.hid hr
  have HL0 : Hid (([] : List Nat).length + l.length ≤ 140737489403904) := by unfold Hid; simp; omega
  obtain ⟨ad, cap, rfl, _⟩ := hr
  clear hm
  rcases hc with ⟨h1, h2⟩ | ⟨rfl, h1⟩ | ⟨h1, h2⟩
  · subst h2
    go_enter Tryd.func15, Tryd.ntmps15
    go_wp2_with (at_builtin; refine wpList_append_rd _ rfl (.tmp 9) (.tmp 10) 22 rfl w.heap.size 5 i0 Tryd.underlying22 hi hz0 hz1 hz2 _ [] rfl (World.ownsRow_nil _ _ _ _) _ l rfl HR.out HL0.out (Nat.le_refl _) ?_; intro v1 w1 hown1 hg1; have X1 := Lib.hid (app_first hown1 hg1); clear hown1 hg1)
    refine wp_loop_rounds 1 ?_
    rw [rounds_succ]
    go_wp2
    go_ret
    refine ⟨v1, rfl, ?_, X1.out.2⟩
    have e : l ++ lowB 0 x = l := by simp [lowB]
    rw [e]; exact X1.out.1
  · have _h := h1
    go_enter Tryd.func15, Tryd.ntmps15
    go_wp2_with (at_builtin; refine wpList_append_rd _ rfl (.tmp 9) (.tmp 10) 22 rfl w.heap.size 5 i0 Tryd.underlying22 hi hz0 hz1 hz2 _ [] rfl (World.ownsRow_nil _ _ _ _) _ l rfl HR.out HL0.out (Nat.le_refl _) ?_; intro v1 w1 hown1 hg1; have X1 := Lib.hid (app_first hown1 hg1); clear hown1 hg1)
    go_loopg [7, 8] m (fun g s7 s8 wr => ∃ (j : Nat) (v : Value), j ≤ m ∧ j ≤ g ∧ v = s7 ∧ s8 = .int .i64 ((j : Int) - 1) ∧ wr.ownsRow w.heap.size 5 1 v (l ++ (lowB m x).take (m - j)).length (u8s (l ++ (lowB m x).take (m - j))) ∧ Below w.heap.size w wr)
    case atStart => exact ⟨m, _, by omega, by omega, rfl, by go_num, by have := X1.out.1; simpa using this, X1.out.2⟩
    case round =>
      obtain ⟨j, v, hj, hg, rfl, rfl, hown, hbel⟩ := hrel
      have HO := Lib.hid hown
      have HW := Lib.hid hbel
      have hz : w.heap.size ≤ wr.heap.size := hbel.size
      clear hown hbel
      by_cases hlt : 0 < j
      · obtain ⟨i, rfl⟩ : ∃ i, j = i + 1 := ⟨j - 1, by omega⟩
        have HS : Hid (l ++ (lowB m x).take (m - (i + 1)) ++ [x / 256 ^ i % 256] = l ++ (lowB m x).take (m - i)) := by unfold Hid; rw [lowB_rev m x i (by omega), List.append_assoc]
        have HL1 : Hid ((l ++ (lowB m x).take (m - (i + 1))).length + 1 ≤ 140737489403904) := by unfold Hid; rw [List.length_append, List.length_take]; omega
        have hi1 : ((i + 1 : Nat) : Int) - 1 = (i : Int) := by omega
        have hsh := shift_byte x i
        have hbt : x / 256 ^ i % 256 < 256 := Nat.mod_lt _ (by omega)
        have HRD : Hid (∀ W : World, Rd (W.alloc (.cells #[.int .u8 ((x : Int) / 2 ^ (8 * i) % 256)] 5)) (.slice (some ⟨W.heap.size, 0, none⟩) 1 1) [x / 256 ^ i % 256]) := fun W => by
          have h := (Blk.new W 5 (u8s [x / 256 ^ i % 256]).toArray).rd (by intro y hy; simp at hy; omega)
          have e : (u8s [x / 256 ^ i % 256]).toArray = #[.int .u8 ((x : Int) / 2 ^ (8 * i) % 256)] := by simp only [u8s, List.map_cons, List.map_nil]; rw [hsh]
          rw [e] at h; exact h
        clear hsh
        go_wp2_with (at_builtin; refine wpList_append_rd _ rfl (.tmp 20) (.tmp 26) 22 rfl w.heap.size 5 i0 Tryd.underlying22 hi hz0 hz1 hz2 v (l ++ (lowB m x).take (m - (i + 1))) rfl (HO.out.alloc _) _ [x / 256 ^ i % 256] rfl (HRD.out _) HL1.out (by simp; omega) ?_; intro v2 w2 hown2 hg2; have X2 : Hid (w2.ownsRow w.heap.size 5 1 v2 (l ++ (lowB m x).take (m - i)).length (u8s (l ++ (lowB m x).take (m - i))) ∧ Below w.heap.size w w2) := ⟨HS.out ▸ hown2, below_grown (HW.out.alloc hz _) (HO.out.alloc _) hg2 (by simp; omega)⟩; clear hown2 hg2)
        go_roundg i
        case measure => omega
        case rel => exact ⟨i, v2, by omega, Nat.le_refl _, rfl, by go_num, X2.out.1, X2.out.2⟩
      · have hj0 : j = 0 := by omega
        subst hj0
        go_wp2
        go_ret
        refine ⟨v, rfl, ?_, HW.out⟩
        have := HO.out
        rw [Nat.sub_zero, List.take_of_length_le (by rw [lowB_len]; exact Nat.le_refl _)] at this
        exact this
  · subst h2
    go_enter Tryd.func15, Tryd.ntmps15
    go_wp2_with (at_builtin; refine wpList_append_rd _ rfl (.tmp 9) (.tmp 10) 22 rfl w.heap.size 5 i0 Tryd.underlying22 hi hz0 hz1 hz2 _ [] rfl (World.ownsRow_nil _ _ _ _) _ l rfl HR.out HL0.out (Nat.le_refl _) ?_; intro v1 w1 hown1 hg1; have X1 := Lib.hid (app_first hown1 hg1); clear hown1 hg1)
    go_loopg [7, 8] 8 (fun g s7 s8 wr => ∃ (j : Nat) (v : Value), j ≤ 8 ∧ j ≤ g ∧ v = s7 ∧ s8 = .int .i64 ((j : Int) - 1) ∧ wr.ownsRow w.heap.size 5 1 v (l ++ (lowB 8 x).take (8 - j)).length (u8s (l ++ (lowB 8 x).take (8 - j))) ∧ Below w.heap.size w wr)
    case atStart => exact ⟨8, _, by omega, by omega, rfl, by go_num, by have := X1.out.1; simpa using this, X1.out.2⟩
    case round =>
      obtain ⟨j, v, hj, hg, rfl, rfl, hown, hbel⟩ := hrel
      have HO := Lib.hid hown
      have HW := Lib.hid hbel
      have hz : w.heap.size ≤ wr.heap.size := hbel.size
      clear hown hbel
      by_cases hlt : 0 < j
      · obtain ⟨i, rfl⟩ : ∃ i, j = i + 1 := ⟨j - 1, by omega⟩
        have HS : Hid (l ++ (lowB 8 x).take (8 - (i + 1)) ++ [x / 256 ^ i % 256] = l ++ (lowB 8 x).take (8 - i)) := by unfold Hid; rw [lowB_rev 8 x i (by omega), List.append_assoc]
        have HL1 : Hid ((l ++ (lowB 8 x).take (8 - (i + 1))).length + 1 ≤ 140737489403904) := by unfold Hid; rw [List.length_append, List.length_take]; omega
        have hi1 : ((i + 1 : Nat) : Int) - 1 = (i : Int) := by omega
        have hsh := shift_byte x i
        have hbt : x / 256 ^ i % 256 < 256 := Nat.mod_lt _ (by omega)
        have HRD : Hid (∀ W : World, Rd (W.alloc (.cells #[.int .u8 ((x : Int) / 2 ^ (8 * i) % 256)] 5)) (.slice (some ⟨W.heap.size, 0, none⟩) 1 1) [x / 256 ^ i % 256]) := fun W => by
          have h := (Blk.new W 5 (u8s [x / 256 ^ i % 256]).toArray).rd (by intro y hy; simp at hy; omega)
          have e : (u8s [x / 256 ^ i % 256]).toArray = #[.int .u8 ((x : Int) / 2 ^ (8 * i) % 256)] := by simp only [u8s, List.map_cons, List.map_nil]; rw [hsh]
          rw [e] at h; exact h
        clear hsh
        go_wp2_with (at_builtin; refine wpList_append_rd _ rfl (.tmp 20) (.tmp 26) 22 rfl w.heap.size 5 i0 Tryd.underlying22 hi hz0 hz1 hz2 v (l ++ (lowB 8 x).take (8 - (i + 1))) rfl (HO.out.alloc _) _ [x / 256 ^ i % 256] rfl (HRD.out _) HL1.out (by simp; omega) ?_; intro v2 w2 hown2 hg2; have X2 : Hid (w2.ownsRow w.heap.size 5 1 v2 (l ++ (lowB 8 x).take (8 - i)).length (u8s (l ++ (lowB 8 x).take (8 - i))) ∧ Below w.heap.size w w2) := ⟨HS.out ▸ hown2, below_grown (HW.out.alloc hz _) (HO.out.alloc _) hg2 (by simp; omega)⟩; clear hown2 hg2)
        go_roundg i
        case measure => omega
        case rel => exact ⟨i, v2, by omega, Nat.le_refl _, rfl, by go_num, X2.out.1, X2.out.2⟩
      · have hj0 : j = 0 := by omega
        subst hj0
        go_wp2
        go_ret
        refine ⟨v, rfl, ?_, HW.out⟩
        have := HO.out
        rw [Nat.sub_zero, List.take_of_length_le (by rw [lowB_len]; exact Nat.le_refl _)] at this
        exact this
end Go.Proofs.YthoonegckifiaaaDoor
