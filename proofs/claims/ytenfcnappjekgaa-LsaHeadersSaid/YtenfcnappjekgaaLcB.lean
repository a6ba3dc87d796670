/-
  The reference's Put: bytes appended to a row of the caller's.
-/
import Derived.Test.YtenfcnappjekgaaLaX
namespace Go.Proofs.Ytenfcnappjekgaa
open Go.RowKit
set_option linter.unusedSimpArgs false
set_option linter.unusedVariables false
set_option maxHeartbeats 4000000
set_option maxRecDepth 100000

theorem rput_any (l : List Nat) (v : Value) (m x B : Nat) (w : World) (hx : x < 18446744073709551616) (hm : 0 < m) (hm8 : m ≤ 8) (hl : l.length ≤ 1048576) (hB : B ≤ w.heap.size) (hown : w.ownsRow B 5 1 v l.length (u8s l)) :
    Calls Try.prog 63 #[v, .int .i64 (m : Int), .int .u64 (x : Int)] w fun e w' => ∃ v', e = .returned v' ∧ w'.ownsRow B 5 1 v' (l ++ lowB m x).length (u8s (l ++ lowB m x)) ∧ Below B w w' ∧ Kt w w' := by
  obtain ⟨i0, hi, hz0, hz1, hz2⟩ := info_parts u8_info
  have HO0 := Lib.hid hown
  have LL := Lib.hid hl
  clear hown
  go_enter Try.func63, Try.ntmps63
  go_wp2
  go_loopg [0, 7] m (fun g s0 s7 wr => ∃ (j : Nat) (v : Value), j ≤ m ∧ j ≤ g ∧ v = s0 ∧ s7 = .int .i64 ((j : Int) - 1) ∧ Hid (wr.ownsRow B 5 1 v (l ++ (lowB m x).take (m - j)).length (u8s (l ++ (lowB m x).take (m - j)))) ∧ Hid (Below B w wr ∧ Kt w wr))
  case atStart => exact ⟨m, _, by omega, by omega, rfl, by go_num, by have := HO0.out; unfold Hid; simpa using this, ⟨Below.refl _ _, Kt.refl _⟩⟩
  case round =>
    obtain ⟨j, v, hj, hg, rfl, rfl, HO, HW⟩ := hrel
    have hz : B ≤ wr.heap.size := Nat.le_trans hB HW.out.1.size
    by_cases hlt : 0 < j
    · obtain ⟨i, rfl⟩ : ∃ i, j = i + 1 := ⟨j - 1, by omega⟩
      have HS : Hid (l ++ (lowB m x).take (m - (i + 1)) ++ [x / 256 ^ i % 256] = l ++ (lowB m x).take (m - i)) := by unfold Hid; rw [lowB_rev m x i (by omega), List.append_assoc]
      have HL1 : Hid ((l ++ (lowB m x).take (m - (i + 1))).length + 1 ≤ 140737489403904) := by unfold Hid; rw [List.length_append, List.length_take]; have := LL.out; omega
      have hi1 : ((i + 1 : Nat) : Int) - 1 = (i : Int) := by omega
      have hsh := shift_byte x i
      have hbt : x / 256 ^ i % 256 < 256 := Nat.mod_lt _ (by omega)
      have HRD : Hid (∀ W : World, Rd (W.alloc (.cells #[.int .u8 ((x : Int) / 2 ^ (8 * i) % 256)] 5)) (.slice (some ⟨W.heap.size, 0, none⟩) 1 1) [x / 256 ^ i % 256]) := fun W => by
        have h := (Blk.new W 5 (u8s [x / 256 ^ i % 256]).toArray).rd (by intro y hy; simp at hy; omega)
        have e : (u8s [x / 256 ^ i % 256]).toArray = #[.int .u8 ((x : Int) / 2 ^ (8 * i) % 256)] := by simp only [u8s, List.map_cons, List.map_nil]; rw [hsh]
        rw [e] at h; exact h
      clear hsh
      go_wp2_with (at_builtin; refine wpList_append_rd _ rfl (.tmp 14) (.tmp 21) 44 rfl B 5 i0 Try.underlying44 hi hz0 hz1 hz2 v (l ++ (lowB m x).take (m - (i + 1))) rfl (HO.out.alloc _) _ [x / 256 ^ i % 256] rfl (HRD.out _) HL1.out (by simp; omega) ?_; intro v2 w2 hown2 hg2; have X2 : Hid (w2.ownsRow B 5 1 v2 (l ++ (lowB m x).take (m - i)).length (u8s (l ++ (lowB m x).take (m - i)))) := HS.out ▸ hown2; have X3 : Hid (Below B w w2 ∧ Kt w w2) := ⟨HW.out.1.trans (((below_alloc wr _).mono hz).trans (below_grown (Below.refl _ _) (HO.out.alloc _) hg2 (by simp; omega))), HW.out.2.trans ((Kt.below (below_alloc wr _)).trans (Kt.grown (HO.out.alloc _) hg2))⟩; clear hown2 hg2)
      go_roundg i
      case measure => omega
      case rel => exact ⟨i, v2, by omega, Nat.le_refl _, rfl, by go_num, X2, X3⟩
    · have hj0 : j = 0 := by omega
      subst hj0
      go_wp2
      go_ret
      refine ⟨v, rfl, ?_, HW.out.1, HW.out.2⟩
      have := HO.out
      rw [Nat.sub_zero, List.take_of_length_le (by rw [lowB_len]; exact Nat.le_refl _)] at this
      exact this
end Go.Proofs.Ytenfcnappjekgaa
