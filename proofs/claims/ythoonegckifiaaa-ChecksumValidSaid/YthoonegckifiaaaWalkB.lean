/-
  The walks of Internet and of the sums.
-/
import Derived.Test.YthoonegckifiaaaWalkA
import Derived.RegionTactic
import Derived.BigRegion
namespace Go.Proofs.Ythoonegckifiaaa
open Go.RowKit
set_option linter.unusedSimpArgs false
set_option linter.unusedVariables false
set_option maxHeartbeats 4000000
set_option maxRecDepth 100000

theorem residue_any (n m : Int) (hn : -4611686018427387904 ≤ n ∧ n ≤ 9223372036854775807) (hm : 0 < m ∧ m ≤ 65535) (w : World) :
    Calls Try.prog 20 #[.int .i64 n, .int .i64 m] w fun e w' => e = .returned (.int .i64 (res n m)) ∧ w = w' := by
  have hlt := Int.tmod_lt_of_pos n hm.1
  have hge : -m < n.tmod m := by
    have := Int.tmod_lt_of_pos (-n) hm.1
    rw [Int.neg_tmod] at this; omega
  have hm0 : m ≠ 0 := by omega
  by_cases h : n.tmod m ≤ 0
  · have H : Hid (res n m = n.tmod m + m) := by unfold Hid res; rw [if_pos h]
    go_enter Try.func20, Try.ntmps20
    go_wp2
    go_ret
    exact ⟨ret_i H.out.symm, rfl⟩
  · have H : Hid (res n m = n.tmod m) := by unfold Hid res; rw [if_neg h]
    go_enter Try.func20, Try.ntmps20
    go_wp2
    go_ret
    exact ⟨ret_i H.out.symm, rfl⟩

theorem internet_any (l : List Nat) (v : Value) (w : World) (hl : l.length ≤ 140737488355328) (hr : Rd w v l) :
    Calls Try.prog 10 #[v] w fun e w' => e = .returned (.int .i64 (inet l)) ∧ Below w.heap.size w w' := by
  obtain ⟨ad, cap, rfl, hcap, hby, hat⟩ := hr
  have HAT := Lib.hid hat
  have HBY := Lib.hid hby
  clear hat hby
  go_enter Try.func10, Try.ntmps10
  go_wp2
  go_loopg [4, 8] l.length (fun g s4 s8 wr => ∃ k : Nat, k ≤ l.length ∧ l.length - k ≤ g ∧ s8 = .int .i64 k ∧ Blk wr w.heap.size 35 #[.int .i64 ((evod (l.take k)).1 : Nat), .int .i64 ((evod (l.take k)).2 : Nat)] ∧ Below w.heap.size w wr)
  case atStart => exact ⟨0, by omega, by omega, rfl, Blk.new _ _ _, (Below.refl _ _).alloc (Nat.le_refl _) _⟩
  case round =>
    obtain ⟨k, hk, hg, rfl, hblk0, hbel⟩ := hrel
    have hwb : (evod (l.take k)).1 ≤ 255 * k ∧ (evod (l.take k)).2 ≤ 255 * k := by
      have h1 := evod_le (l.take k) (HBY.out.take k)
      have h2 : (l.take k).length = k := by rw [List.length_take]; omega
      rw [h2] at h1; exact h1
    have e0 := hblk0.cell 0
    have e1 := hblk0.cell 1
    have f0 := hblk0.frozen 0
    have f1 := hblk0.frozen 1
    have HB := Lib.hid hblk0
    have HW := Lib.hid hbel
    clear hblk0 hbel
    simp at e0 e1
    by_cases hlt : k < l.length
    · obtain ⟨x, hx⟩ : ∃ x, l[k]? = some x := ⟨_, List.getElem?_eq_getElem hlt⟩
      obtain ⟨blk, off, rfl, hblk, hc0⟩ := HAT.out k x hx
      have hcx : wr.cell? ⟨blk, off + k, none⟩ = some (.int .u8 (x : Int)) := (HW.out.cell (p := ⟨blk, off + k, none⟩) hblk).trans hc0
      have hxb := HBY.out.get hx
      have HV := Lib.hid (evod_snoc (l.take k) x)
      have HX := Lib.hid hx
      clear hx hc0
      rcases (by omega : k % 2 = 0 ∨ k % 2 = 1) with hp | hp
      · have hp' : (k : Int) % 2 = 0 := by omega
        have HE : Hid (evod (l.take (k + 1)) = ((evod (l.take k)).1 + x, (evod (l.take k)).2)) := by
          have := HV.out
          rw [← take_snoc HX.out, List.length_take, Nat.min_eq_left (by omega), if_pos hp] at this
          exact this
        go_wp2
        go_region
        go_wp2
        go_roundg (l.length - (k + 1))
        case measure => omega
        case rel =>
          refine ⟨k + 1, by omega, Nat.le_refl _, by go_num, ?_, below_drew (HW.out.setCell (Nat.le_refl _) _)⟩
          rw [HE.out]; exact (HB.out.set0 _).drew
      · have hp' : (k : Int) % 2 = 1 := by omega
        have HE : Hid (evod (l.take (k + 1)) = ((evod (l.take k)).1, (evod (l.take k)).2 + x)) := by
          have := HV.out
          rw [← take_snoc HX.out, List.length_take, Nat.min_eq_left (by omega), if_neg (by omega)] at this
          exact this
        go_wp2
        go_region
        go_wp2
        go_roundg (l.length - (k + 1))
        case measure => omega
        case rel =>
          refine ⟨k + 1, by omega, Nat.le_refl _, by go_num, ?_, below_drew (HW.out.setCell (Nat.le_refl _) _)⟩
          rw [HE.out]; exact (HB.out.set1 _).drew
    · have hkl : k = l.length := by omega
      subst hkl
      have HT : Hid (l.take l.length = l) := List.take_length
      have hws : ws l = 256 * (evod l).1 + (evod l).2 := rfl
      rw [HT.out] at hwb e0 e1
      by_cases hz : ws l = 0
      · have HZ : Hid (inet l = 65535) := by unfold Hid inet; rw [if_pos hz]
        have z1 : 256 * ((evod l).1 : Int) + ((evod l).2 : Int) = 0 := by omega
        clear hws hz
        go_wp2
        go_ret
        exact ⟨ret_i HZ.out.symm, HW.out⟩
      · have HZ : Hid (inet l = 65535 - res (256 * ((evod l).1 : Int) + ((evod l).2 : Int)) 65535) := by
          unfold Hid inet; rw [if_neg hz, hws]; push_cast; rfl
        have z1 : ¬ 256 * ((evod l).1 : Int) + ((evod l).2 : Int) = 0 := by omega
        have hrb := res_spec (256 * ((evod l).1 : Int) + ((evod l).2 : Int)) 65535 (by omega)
        have hr1 := hrb.1
        have hr2 := hrb.2.1
        clear hrb hws hz
        go_wp2_with (go_at_call 20; refine (residue_any _ _ (by omega) (by omega) _).mono ?_; rintro e w' ⟨rfl, rfl⟩)
        go_ret
        exact ⟨ret_i HZ.out.symm, HW.out⟩
end Go.Proofs.Ythoonegckifiaaa
