/-
  The walks of field's lowest, join and Put.
-/
import Derived.Test.YtenfcnappjekgaaBase
import Derived.WalkSmall
import Derived.Deep.OwnRows
import Derived.LoopN
namespace Go.Proofs.Ytenfcnappjekgaa
open Go.RowKit
set_option linter.unusedSimpArgs false
set_option linter.unusedVariables false
set_option maxHeartbeats 4000000
set_option maxRecDepth 100000

/-- a row of bytes, the first k laid, the rest 0 -/
def laid (l : List Nat) (k : Nat) : Array Value := (u8s (l.take k) ++ List.replicate (l.length - k) (Value.int .u8 0)).toArray
theorem laid_zero (l : List Nat) : laid l 0 = madeCells #[.int .u8 0] l.length := by
  apply Array.ext
  · simp [laid, u8s, madeCells]
  · intro i h1 h2
    simp [laid, u8s, madeCells, Nat.mod_one]
theorem laid_all (l : List Nat) : laid l l.length = (u8s l).toArray := by simp [laid]
theorem laid_get (l : List Nat) (k : Nat) (h : k < l.length) : (laid l k)[k]? = some (.int .u8 0) := by
  have e : (u8s (l.take k)).length = k := by rw [u8s_len, List.length_take]; omega
  unfold laid
  rw [List.getElem?_toArray, List.getElem?_append_right (by omega), e, Nat.sub_self, List.getElem?_replicate, if_pos (by omega)]
theorem laid_set (l : List Nat) (k x : Nat) (h : l[k]? = some x) : (laid l k).setIfInBounds k (.int .u8 (x : Int)) = laid l (k + 1) := by
  have hk := (List.getElem?_eq_some_iff.1 h).1
  have e : (u8s (l.take k)).length = k := by rw [u8s_len, List.length_take]; omega
  unfold laid
  rw [List.setIfInBounds_toArray, take_snoc h, u8s_app, List.set_append_right _ _ (by omega), e, Nat.sub_self]
  congr 1
  rw [show l.length - k = (l.length - (k + 1)) + 1 by omega, List.replicate_succ, List.set_cons_zero]
  simp [u8s]

theorem shift_byte (x j : Nat) : (((x / 256 ^ j % 256 : Nat) : Int)) = (x : Int) / 2 ^ (8 * j) % 256 := by
  rw [show (256 : Nat) ^ j = 2 ^ (8 * j) by rw [Nat.pow_mul]]
  push_cast; rfl
theorem u8_info : (Try.prog.info? 5).map (fun i => (i.zero, i.size, i.bytes)) = some (some (.int .u8 0), 1, 1) := by kernel_rfl
theorem lowest_any (n : Int) (x : Nat) (m : Nat) (hx : x < 18446744073709551616) (hm : (m : Int) = min (max n 0) 8) (hn : I64 n) (w : World) :
    Calls Try.prog 111 #[.int .i64 n, .int .u64 x] w fun e w' => e = .returned (.slice (some ⟨w.heap.size, 0, none⟩) m m) ∧ Blk w' w.heap.size 5 (u8s (lowB m x)).toArray ∧ Below w.heap.size w w' := by
  have hc : (n < 0 ∧ m = 0) ∨ (n = m ∧ m ≤ 8) ∨ (8 < n ∧ m = 8) := by omega
  have hm8 : m ≤ 8 := by omega
  have hmk : ∀ (z : Int), z = m → ∀ W : World, (Instr.makeSlice 44 (.int .i64 z) (.int .i64 z)).run Try.prog W = .ok (.slice (some ⟨W.heap.size, 0, none⟩) m m) (W.alloc (.cells (laid (lowB m x) 0) 5)) := by
    rintro z rfl W
    rw [laid_zero, lowB_len]
    exact run_make_row' (P := Try.prog) 44 5 (.int .u8 0) 1 Try.underlying44 u8_info rfl .i64 .i64 m (by omega) (by omega) W
  have HG : Hid (∀ k, k < m → (lowB m x)[k]? = some (x / 256 ^ (m - 1 - k) % 256)) := fun k hk => lowB_get m x k hk
  have HL : Hid ((lowB m x).length = m) := lowB_len m x
  clear hm
  rcases hc with ⟨h1, h2⟩ | ⟨rfl, h1⟩ | ⟨h1, h2⟩
  · have hmk := hmk 0 (by omega)
    subst h2
    go_enter Try.func111, Try.ntmps111
    go_wp2
    refine wp_loop_rounds 1 ?_
    rw [rounds_succ]
    go_wp2
    go_ret
    exact ⟨rfl, Blk.new _ _ _, (Below.refl _ _).alloc (Nat.le_refl _) _⟩
  · have hmk := hmk m rfl
    go_enter Try.func111, Try.ntmps111
    go_wp2
    go_loopg [6, 13] m (fun g s6 s13 wr => ∃ k : Nat, k ≤ m ∧ m - k ≤ g ∧ s13 = .int .i64 k ∧ Blk wr w.heap.size 5 (laid (lowB m x) k) ∧ Below w.heap.size w wr)
    case atStart => exact ⟨0, by omega, by omega, rfl, Blk.new _ _ _, (Below.refl _ _).alloc (Nat.le_refl _) _⟩
    case round =>
      obtain ⟨k, hk, hg, rfl, hblk, hbel⟩ := hrel
      have HB := Lib.hid hblk
      have HW := Lib.hid hbel
      by_cases hlt : k < m
      · have e0 : wr.cell? ⟨w.heap.size, k, none⟩ = some (.int .u8 0) := by rw [hblk.cell k]; exact laid_get _ _ (by rw [HL.out]; exact hlt)
        have f0 := hblk.frozen k
        clear hblk hbel
        go_wp2
        go_roundg (m - (k + 1))
        case measure => omega
        case rel =>
          refine ⟨k + 1, by omega, Nat.le_refl _, by go_num, ?_, HW.out.setCell (p := ⟨_, _, none⟩) (Nat.le_refl _) _⟩
          rw [← laid_set _ _ _ (HG.out k hlt), shift_byte]
          exact HB.out.set_ k _
      · have hkl : k = m := by omega
        subst hkl
        clear hblk hbel
        go_wp2
        go_ret
        refine ⟨rfl, ?_, HW.out⟩
        have := HB.out
        rw [← laid_all, HL.out]
        exact this
  · have hmk := hmk 8 (by omega)
    subst h2
    go_enter Try.func111, Try.ntmps111
    go_wp2
    go_loopg [6, 13] 8 (fun g s6 s13 wr => ∃ k : Nat, k ≤ 8 ∧ 8 - k ≤ g ∧ s13 = .int .i64 k ∧ Blk wr w.heap.size 5 (laid (lowB 8 x) k) ∧ Below w.heap.size w wr)
    case atStart => exact ⟨0, by omega, by omega, rfl, Blk.new _ _ _, (Below.refl _ _).alloc (Nat.le_refl _) _⟩
    case round =>
      obtain ⟨k, hk, hg, rfl, hblk, hbel⟩ := hrel
      have HB := Lib.hid hblk
      have HW := Lib.hid hbel
      by_cases hlt : k < 8
      · have e0 : wr.cell? ⟨w.heap.size, k, none⟩ = some (.int .u8 0) := by rw [hblk.cell k]; exact laid_get _ _ (by rw [HL.out]; exact hlt)
        have f0 := hblk.frozen k
        clear hblk hbel
        go_wp2
        go_roundg (8 - (k + 1))
        case measure => omega
        case rel =>
          refine ⟨k + 1, by omega, Nat.le_refl _, by go_num, ?_, HW.out.setCell (p := ⟨_, _, none⟩) (Nat.le_refl _) _⟩
          rw [← laid_set _ _ _ (HG.out k hlt), shift_byte]
          exact HB.out.set_ k _
      · have hkl : k = 8 := by omega
        subst hkl
        clear hblk hbel
        go_wp2
        go_ret
        refine ⟨rfl, ?_, HW.out⟩
        have := HB.out
        rw [← laid_all, HL.out]
        exact this
end Go.Proofs.Ytenfcnappjekgaa
