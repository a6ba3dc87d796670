/-
  The walks of swapRange and rotate at edges, over the worlds of a sort.
-/
import Derived.Test.YtiodpgannelgpaaGrSm
import Derived.Test.YtiodpgannelgpaaGrS
import Derived.Shelf.SlSortCmp.KitK
import Derived.Sort.WalkB2
import Derived.Sort.WalkB12
import Derived.Deep.LoopGhost
namespace Go.Proofs.Ytiodpgannelgpaa
open Go.RowKit GM Go.Sort Go.Lib
set_option linter.unusedSimpArgs false
set_option linter.unusedVariables false
set_option maxHeartbeats 4000000
set_option maxRecDepth 100000

def swR (a b : Nat) : Nat → Array E → Array E
  | 0, d => d
  | n + 1, d => swp (swR a b n d) (a + n) (b + n)
theorem swR_size (a b : Nat) (d : Array E) : ∀ n, (swR a b n d).size = d.size
  | 0 => rfl
  | n + 1 => by unfold swR; rw [size_swp]; exact swR_size a b d n
abbrev SW (w0 : World) (blk : Nat) (d : Array E) (W : World) : Prop := SWK encE 3 w0 blk 0 d W

theorem swapRange_any (blk cap a b n : Nat) (cv : Value) (d0 d : Array E) (w0 w : World) (R : RowK encE 3 w0 blk 0 d0) (hs : d0.size = d.size) (S : SW w0 blk d w) (ha : a + n ≤ b) (hb : b + n ≤ d.size) (hsz : d.size < 4611686018427387904) :
    Calls Try.prog 136 #[.slice (some ⟨blk, 0, none⟩) d.size cap, .int .i64 a, .int .i64 b, .int .i64 n, cv] w fun e w' => e = .returned (.tuple #[]) ∧ SW w0 blk (swR a b n d) w' := by
  have mixed := Try.sortE.mixed
  have S0 : Aside (SW w0 blk d w) := S
  clear S
  go_enter Try.func136, Try.ntmps136
  go_wp2
  go_loopg [10] n (fun kx vi wr => ∃ (i : Nat), vi = .int .i64 i ∧ i ≤ n ∧ n - i ≤ kx ∧ Aside (SW w0 blk (swR a b i d) wr))
  case atStart => exact ⟨0, rfl, Nat.zero_le _, by omega, S0⟩
  case round =>
    clear S0
    obtain ⟨i, rfl, hin, hkx, S1⟩ := hrel
    by_cases hlt : (i : Int) < (n : Int)
    · have hlt' : i < n := by omega
      have hsd : Aside ((swR a b i d).size = d.size) := swR_size a b d i
      have hd0 : d0.size = (swR a b i d).size := hs.trans hsd.out.symm
      go_wp2_with fail
      have ea : ((a : Int) + (i : Int)).toNat = a + i := by omega
      have pa : (0 : Int) ≤ (a : Int) + (i : Int) := by omega
      have ba : (a : Int) + (i : Int) < (d.size : Int) := by omega
      have ra : IntKind.i64.wrap ((a : Int) + (i : Int)) = (a : Int) + (i : Int) := by rw [IntKind.wrap_i64]; omega
      have eb : ((b : Int) + (i : Int)).toNat = b + i := by omega
      have pb : (0 : Int) ≤ (b : Int) + (i : Int) := by omega
      have bb : (b : Int) + (i : Int) < (d.size : Int) := by omega
      have rb : IntKind.i64.wrap ((b : Int) + (i : Int)) = (b : Int) + (i : Int) := by rw [IntKind.wrap_i64]; omega
      have hH : HoldsK encE 3 wr blk 0 (swR a b i d) := S1.out.holds R.hblk R.hH hd0.symm
      obtain ⟨x, y, z, hA⟩ : ∃ x y z, (swR a b i d)[a + i]! = (x, y, z) := ⟨_, _, _, rfl⟩
      obtain ⟨p, q, r, hB⟩ : ∃ p q r, (swR a b i d)[b + i]! = (p, q, r) := ⟨_, _, _, rfl⟩
      obtain ⟨⟨a0, a1, a2⟩, f0, f1, f2⟩ := he_cells hH (by have := hsd.out; omega) hA
      obtain ⟨⟨b0, b1, b2⟩, g0, g1, g2⟩ := he_cells hH (by have := hsd.out; omega) hB
      rw [Nat.zero_add] at a0 a1 a2 f0 f1 f2 b0 b1 b2 g0 g1 g2
      have HEND : Hid (SW w0 blk (swR a b (i + 1) d) (((((((wr).setCell ⟨blk, (a + i) * 3, none⟩ (.int .i64 p)).setCell ⟨blk, (a + i) * 3 + 1, none⟩ (.int .i64 q)).setCell ⟨blk, (a + i) * 3 + 2, none⟩ (.int .i64 r)).setCell ⟨blk, (b + i) * 3, none⟩ (.int .i64 x)).setCell ⟨blk, (b + i) * 3 + 1, none⟩ (.int .i64 y)).setCell ⟨blk, (b + i) * 3 + 2, none⟩ (.int .i64 z)).drew) := by
        have := (S1.out).swap R.hk R.hblk (a + i) (b + i) (by have := hsd.out; omega) (by have := hsd.out; omega)
        rw [Nat.zero_add, Nat.zero_add, hA, hB] at this
        exact this.drew
      clear hH hA hB S1 hsd hd0
      go_wp2_with fail
      go_big_region_o
      all_goals go_wp2
      all_goals go_roundg (n - (i + 1))
      case measure => omega
      case rel =>
        exact ⟨i + 1, by go_num, by omega, Nat.le_refl _, HEND.out⟩
    · have e : i = n := by omega
      subst e
      go_wp2
      go_end0
      exact ⟨rfl, S1.out⟩
end Go.Proofs.Ytiodpgannelgpaa
