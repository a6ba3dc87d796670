/-
  The walk of lives, the examples.
-/
import Derived.Test.YthoonegckifiaaaWalkH
namespace Go.Proofs.Ythoonegckifiaaa
open Go.RowKit
set_option linter.unusedSimpArgs false
set_option linter.unusedVariables false
set_option maxHeartbeats 4000000
set_option maxRecDepth 100000

theorem lit_rd (l : List Nat) (hb : Bytes l) (W : World) (cs : Array Value) (h : (u8s l).toArray = cs) : Rd (W.alloc (.cells cs 5)) (.slice (some ⟨W.heap.size, 0, none⟩) l.length l.length) l := by
  subst h
  exact (Blk.new W 5 (u8s l).toArray).rd hb
theorem ex_f : flv [1, 0, 0] 1 = 64769 := by decide
theorem ex_i : inet [0, 1, 242, 3, 244, 245, 246, 247] = 8717 := by decide
theorem ex_h0 : hashV [] = 2166136261 := rfl
theorem ex_h1 : hashV [97] = 3826002220 := by decide
theorem ex_v1 : val [1, 253, 1] = true := by decide
theorem ex_v2 : val [1, 253, 2] = false := by decide
theorem lives_any (w : World) : Calls Try.prog 12 #[] w fun e w' => e = .returned (.bool true) ∧ Below w.heap.size w w' := by
  have hF : ∀ W : World, Calls Try.prog 13 #[.slice (some ⟨W.heap.size, 0, none⟩) 3 3, .int .i64 1] (W.alloc (.cells #[.int .u8 1, .int .u8 0, .int .u8 0] 5)) fun e w' => e = .returned (.tuple #[.int .i64 64769, .bool true]) ∧ Below W.heap.size W w' := fun W =>
    (ex_f ▸ fletcher_yes [1, 0, 0] _ 1 _ (by decide) (lit_rd [1, 0, 0] (by unfold Bytes; decide) W _ rfl) (by decide)).mono fun e w' ⟨h1, h2⟩ => ⟨h1, ((Below.refl _ W).alloc (Nat.le_refl _) _).trans (h2.mono (by simp))⟩
  have hI : ∀ W : World, Calls Try.prog 10 #[.slice (some ⟨W.heap.size, 0, none⟩) 8 8] (W.alloc (.cells #[.int .u8 0, .int .u8 1, .int .u8 242, .int .u8 3, .int .u8 244, .int .u8 245, .int .u8 246, .int .u8 247] 5)) fun e w' => e = .returned (.int .i64 8717) ∧ Below W.heap.size W w' := fun W =>
    (ex_i ▸ internet_any [0, 1, 242, 3, 244, 245, 246, 247] _ _ (by decide) (lit_rd [0, 1, 242, 3, 244, 245, 246, 247] (by unfold Bytes; decide) W _ rfl)).mono fun e w' ⟨h1, h2⟩ => ⟨h1, ((Below.refl _ W).alloc (Nat.le_refl _) _).trans (h2.mono (by simp))⟩
  have hH0 : ∀ W : World, Calls Try.prog 17 #[.slice none 0 0] W fun e w' => e = .returned (.int .u32 2166136261) ∧ W = w' := fun W => ex_h0 ▸ hash_any [] _ W (by decide) (rd_nil W)
  have hH1 : ∀ W : World, Calls Try.prog 17 #[.slice (some ⟨W.heap.size, 0, none⟩) 1 1] (W.alloc (.cells #[.int .u8 97] 5)) fun e w' => e = .returned (.int .u32 3826002220) ∧ (W.alloc (.cells #[.int .u8 97] 5)) = w' := fun W => ex_h1 ▸ hash_any [97] _ _ (by decide) (lit_rd [97] (by unfold Bytes; decide) W _ rfl)
  have hV1 : ∀ (W : World) (g : Nat), W.heap.size = g → Calls Try.prog 15 #[.slice (some ⟨g, 0, none⟩) 3 3] (W.alloc (.cells #[.int .u8 1, .int .u8 253, .int .u8 1] 5)) fun e w' => e = .returned (.bool true) ∧ Below W.heap.size W w' := fun W g hg => hg ▸
    (ex_v1 ▸ valid_any [1, 253, 1] _ _ (by decide) (lit_rd [1, 253, 1] (by unfold Bytes; decide) W _ rfl)).mono fun e w' ⟨h1, h2⟩ => ⟨h1, ((Below.refl _ W).alloc (Nat.le_refl _) _).trans (h2.mono (by simp))⟩
  have hV2 : ∀ W : World, Calls Try.prog 15 #[.slice (some ⟨W.heap.size, 0, none⟩) 3 3] (W.alloc (.cells #[.int .u8 1, .int .u8 253, .int .u8 2] 5)) fun e w' => e = .returned (.bool false) ∧ Below W.heap.size W w' := fun W =>
    (ex_v2 ▸ valid_any [1, 253, 2] _ _ (by decide) (lit_rd [1, 253, 2] (by unfold Bytes; decide) W _ rfl)).mono fun e w' ⟨h1, h2⟩ => ⟨h1, ((Below.refl _ W).alloc (Nat.le_refl _) _).trans (h2.mono (by simp))⟩
  have HF := Lib.hid hF
  have HI := Lib.hid hI
  have HH0 := Lib.hid hH0
  have HH1 := Lib.hid hH1
  have HV1 := Lib.hid hV1
  have HV2 := Lib.hid hV2
  clear hF hI hH0 hH1 hV1 hV2
  go_enter Try.func12, Try.ntmps12
  go_wp2_with (first
    | (go_at_call 13; ((with_reducible refine (HF.out _).mono ?_); rintro e w1 ⟨rfl, hb1⟩; have X1 := Lib.hid hb1; clear hb1))
    | (go_at_call 10; ((with_reducible refine (HI.out _).mono ?_); rintro e w2 ⟨rfl, hb2⟩; have X2 := Lib.hid (X1.out.trans (hb2.mono X1.out.size)); clear hb2))
    | (go_at_call 17; ((with_reducible refine (HH0.out _).mono ?_); rintro e w' ⟨rfl, rfl⟩))
    | (go_at_call 17; ((with_reducible refine (HH1.out _).mono ?_); rintro e w' ⟨rfl, rfl⟩))
    | (go_at_call 15; ((with_reducible refine (HV1.out _ _ (by simp)).mono ?_); rintro e w4 ⟨rfl, hb4⟩; have X4 := Lib.hid ((X2.out.alloc X2.out.size (.cells #[.int .u8 97] 5)).trans (hb4.mono (by have := X2.out.size; simp; omega))); clear hb4))
    | (go_at_call 15; ((with_reducible refine (HV2.out _).mono ?_); rintro e w5 ⟨rfl, hb5⟩; have X5 := Lib.hid (X4.out.trans (hb5.mono X4.out.size)); clear hb5)))
  go_ret
  exact ⟨rfl, X5.out⟩
end Go.Proofs.Ythoonegckifiaaa
