/-
  The walk of the law Parse.
-/
import Derived.Test.YtiiojkekcnmddaaDoorPlS
import Derived.Test.YtiiojkekcnmddaaDoorPlO
import Derived.BigQuiet
namespace Go.Proofs.YtiiojkekcnmddaaDoor
open Go.RowKit
set_option linter.unusedSimpArgs false
set_option linter.unusedVariables false
set_option maxHeartbeats 2000000
set_option maxRecDepth 100000

theorem parV_form (o : Option Ru) : ∃ (r : Ru) (c : Int), parV o = .tuple #[ruV r, .int .i64 c] := by
  cases o with
  | none => exact ⟨zeroR, 2, rfl⟩
  | some r => exact ⟨r, 0, rfl⟩
theorem lawParse (s : ByteArray) (w : World) (hT : Lt w) (hs : s.size ≤ 140737488351232) : Calls Tryd.prog 6 #[.string s] w fun e w' => e = .returned (.bool true) ∧ Below w.heap.size w w' := by
  have HT : Hid (∀ W, Below w.heap.size w W → Lt W) := fun W hW => hT.below hW
  obtain ⟨l, hl⟩ : ∃ l, s.data.toList = l := ⟨_, rfl⟩
  have hsb : s = bs l := by rw [← hl]; exact bs_get s
  have hsz : s.size = l.length := by rw [← hl, list_len]
  by_cases h200 : (200 : Int) < (s.size : Int)
  · clear hsb hsz hl
    go_enter Tryd.func6, Tryd.ntmps6
    go_wp2_with fail
    go_at_call 12
    refine (awake_any _ (HT.out _ (Below.refl _ _))).mono ?_
    rintro e w1 ⟨rfl, h1⟩
    have HB1 := Lib.hid h1
    clear h1
    go_wp2
    go_ret
    exact ⟨rfl, HB1.out⟩
  · obtain ⟨r, c, hv⟩ := parV_form (parR l)
    have H1 : Hid (∀ W, Below w.heap.size w W → Calls Tryd.prog 19 #[.string s] W fun e w' => e = .returned (.tuple #[ruV r, .int .i64 c]) ∧ Below W.heap.size W w') := fun W hW => by
      have h := parse19_any l (by omega) W (hT.below hW)
      rw [hv, ← hsb] at h
      exact h
    have H2 : Hid (∀ W, Calls Tryd.prog 20 #[.string s] W fun e w' => e = .returned (.tuple #[ruV r, .int .i64 c]) ∧ Below W.heap.size W w') := fun W => by
      have h := rparse19_any l (by omega) W
      rw [hv, ← hsb] at h
      exact h
    have tc : (c == c) = true := by simp
    clear hsb hsz hl hv hT
    obtain ⟨pm, ⟨a, n⟩, mn, mx⟩ := r
    go_enter Tryd.func6, Tryd.ntmps6
    go_wp2_with fail
    go_at_call 19
    refine (H1.out _ (Below.refl _ _)).mono ?_
    rintro e w1 ⟨rfl, h1⟩
    have HB1 : Hid (Below w.heap.size w (w1.alloc (ruC (pm, (a, n), mn, mx)))) := below_then h1 (below_alloc _ _)
    have HF1 : Hid (Five (w1.alloc (ruC (pm, (a, n), mn, mx))) w1.heap.size (.bool pm) (.int .u32 (a : Int)) (.int .i64 n) (.int .i64 mn) (.int .i64 mx)) := heap_alloc_new _ _
    clear h1
    go_wp2_with fail
    go_at_call 20
    refine (H2.out _).mono ?_
    rintro e w2 ⟨rfl, h2⟩
    have HB2 : Hid (Below w.heap.size w (w2.alloc (ruC (pm, (a, n), mn, mx)))) := below_then (below_then HB1.out h2) (below_alloc _ _)
    have HF2 := Lib.hid (HF1.out.below h2)
    obtain ⟨f0, f1, f2, f3, f4⟩ := HF2.out.cells
    have hlt := lt_block HF2.out
    clear h2
    go_wp2_with fail
    go_at_call 12
    refine (awake_any _ (HT.out _ HB2.out)).mono ?_
    rintro e w3 ⟨rfl, h3⟩
    have HB3 := Lib.hid (below_then HB2.out h3)
    clear h3
    go_wp2_with fail
    go_ret
    exact ⟨rfl, HB3.out⟩
end Go.Proofs.YtiiojkekcnmddaaDoor
