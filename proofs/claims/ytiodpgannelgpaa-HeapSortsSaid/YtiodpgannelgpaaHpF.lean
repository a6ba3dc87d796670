/-
  A queue of the call's own, the examples, and the laws without a reference.
-/
import Derived.Test.YtiodpgannelgpaaHpE
namespace Go.Proofs.Ytiodpgannelgpaa
open Go.RowKit HM
set_option linter.unusedSimpArgs false
set_option linter.unusedVariables false
set_option maxHeartbeats 4000000
set_option maxRecDepth 100000

/-- a queue made since w0, with nothing else changed -/
def Hw (w0 W : World) (hb n : Nat) (ins : List Bool) (keys : List Int) : Prop := ∃ gs, HeapR W hb n ins keys gs ∧ (∀ g ∈ gs, w0.heap.size ≤ g) ∧ Below w0.heap.size w0 W
theorem Hw.b {w0 W : World} {hb n : Nat} {ins : List Bool} {keys : List Int} (h : Hw w0 W hb n ins keys) : Below w0.heap.size w0 W := h.elim fun gs h => h.2.2
theorem Hw.len {w0 W : World} {hb n : Nat} {ins : List Bool} {keys : List Int} (h : Hw w0 W hb n ins keys) : ins.length = n ∧ keys.length = n ∧ n ≤ 65536 := h.elim fun gs h => h.1.len
theorem Hw.below {w0 W W' : World} {hb n : Nat} {ins : List Bool} {keys : List Int} (h : Hw w0 W hb n ins keys) (hb' : Below W.heap.size W W') : Hw w0 W' hb n ins keys := by
  obtain ⟨gs, a, b, c⟩ := h
  exact ⟨gs, a.below hb', b, below_then c hb'⟩
theorem Hw.put {w0 W W' : World} {hb n : Nat} {ins ins' : List Bool} {keys keys' : List Int} {gs : List Nat} (hg : ∀ g ∈ gs, w0.heap.size ≤ g) (hb' : Below w0.heap.size w0 W) (h : Put W hb n ins' keys' gs W') : Hw w0 W' hb n ins' keys' := by
  obtain ⟨gs', a, b, c⟩ := h
  refine ⟨gs', a, fun g hg' => ?_, hb'.trans (c.below hb'.size hg)⟩
  rcases b g hg' with h1 | h1
  · exact hg g h1
  · have := hb'.size; omega
theorem hw_new (m : Int) (n : Nat) (hn : (n : Int) = min (max m 0) 65536) (w0 W : World) (hb' : Below w0.heap.size w0 W) : Calls Try.prog 40 #[.int .i64 m] W fun e w' => ∃ hb, e = .returned (.pointer (some ⟨hb, 0, none⟩)) ∧ Hw w0 w' hb n (List.replicate n false) (List.replicate n 0) := by
  refine (new_any m W).mono ?_
  rintro e w' ⟨hb, n', gs, rfl, h1, h2, h3, h4⟩
  obtain rfl : n' = n := by omega
  exact ⟨hb, rfl, gs, h2, fun g hg => Nat.le_trans hb'.size (h3 g hg), below_then hb' h4⟩
theorem Hw.set {w0 W : World} {hb n : Nat} {ins : List Bool} {keys : List Int} (h : Hw w0 W hb n ins keys) (x : Nat) (k : Int) (hx : x < n) :
    Calls Try.prog 45 #[.pointer (some ⟨hb, 0, none⟩), .int .i64 (x : Int), .int .i64 k] W fun e w' => e = .returned (.bool true) ∧ Hw w0 w' hb n (ins.set x true) (keys.set x k) := by
  obtain ⟨gs, a, b, c⟩ := h
  exact (set_in W hb n ins keys gs a x k hx).mono fun e w' ⟨h1, h2⟩ => ⟨h1, Hw.put (ins := ins) (keys := keys) b c h2⟩
theorem Hw.setOut {w0 W : World} {hb n : Nat} {ins : List Bool} {keys : List Int} (h : Hw w0 W hb n ins keys) (i : Int) (k : Int) (hx : ¬ (0 ≤ i ∧ i < n)) :
    Calls Try.prog 45 #[.pointer (some ⟨hb, 0, none⟩), .int .i64 i, .int .i64 k] W fun e w' => e = .returned (.bool false) ∧ W = w' := by
  obtain ⟨gs, a, b, c⟩ := h
  exact set_out W hb n ins keys gs a i k hx
theorem Hw.drop {w0 W : World} {hb n : Nat} {ins : List Bool} {keys : List Int} (h : Hw w0 W hb n ins keys) (x : Nat) (hx : x < n) (hi : gB ins x = true) :
    Calls Try.prog 47 #[.pointer (some ⟨hb, 0, none⟩), .int .i64 (x : Int)] W fun e w' => e = .returned (.bool true) ∧ Hw w0 w' hb n (ins.set x false) keys := by
  obtain ⟨gs, a, b, c⟩ := h
  exact (drop_in W hb n ins keys gs a x hx hi).mono fun e w' ⟨h1, h2⟩ => ⟨h1, Hw.put (ins := ins) (keys := keys) b c h2⟩
theorem Hw.dropOut {w0 W : World} {hb n : Nat} {ins : List Bool} {keys : List Int} (h : Hw w0 W hb n ins keys) (i : Int) (hi : ¬ (0 ≤ i ∧ i < n ∧ gB ins i.toNat = true)) :
    Calls Try.prog 47 #[.pointer (some ⟨hb, 0, none⟩), .int .i64 i] W fun e w' => e = .returned (.bool false) ∧ W = w' := by
  obtain ⟨gs, a, b, c⟩ := h
  exact drop_out W hb n ins keys gs a i hi
theorem Hw.key {w0 W : World} {hb n : Nat} {ins : List Bool} {keys : List Int} (h : Hw w0 W hb n ins keys) (i : Int) {k : Int} {b : Bool} (hq : KeyQ n ins keys i k b) :
    Calls Try.prog 48 #[.pointer (some ⟨hb, 0, none⟩), .int .i64 i] W fun e w' => e = .returned (.tuple #[.int .i64 k, .bool b]) ∧ W = w' := by
  obtain ⟨gs, a, _, c⟩ := h
  refine (key_any W hb n ins keys gs a i).mono ?_
  rintro e w' ⟨k', b', rfl, h1, h2⟩
  obtain ⟨rfl, rfl⟩ := keyQ_unique h1 hq
  exact ⟨rfl, h2⟩
theorem Hw.size {w0 W : World} {hb n : Nat} {ins : List Bool} {keys : List Int} (h : Hw w0 W hb n ins keys) : Calls Try.prog 43 #[.pointer (some ⟨hb, 0, none⟩)] W fun e w' => e = .returned (.int .i64 (cntB ins : Int)) ∧ W = w' := by
  obtain ⟨gs, a, b, c⟩ := h
  exact len_any W hb n ins keys gs a
theorem Hw.popNone {w0 W : World} {hb n : Nat} {ins : List Bool} {keys : List Int} (h : Hw w0 W hb n ins keys) (h0 : cntB ins = 0) :
    Calls Try.prog 46 #[.pointer (some ⟨hb, 0, none⟩)] W fun e w' => e = .returned (.tuple #[.int .i64 0, .int .i64 0, .bool false]) ∧ W = w' := by
  obtain ⟨gs, a, b, c⟩ := h
  exact pop_none W hb n ins keys gs a h0
theorem Hw.pop {w0 W : World} {hb n : Nat} {ins : List Bool} {keys : List Int} (h : Hw w0 W hb n ins keys) (h0 : cntB ins ≠ 0) :
    Calls Try.prog 46 #[.pointer (some ⟨hb, 0, none⟩)] W fun e w' => ∃ x : Nat, e = .returned (.tuple #[.int .i64 (x : Int), .int .i64 (gI keys x), .bool true]) ∧ IsMin n ins keys x ∧ Hw w0 w' hb n (ins.set x false) keys := by
  obtain ⟨gs, a, b, c⟩ := h
  refine (pop_some W hb n ins keys gs a h0).mono ?_
  rintro e w' ⟨x, rfl, h1, h2⟩
  exact ⟨x, rfl, h1, Hw.put (ins := ins) (keys := keys) b c h2⟩
theorem isMin_cnt {n : Nat} {ins : List Bool} {keys : List Int} {x : Nat} (h : IsMin n ins keys x) : cntB ins ≠ 0 := fun e => by have := cntB_zero e x; rw [h.2.1] at this; cases this
theorem Hw.popC {w0 W : World} {hb n : Nat} {ins : List Bool} {keys : List Int} (h : Hw w0 W hb n ins keys) {x : Nat} {k : Int} (hm : IsMin n ins keys x) (hk : gI keys x = k) :
    Calls Try.prog 46 #[.pointer (some ⟨hb, 0, none⟩)] W fun e w' => e = .returned (.tuple #[.int .i64 (x : Int), .int .i64 k, .bool true]) ∧ Hw w0 w' hb n (ins.set x false) keys := by
  refine (h.pop (isMin_cnt hm)).mono ?_
  rintro e w' ⟨y, rfl, h1, h2⟩
  obtain rfl := isMin_unique h1 hm
  rw [hk]
  exact ⟨rfl, h2⟩
instance (n : Nat) (ins : List Bool) (keys : List Int) (x : Nat) : Decidable (IsMin n ins keys x) := by unfold IsMin; infer_instance
theorem awake_any (w : World) : Calls Try.prog 39 #[] w fun e w' => e = .returned (.bool true) ∧ Below w.heap.size w w' := by
  go_enter Try.func39, Try.ntmps39
  go_wp2_with fail
  go_at_call 40
  refine (hw_new 3 3 (by decide) w w (Below.refl _ _)).mono ?_
  rintro e w1 ⟨hb, rfl, h⟩
  have H1 := Lib.hid h
  clear h
  go_wp2_with fail
  go_at_call 45
  refine (H1.out.set 2 5 (by decide)).mono ?_
  rintro e w2 ⟨rfl, h⟩
  have H2 := Lib.hid h
  clear h H1
  go_wp2_with fail
  go_at_call 45
  refine (H2.out.set 0 5 (by decide)).mono ?_
  rintro e w3 ⟨rfl, h⟩
  have H3 := Lib.hid h
  clear h H2
  go_wp2_with fail
  go_at_call 45
  refine (H3.out.set 1 9 (by decide)).mono ?_
  rintro e w4 ⟨rfl, h⟩
  have H4 := Lib.hid h
  clear h H3
  go_wp2_with fail
  go_at_call 45
  refine (H4.out.set 1 1 (by decide)).mono ?_
  rintro e w5 ⟨rfl, h⟩
  have H5 : Hid (Hw w w5 hb 3 [true, true, true] [5, 1, 5]) := h
  clear h H4
  go_wp2_with fail
  go_at_call 46
  refine (H5.out.popC (x := 1) (k := 1) (by decide) rfl).mono ?_
  rintro e w6 ⟨rfl, h⟩
  have H6 : Hid (Hw w w6 hb 3 [true, false, true] [5, 1, 5]) := h
  clear h H5
  go_wp2_with fail
  go_at_call 46
  refine (H6.out.popC (x := 0) (k := 5) (by decide) rfl).mono ?_
  rintro e w7 ⟨rfl, h⟩
  have H7 : Hid (Hw w w7 hb 3 [false, false, true] [5, 1, 5]) := h
  clear h H6
  go_wp2_with fail
  go_at_call 46
  refine (H7.out.popC (x := 2) (k := 5) (by decide) rfl).mono ?_
  rintro e w8 ⟨rfl, h⟩
  have H8 : Hid (Hw w w8 hb 3 [false, false, false] [5, 1, 5]) := h
  clear h H7
  go_wp2_with fail
  go_at_call 46
  refine (H8.out.popNone (by decide)).mono ?_
  rintro e w9 ⟨rfl, rfl⟩
  go_wp2
  go_ret
  exact ⟨rfl, H8.out.b⟩
end Go.Proofs.Ytiodpgannelgpaa
