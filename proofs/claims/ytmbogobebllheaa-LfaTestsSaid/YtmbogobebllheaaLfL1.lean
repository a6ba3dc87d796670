/-
  The walk of the law Tests.
-/
import Derived.Test.YtmbogobebllheaaMz
import Derived.Test.YtmbogobebllheaaMl
namespace Go.Proofs.Ytmbogobebllheaa
open Go.RowKit HM GM SP Go.Lib
set_option linter.unusedSimpArgs false
set_option linter.unusedVariables false
set_option maxHeartbeats 4000000
set_option maxRecDepth 100000
theorem tests_walk (tab : List (List Int)) (v : Value) (s n d : Int) (w : World) (hr : RdR w v tab) (hf : FitR tab) (hs : I64 s) (hn : I64 n) (hd : I64 d) :
    Calls Try.prog 3 #[v, .int .i64 s, .int .i64 n, .int .i64 d] w fun e w' => e = .returned (.bool true) ∧ Below w.heap.size w w' := by
  have H1 : Hid (∀ W, Below w.heap.size w W → Calls Try.prog 18 #[v, .int .i64 s, .int .i64 n, .int .i64 d] W fun e w' => e = .returned (.bool (avT tab n s d)) ∧ Below W.heap.size W w') := fun W hW => loopfree_any tab v s n d W (hr.below hW) hf
  have H2 : Hid (∀ W, Below w.heap.size w W → Calls Try.prog 19 #[v, .int .i64 s, .int .i64 n, .int .i64 d] W fun e w' => e = .returned (.bool (avT tab n s d)) ∧ Below W.heap.size W w') := fun W hW => rloopfree_any tab v s n d W (hr.below hW) hf
  have H3 : Hid (∀ W, Below w.heap.size w W → Calls Try.prog 20 #[v, .int .i64 s, .int .i64 n, .int .i64 d] W fun e w' => e = .returned (.bool (dnT tab s n d)) ∧ Below W.heap.size W w') := fun W hW => down_any tab v s n d W (hr.below hW)
  have H4 : Hid (∀ W, Below w.heap.size w W → Calls Try.prog 21 #[v, .int .i64 s, .int .i64 n, .int .i64 d] W fun e w' => e = .returned (.bool (dnT tab s n d)) ∧ Below W.heap.size W w') := fun W hW => rdown_any tab v s n d W (hr.below hW)
  have H5 : Hid (∀ W, Below w.heap.size w W → Calls Try.prog 22 #[v, .int .i64 n, .int .i64 s, .int .i64 d] W fun e w' => e = .returned (.bool (avT tab n s d)) ∧ Below W.heap.size W w') := fun W hW => protects_any tab v n s d W (hr.below hW) hf
  have H6 : Hid (∀ W, Below w.heap.size w W → Calls Try.prog 23 #[v, .int .i64 n, .int .i64 s, .int .i64 d] W fun e w' => e = .returned (.bool (avT tab n s d)) ∧ Below W.heap.size W w') := fun W hW => rprotects_any tab v n s d W (hr.below hW) hf
  obtain ⟨x1, x2, hfm⟩ := hr.form
  subst hfm
  generalize tab.length = L at *
  generalize avT tab n s d = a at *
  generalize dnT tab s n d = b at *
  have q1 : (a == a) = true := by simp
  have q2 : (b == b) = true := by simp
  clear hr hf
  go_enter Try.func3, Try.ntmps3
  go_wp2_with fail
  go_at_call 17
  refine (awake_any _).mono ?_
  rintro e w0 ⟨rfl, hb⟩
  have HB0 := Lib.hid hb
  clear hb
  go_wp2_with fail
  go_at_call 18
  refine (H1.out _ HB0.out).mono ?_
  rintro e w1 ⟨rfl, hb⟩
  have HB1 := Lib.hid (below_then HB0.out hb)
  clear hb HB0 H1
  go_wp2_with fail
  go_at_call 19
  refine (H2.out _ HB1.out).mono ?_
  rintro e w2 ⟨rfl, hb⟩
  have HB2 := Lib.hid (below_then HB1.out hb)
  clear hb HB1 H2
  go_wp2_with fail
  go_at_call 20
  refine (H3.out _ HB2.out).mono ?_
  rintro e w3 ⟨rfl, hb⟩
  have HB3 := Lib.hid (below_then HB2.out hb)
  clear hb HB2 H3
  go_wp2_with fail
  go_at_call 21
  refine (H4.out _ HB3.out).mono ?_
  rintro e w4 ⟨rfl, hb⟩
  have HB4 := Lib.hid (below_then HB3.out hb)
  clear hb HB3 H4
  go_wp2_with fail
  go_at_call 22
  refine (H5.out _ HB4.out).mono ?_
  rintro e w5 ⟨rfl, hb⟩
  have HB5 := Lib.hid (below_then HB4.out hb)
  clear hb HB4 H5
  go_wp2_with fail
  go_at_call 23
  refine (H6.out _ HB5.out).mono ?_
  rintro e w6 ⟨rfl, hb⟩
  have HB6 := Lib.hid (below_then HB5.out hb)
  clear hb HB5 H6
  go_wp2
  go_ret
  exact ⟨rfl, HB6.out⟩
end Go.Proofs.Ytmbogobebllheaa
