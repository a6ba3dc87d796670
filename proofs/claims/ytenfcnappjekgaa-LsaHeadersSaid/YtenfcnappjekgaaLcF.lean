/-
  The reference's SameBytes on two slices that read the same bytes.
-/
import Derived.Test.YtenfcnappjekgaaLcE
import Derived.Laws.BytesArg
import Derived.Shelf.Bytes.SlSmallAll
namespace Go.Proofs.Ytenfcnappjekgaa
open Go.RowKit
set_option linter.unusedSimpArgs false
set_option linter.unusedVariables false
set_option maxHeartbeats 4000000
set_option maxRecDepth 100000

theorem cvt_any (l : List Nat) (v : Value) (w : World) (hr : Rd w v l) : (convert 44 9 v).run Try.prog w = .ok (.string (strOfNums (l.map (fun x : Nat => (x : Int))))) w := by
  obtain ⟨ad, cap, rfl, -, -, h⟩ := hr
  cases l with
  | nil =>
    have := run_convert_bytes_zero (P := Try.prog) w 44 5 Try.underlying44 Try.underlying5 ad cap 9 Try.underlying9
    exact this
  | cons x l =>
    obtain ⟨b, off, rfl, -, -⟩ := h 0 x rfl
    refine run_convert_bytes_arg (P := Try.prog) w 44 5 Try.underlying44 Try.underlying5 b off (x :: l).length cap _ (by simp) (fun i hi => ?_) 9 Try.underlying9
    obtain ⟨y, hy⟩ : ∃ y, (x :: l)[i]? = some y := ⟨_, List.getElem?_eq_getElem hi⟩
    obtain ⟨b', off', e, -, hc⟩ := h i y hy
    simp only [Option.some.injEq, Addr.mk.injEq] at e
    obtain ⟨rfl, rfl, -⟩ := e
    have e2 : ((x :: l).map (fun x : Nat => (x : Int)))[i]? = some (y : Int) := by rw [List.getElem?_map, hy]; rfl
    rw [hc, List.getD_eq_getElem?_getD, e2]
    rfl
theorem sameBytes_any (l : List Nat) (v1 v2 : Value) (w : World) (h1 : Rd w v1 l) (h2 : Rd w v2 l) : Calls Try.prog 27 #[v1, v2] w fun e w' => e = .returned (.bool true) ∧ w = w' := by
  have c1 := cvt_any l v1 w h1
  have c2 := cvt_any l v2 w h2
  obtain ⟨s, hs⟩ : ∃ s, strOfNums (l.map (fun x : Nat => (x : Int))) = s := ⟨_, rfl⟩
  rw [hs] at c1 c2
  clear hs h1 h2
  go_enter Try.func27, Try.ntmps27
  go_wp2
  go_ret
  exact ⟨rfl, rfl⟩
end Go.Proofs.Ytenfcnappjekgaa
