/-
  The law Prefixes.
-/
import Derived.Test.YtenfcnappjekgaaLyP
import Derived.Test.YtenfcnappjekgaaLyQ
namespace Go.Proofs.Ytenfcnappjekgaa
open Go.RowKit
set_option linter.unusedSimpArgs false
set_option linter.unusedVariables false
set_option maxHeartbeats 8000000
set_option maxRecDepth 100000

theorem lawPrefixes (x y : Ls) (hx : LsOk x) (v u : Value) (w : World) (hv : RdA w v x) (hu : RdA w u y) : Calls Try.prog 9 #[v, u] w fun e w' => e = .returned (.bool true) ∧ Below w.heap.size w w' := by
  obtain ⟨aL, cL, aA, cA, rfl, h1, h2⟩ := id hv
  obtain ⟨aL', cL', aA', cA', rfl, g1, g2⟩ := id hu
  cases hz : sameB x y
  · exact lawPrefixes_false x y hx _ _ _ _ _ _ _ _ w hz hv hu
  · exact lawPrefixes_true x y hx _ _ _ _ _ _ _ _ w hz hv hu
end Go.Proofs.Ytenfcnappjekgaa
