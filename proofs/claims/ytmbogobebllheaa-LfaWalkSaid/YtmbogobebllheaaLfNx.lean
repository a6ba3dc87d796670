/-
  The reference's Next again, with the row as the call's own; the neighbours are those of the edges that leave, their costs the edges'; the reference's better.
-/
import Derived.Test.YtmbogobebllheaaMw
import Derived.Test.YtmbogobebllheaaMg
import Derived.Test.YtmbogobebllheaaMz
namespace Go.Proofs.Ytmbogobebllheaa.GM
open SP HM
end Go.Proofs.Ytmbogobebllheaa.GM
namespace Go.Proofs.Ytmbogobebllheaa
open Go.RowKit HM GM SP Go.Lib
set_option linter.unusedSimpArgs false
set_option linter.unusedVariables false
set_option maxHeartbeats 4000000
set_option maxRecDepth 100000
/-- a slice of integers whose cells lie in blocks from B on -/
def RdIB (B : Nat) (w : World) (v : Value) (l : List Int) : Prop :=
  ∃ ad cap, v = .slice ad l.length cap ∧ l.length ≤ cap ∧ cap ≤ 9223372036854775807 ∧ ∀ k x, l[k]? = some x → ∃ b off, ad = some ⟨b, off, none⟩ ∧ b < w.heap.size ∧ B ≤ b ∧ w.cell? ⟨b, off + k, none⟩ = some (.int .i64 x)
end Go.Proofs.Ytmbogobebllheaa
