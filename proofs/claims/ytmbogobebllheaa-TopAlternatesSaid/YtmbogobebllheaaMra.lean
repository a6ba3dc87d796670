/-
  The walk of the reference's All.
-/
import Derived.Test.YtmbogobebllheaaMd
import Derived.Deep.AppendLies
namespace Go.Proofs.Ytmbogobebllheaa
open Go.RowKit HM GM SP
set_option linter.unusedSimpArgs false
set_option linter.unusedVariables false
set_option maxHeartbeats 4000000
set_option maxRecDepth 100000
end Go.Proofs.Ytmbogobebllheaa
