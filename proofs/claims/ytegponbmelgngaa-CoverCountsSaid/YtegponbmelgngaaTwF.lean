/-
  The walk of the trie's visitAbove, with the collector as the visitor.
-/
import Derived.Test.YtegponbmelgngaaTwE
import Derived.Deep.LoopGhost
namespace Go.Proofs.Ytegponbmelgngaa
open Go.RowKit
set_option linter.unusedSimpArgs false
set_option linter.unusedVariables false
set_option maxHeartbeats 4000000
set_option maxRecDepth 100000
def Sh.sz : Sh → Nat
  | .nil => 0
  | .node _ _ _ l r => l.sz + r.sz + 1

end Go.Proofs.Ytegponbmelgngaa
