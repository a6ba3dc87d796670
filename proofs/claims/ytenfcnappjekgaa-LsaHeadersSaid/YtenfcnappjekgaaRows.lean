/-
  No cell of these rows narrows 'for every input' (looked for: loops, veiled, ifaces, maps, wideKeys, modest, calm, conditions, laid).
  DERIVED. THE GIVEN ROWS OF THIS SEAT. 10 by the template 'for every input the law returns true; each argument reads behind the call as it read before'; 0 by the template 'total and deterministic' (their statements: YtenfcnappjekgaaTotals.lean).
  GIVEN WITH THE SEED: the statements are not yours to turn. If you find one false, say at which input.
  Laid BY PROGRAM, IN A SANDBOX (cutbox-rows.mjs): the forced cells as the released guide's own fill.sh prints them over the translation 9d2612441192aaa6… (all of the seat's roots in one cut). By AI agents, Wed Nov 11 2026. No macro, syntax, notation, axiom, sorry.
-/
import Derived.Test.YtenfcnappjekgaaChecked
import GoSem.Claim
import GoSem.ClaimJoined
import GoSem.ClaimMapViews
import Derived.JoinedTies
import Derived.KernelRfl
namespace Go.Proofs.Ytenfcnappjekgaa
/- THE CELL 'sum', in the pinned program and in every row, IS THE sha256 OF THE DUMP (.gsa) THAT YtenfcnappjekgaaProg.lean LOADS. Nothing in Lean hashes anything: it is a label: what it is worth is what the hold of that sum in a sandbox is worth. -/
noncomputable def Try.pinned : Pinned := { name := "ytenfcnappjekgaa", sum := "9d2612441192aaa61e03f61633fa0e1c82452520750f2be29c540bb488a4f428", checked := Try.checked }
namespace Rows
def none {H : Type} : Left H := { results := [], args := [] }

/-- 'routinglaw23.LsaChecks': WHATEVER THE INPUT: true; the input reads as it did. -/
def lsaChecksSpec : ChangeSpec := { name := "lsaChecks", fn := fun _ => fun
  | [d] => { results := [.lit (.bool true)], args := [d] }
  | _ => none }
def lsaChecksRow : OpenClaim := { program := "ytenfcnappjekgaa", sum := "9d2612441192aaa61e03f61633fa0e1c82452520750f2be29c540bb488a4f428", func := "routing/routinglaw23.LsaChecks", spec := "lsaChecks", unfollowed := true, recurses := true, apart := false }
def LsaChecksSaid : Prop := lsaChecksRow.holds Try.pinned (OpenSpec.ofChange lsaChecksSpec)

/-- ITS FALSE NEIGHBOUR: 'it returns false'. Refute it at one input. -/
def lsaChecksWrong : ChangeSpec := { name := "lsaChecks", fn := fun _ => fun
  | [d] => { results := [.lit (.bool false)], args := [d] }
  | _ => none }
def LsaChecksWrongFalsely : Prop := lsaChecksRow.holds Try.pinned (OpenSpec.ofChange lsaChecksWrong)

/-- 'routinglaw23.LsaKeys': WHATEVER THE INPUT: true; the input reads as it did. -/
def lsaKeysSpec : ChangeSpec := { name := "lsaKeys", fn := fun _ => fun
  | [d1, d2, d3] => { results := [.lit (.bool true)], args := [d1, d2, d3] }
  | _ => none }
def lsaKeysRow : OpenClaim := { program := "ytenfcnappjekgaa", sum := "9d2612441192aaa61e03f61633fa0e1c82452520750f2be29c540bb488a4f428", func := "routing/routinglaw23.LsaKeys", spec := "lsaKeys", unfollowed := true, recurses := true, apart := false }
def LsaKeysSaid : Prop := lsaKeysRow.holds Try.pinned (OpenSpec.ofChange lsaKeysSpec)

/-- ITS FALSE NEIGHBOUR: 'it returns false'. Refute it at one input. -/
def lsaKeysWrong : ChangeSpec := { name := "lsaKeys", fn := fun _ => fun
  | [d1, d2, d3] => { results := [.lit (.bool false)], args := [d1, d2, d3] }
  | _ => none }
def LsaKeysWrongFalsely : Prop := lsaKeysRow.holds Try.pinned (OpenSpec.ofChange lsaKeysWrong)

/-- 'routinglaw23.LsaCompares': WHATEVER THE INPUT: true; the input reads as it did. -/
def lsaComparesSpec : ChangeSpec := { name := "lsaCompares", fn := fun _ => fun
  | [d1, d2] => { results := [.lit (.bool true)], args := [d1, d2] }
  | _ => none }
def lsaComparesRow : OpenClaim := { program := "ytenfcnappjekgaa", sum := "9d2612441192aaa61e03f61633fa0e1c82452520750f2be29c540bb488a4f428", func := "routing/routinglaw23.LsaCompares", spec := "lsaCompares", unfollowed := true, recurses := true, apart := false }
def LsaComparesSaid : Prop := lsaComparesRow.holds Try.pinned (OpenSpec.ofChange lsaComparesSpec)

/-- ITS FALSE NEIGHBOUR: 'it returns false'. Refute it at one input. -/
def lsaComparesWrong : ChangeSpec := { name := "lsaCompares", fn := fun _ => fun
  | [d1, d2] => { results := [.lit (.bool false)], args := [d1, d2] }
  | _ => none }
def LsaComparesWrongFalsely : Prop := lsaComparesRow.holds Try.pinned (OpenSpec.ofChange lsaComparesWrong)

/-- 'routinglaw23.LsaSeals': WHATEVER THE INPUT: true; the input reads as it did. -/
def lsaSealsSpec : ChangeSpec := { name := "lsaSeals", fn := fun _ => fun
  | [d] => { results := [.lit (.bool true)], args := [d] }
  | _ => none }
def lsaSealsRow : OpenClaim := { program := "ytenfcnappjekgaa", sum := "9d2612441192aaa61e03f61633fa0e1c82452520750f2be29c540bb488a4f428", func := "routing/routinglaw23.LsaSeals", spec := "lsaSeals", unfollowed := true, recurses := true, apart := false }
def LsaSealsSaid : Prop := lsaSealsRow.holds Try.pinned (OpenSpec.ofChange lsaSealsSpec)

/-- ITS FALSE NEIGHBOUR: 'it returns false'. Refute it at one input. -/
def lsaSealsWrong : ChangeSpec := { name := "lsaSeals", fn := fun _ => fun
  | [d] => { results := [.lit (.bool false)], args := [d] }
  | _ => none }
def LsaSealsWrongFalsely : Prop := lsaSealsRow.holds Try.pinned (OpenSpec.ofChange lsaSealsWrong)

/-- 'routinglaw23.LsaDecodes': WHATEVER THE INPUT: true; the input reads as it did. -/
def lsaDecodesSpec : ChangeSpec := { name := "lsaDecodes", fn := fun _ => fun
  | [d] => { results := [.lit (.bool true)], args := [d] }
  | _ => none }
def lsaDecodesRow : OpenClaim := { program := "ytenfcnappjekgaa", sum := "9d2612441192aaa61e03f61633fa0e1c82452520750f2be29c540bb488a4f428", func := "routing/routinglaw23.LsaDecodes", spec := "lsaDecodes", unfollowed := true, recurses := true, apart := false }
def LsaDecodesSaid : Prop := lsaDecodesRow.holds Try.pinned (OpenSpec.ofChange lsaDecodesSpec)

/-- ITS FALSE NEIGHBOUR: 'it returns false'. Refute it at one input. -/
def lsaDecodesWrong : ChangeSpec := { name := "lsaDecodes", fn := fun _ => fun
  | [d] => { results := [.lit (.bool false)], args := [d] }
  | _ => none }
def LsaDecodesWrongFalsely : Prop := lsaDecodesRow.holds Try.pinned (OpenSpec.ofChange lsaDecodesWrong)

/-- 'routinglaw23.LsaHeaders': WHATEVER THE INPUT: true; the input reads as it did. -/
def lsaHeadersSpec : ChangeSpec := { name := "lsaHeaders", fn := fun _ => fun
  | [d1, d2] => { results := [.lit (.bool true)], args := [d1, d2] }
  | _ => none }
def lsaHeadersRow : OpenClaim := { program := "ytenfcnappjekgaa", sum := "9d2612441192aaa61e03f61633fa0e1c82452520750f2be29c540bb488a4f428", func := "routing/routinglaw23.LsaHeaders", spec := "lsaHeaders", unfollowed := true, recurses := true, apart := false }
def LsaHeadersSaid : Prop := lsaHeadersRow.holds Try.pinned (OpenSpec.ofChange lsaHeadersSpec)

/-- ITS FALSE NEIGHBOUR: 'it returns false'. Refute it at one input. -/
def lsaHeadersWrong : ChangeSpec := { name := "lsaHeaders", fn := fun _ => fun
  | [d1, d2] => { results := [.lit (.bool false)], args := [d1, d2] }
  | _ => none }
def LsaHeadersWrongFalsely : Prop := lsaHeadersRow.holds Try.pinned (OpenSpec.ofChange lsaHeadersWrong)

/-- 'routinglaw23.LsaPrefixes': WHATEVER THE INPUT: true; the input reads as it did. -/
def lsaPrefixesSpec : ChangeSpec := { name := "lsaPrefixes", fn := fun _ => fun
  | [d1, d2] => { results := [.lit (.bool true)], args := [d1, d2] }
  | _ => none }
def lsaPrefixesRow : OpenClaim := { program := "ytenfcnappjekgaa", sum := "9d2612441192aaa61e03f61633fa0e1c82452520750f2be29c540bb488a4f428", func := "routing/routinglaw23.LsaPrefixes", spec := "lsaPrefixes", unfollowed := true, recurses := true, apart := false }
def LsaPrefixesSaid : Prop := lsaPrefixesRow.holds Try.pinned (OpenSpec.ofChange lsaPrefixesSpec)

/-- ITS FALSE NEIGHBOUR: 'it returns false'. Refute it at one input. -/
def lsaPrefixesWrong : ChangeSpec := { name := "lsaPrefixes", fn := fun _ => fun
  | [d1, d2] => { results := [.lit (.bool false)], args := [d1, d2] }
  | _ => none }
def LsaPrefixesWrongFalsely : Prop := lsaPrefixesRow.holds Try.pinned (OpenSpec.ofChange lsaPrefixesWrong)

/-- 'routinglaw23.LsaBack': WHATEVER THE INPUT: true; the input reads as it did. -/
def lsaBackSpec : ChangeSpec := { name := "lsaBack", fn := fun _ => fun
  | [d1, d2] => { results := [.lit (.bool true)], args := [d1, d2] }
  | _ => none }
def lsaBackRow : OpenClaim := { program := "ytenfcnappjekgaa", sum := "9d2612441192aaa61e03f61633fa0e1c82452520750f2be29c540bb488a4f428", func := "routing/routinglaw23.LsaBack", spec := "lsaBack", unfollowed := true, recurses := true, apart := false }
def LsaBackSaid : Prop := lsaBackRow.holds Try.pinned (OpenSpec.ofChange lsaBackSpec)

/-- ITS FALSE NEIGHBOUR: 'it returns false'. Refute it at one input. -/
def lsaBackWrong : ChangeSpec := { name := "lsaBack", fn := fun _ => fun
  | [d1, d2] => { results := [.lit (.bool false)], args := [d1, d2] }
  | _ => none }
def LsaBackWrongFalsely : Prop := lsaBackRow.holds Try.pinned (OpenSpec.ofChange lsaBackWrong)

/-- 'routinglaw23.LsaOrder': WHATEVER THE INPUT: true; the input reads as it did. -/
def lsaOrderSpec : ChangeSpec := { name := "lsaOrder", fn := fun _ => fun
  | [d1, d2] => { results := [.lit (.bool true)], args := [d1, d2] }
  | _ => none }
def lsaOrderRow : OpenClaim := { program := "ytenfcnappjekgaa", sum := "9d2612441192aaa61e03f61633fa0e1c82452520750f2be29c540bb488a4f428", func := "routing/routinglaw23.LsaOrder", spec := "lsaOrder", unfollowed := true, recurses := true, apart := false }
def LsaOrderSaid : Prop := lsaOrderRow.holds Try.pinned (OpenSpec.ofChange lsaOrderSpec)

/-- ITS FALSE NEIGHBOUR: 'it returns false'. Refute it at one input. -/
def lsaOrderWrong : ChangeSpec := { name := "lsaOrder", fn := fun _ => fun
  | [d1, d2] => { results := [.lit (.bool false)], args := [d1, d2] }
  | _ => none }
def LsaOrderWrongFalsely : Prop := lsaOrderRow.holds Try.pinned (OpenSpec.ofChange lsaOrderWrong)

/-- 'routinglaw23.LsaAges': WHATEVER THE INPUT: true; the input reads as it did. -/
def lsaAgesSpec : ChangeSpec := { name := "lsaAges", fn := fun _ => fun
  | [d1, d2, d3, d4] => { results := [.lit (.bool true)], args := [d1, d2, d3, d4] }
  | _ => none }
def lsaAgesRow : OpenClaim := { program := "ytenfcnappjekgaa", sum := "9d2612441192aaa61e03f61633fa0e1c82452520750f2be29c540bb488a4f428", func := "routing/routinglaw23.LsaAges", spec := "lsaAges", unfollowed := true, recurses := true, apart := false }
def LsaAgesSaid : Prop := lsaAgesRow.holds Try.pinned (OpenSpec.ofChange lsaAgesSpec)

/-- ITS FALSE NEIGHBOUR: 'it returns false'. Refute it at one input. -/
def lsaAgesWrong : ChangeSpec := { name := "lsaAges", fn := fun _ => fun
  | [d1, d2, d3, d4] => { results := [.lit (.bool false)], args := [d1, d2, d3, d4] }
  | _ => none }
def LsaAgesWrongFalsely : Prop := lsaAgesRow.holds Try.pinned (OpenSpec.ofChange lsaAgesWrong)

/- THE SECOND FORM. 'bulk': how many values and letters a reading holds, each counted each time it is reached (what is shared counts as often as it is met; a slice's spare places count too). A statement '..UptoSaid' is the law's where the arguments, and the package variables that the reading takes, are together of bulk at most 1048576: NARROWER than '..Said'. Prove '..Said' where nothing that the law and all that it calls make is longer than what came in: it says more and counts as full. Else prove '..UptoSaid'. A law counts once. -/
mutual
def uptoBulk {H : Type} : DataW H → Nat
  | .lit (.string bytes) => bytes.length + 1
  | .lit _ => 1
  | .nil => 1
  | .ptr d => uptoBulk d + 1
  | .slice elems spare => uptoBulkAll elems + uptoBulkAll spare + 1
  | .agg parts => uptoBulkAll parts + 1
  | .iface _ d => uptoBulk d + 1
  | .map entries => uptoBulkEntries entries + 1
  | .held _ => 1
def uptoBulkAll {H : Type} : List (DataW H) → Nat
  | [] => 0
  | d :: r => uptoBulk d + uptoBulkAll r
def uptoBulkEntries {H : Type} : List (Lit × DataW H) → Nat
  | [] => 0
  | x :: r => uptoBulkEntry x + uptoBulkEntries r
def uptoBulkEntry {H : Type} : Lit × DataW H → Nat
  | (.string bytes, d) => bytes.length + uptoBulk d + 1
  | (_, d) => uptoBulk d + 1
 end
def uptoSmall : (H : Type) → List (DataW H) → Bool := fun _ ds => decide (uptoBulkAll ds ≤ 1048576)
def OpenSpec.upto (s : _root_.Go.ChangeSpec) : _root_.Go.OpenSpec := { _root_.Go.OpenSpec.ofChange s with cond := some uptoSmall }

/-- 'routinglaw23.LsaChecks', WHERE WHAT IT READS IS OF BULK AT MOST 1048576: true; the input reads as it did. -/
def lsaChecksUptoRow : OpenClaim := { program := "ytenfcnappjekgaa", sum := "9d2612441192aaa61e03f61633fa0e1c82452520750f2be29c540bb488a4f428", func := "routing/routinglaw23.LsaChecks", spec := "lsaChecks", unfollowed := true, recurses := true, apart := false, narrowed := true }
def LsaChecksUptoSaid : Prop := lsaChecksUptoRow.holds Try.pinned (OpenSpec.upto lsaChecksSpec)

/-- 'routinglaw23.LsaKeys', WHERE WHAT IT READS IS OF BULK AT MOST 1048576: true; the input reads as it did. -/
def lsaKeysUptoRow : OpenClaim := { program := "ytenfcnappjekgaa", sum := "9d2612441192aaa61e03f61633fa0e1c82452520750f2be29c540bb488a4f428", func := "routing/routinglaw23.LsaKeys", spec := "lsaKeys", unfollowed := true, recurses := true, apart := false, narrowed := true }
def LsaKeysUptoSaid : Prop := lsaKeysUptoRow.holds Try.pinned (OpenSpec.upto lsaKeysSpec)

/-- 'routinglaw23.LsaCompares', WHERE WHAT IT READS IS OF BULK AT MOST 1048576: true; the input reads as it did. -/
def lsaComparesUptoRow : OpenClaim := { program := "ytenfcnappjekgaa", sum := "9d2612441192aaa61e03f61633fa0e1c82452520750f2be29c540bb488a4f428", func := "routing/routinglaw23.LsaCompares", spec := "lsaCompares", unfollowed := true, recurses := true, apart := false, narrowed := true }
def LsaComparesUptoSaid : Prop := lsaComparesUptoRow.holds Try.pinned (OpenSpec.upto lsaComparesSpec)

/-- 'routinglaw23.LsaSeals', WHERE WHAT IT READS IS OF BULK AT MOST 1048576: true; the input reads as it did. -/
def lsaSealsUptoRow : OpenClaim := { program := "ytenfcnappjekgaa", sum := "9d2612441192aaa61e03f61633fa0e1c82452520750f2be29c540bb488a4f428", func := "routing/routinglaw23.LsaSeals", spec := "lsaSeals", unfollowed := true, recurses := true, apart := false, narrowed := true }
def LsaSealsUptoSaid : Prop := lsaSealsUptoRow.holds Try.pinned (OpenSpec.upto lsaSealsSpec)

/-- 'routinglaw23.LsaDecodes', WHERE WHAT IT READS IS OF BULK AT MOST 1048576: true; the input reads as it did. -/
def lsaDecodesUptoRow : OpenClaim := { program := "ytenfcnappjekgaa", sum := "9d2612441192aaa61e03f61633fa0e1c82452520750f2be29c540bb488a4f428", func := "routing/routinglaw23.LsaDecodes", spec := "lsaDecodes", unfollowed := true, recurses := true, apart := false, narrowed := true }
def LsaDecodesUptoSaid : Prop := lsaDecodesUptoRow.holds Try.pinned (OpenSpec.upto lsaDecodesSpec)

/-- 'routinglaw23.LsaHeaders', WHERE WHAT IT READS IS OF BULK AT MOST 1048576: true; the input reads as it did. -/
def lsaHeadersUptoRow : OpenClaim := { program := "ytenfcnappjekgaa", sum := "9d2612441192aaa61e03f61633fa0e1c82452520750f2be29c540bb488a4f428", func := "routing/routinglaw23.LsaHeaders", spec := "lsaHeaders", unfollowed := true, recurses := true, apart := false, narrowed := true }
def LsaHeadersUptoSaid : Prop := lsaHeadersUptoRow.holds Try.pinned (OpenSpec.upto lsaHeadersSpec)

/-- 'routinglaw23.LsaPrefixes', WHERE WHAT IT READS IS OF BULK AT MOST 1048576: true; the input reads as it did. -/
def lsaPrefixesUptoRow : OpenClaim := { program := "ytenfcnappjekgaa", sum := "9d2612441192aaa61e03f61633fa0e1c82452520750f2be29c540bb488a4f428", func := "routing/routinglaw23.LsaPrefixes", spec := "lsaPrefixes", unfollowed := true, recurses := true, apart := false, narrowed := true }
def LsaPrefixesUptoSaid : Prop := lsaPrefixesUptoRow.holds Try.pinned (OpenSpec.upto lsaPrefixesSpec)

/-- 'routinglaw23.LsaBack', WHERE WHAT IT READS IS OF BULK AT MOST 1048576: true; the input reads as it did. -/
def lsaBackUptoRow : OpenClaim := { program := "ytenfcnappjekgaa", sum := "9d2612441192aaa61e03f61633fa0e1c82452520750f2be29c540bb488a4f428", func := "routing/routinglaw23.LsaBack", spec := "lsaBack", unfollowed := true, recurses := true, apart := false, narrowed := true }
def LsaBackUptoSaid : Prop := lsaBackUptoRow.holds Try.pinned (OpenSpec.upto lsaBackSpec)

/-- 'routinglaw23.LsaOrder', WHERE WHAT IT READS IS OF BULK AT MOST 1048576: true; the input reads as it did. -/
def lsaOrderUptoRow : OpenClaim := { program := "ytenfcnappjekgaa", sum := "9d2612441192aaa61e03f61633fa0e1c82452520750f2be29c540bb488a4f428", func := "routing/routinglaw23.LsaOrder", spec := "lsaOrder", unfollowed := true, recurses := true, apart := false, narrowed := true }
def LsaOrderUptoSaid : Prop := lsaOrderUptoRow.holds Try.pinned (OpenSpec.upto lsaOrderSpec)

/-- 'routinglaw23.LsaAges', WHERE WHAT IT READS IS OF BULK AT MOST 1048576: true; the input reads as it did. -/
def lsaAgesUptoRow : OpenClaim := { program := "ytenfcnappjekgaa", sum := "9d2612441192aaa61e03f61633fa0e1c82452520750f2be29c540bb488a4f428", func := "routing/routinglaw23.LsaAges", spec := "lsaAges", unfollowed := true, recurses := true, apart := false, narrowed := true }
def LsaAgesUptoSaid : Prop := lsaAgesUptoRow.holds Try.pinned (OpenSpec.upto lsaAgesSpec)

end Rows
end Go.Proofs.Ytenfcnappjekgaa
