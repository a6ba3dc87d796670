/-
  No cell of these rows narrows 'for every input' (looked for: loops, veiled, ifaces, maps, wideKeys, modest, calm, conditions, laid).
  DERIVED. THE GIVEN ROWS OF THIS SEAT. 14 by the template 'for every input the law returns true; each argument reads behind the call as it read before'; 0 by the template 'total and deterministic' (their statements: YtmbogobebllheaaTotals.lean).
  GIVEN WITH THE SEED: the statements are not yours to turn. If you find one false, say at which input.
  Laid BY PROGRAM, IN A SANDBOX (cutbox-rows.mjs): the forced cells as the released guide's own fill.sh prints them over the translation 64b7e97d4f54c3f2… (all of the seat's roots in one cut). By AI agents, Wed Nov 11 2026. No macro, syntax, notation, axiom, sorry.
-/
import Derived.Test.YtmbogobebllheaaChecked
import GoSem.Claim
import GoSem.ClaimJoined
import GoSem.ClaimMapViews
import Derived.JoinedTies
import Derived.KernelRfl
namespace Go.Proofs.Ytmbogobebllheaa
/- THE CELL 'sum', in the pinned program and in every row, IS THE sha256 OF THE DUMP (.gsa) THAT YtmbogobebllheaaProg.lean LOADS. Nothing in Lean hashes anything: it is a label: what it is worth is what the hold of that sum in a sandbox is worth. -/
noncomputable def Try.pinned : Pinned := { name := "ytmbogobebllheaa", sum := "64b7e97d4f54c3f242961e2706b4c0a04bd40248dd21866af0d19cc723628eb9", checked := Try.checked }
namespace Rows
def none {H : Type} : Left H := { results := [], args := [] }

/-- 'routinglaw13.LfaTests': WHATEVER THE INPUT: true; the input reads as it did. -/
def lfaTestsSpec : ChangeSpec := { name := "lfaTests", fn := fun _ => fun
  | [d1, d2, d3, d4] => { results := [.lit (.bool true)], args := [d1, d2, d3, d4] }
  | _ => none }
def lfaTestsRow : OpenClaim := { program := "ytmbogobebllheaa", sum := "64b7e97d4f54c3f242961e2706b4c0a04bd40248dd21866af0d19cc723628eb9", func := "routing/routinglaw13.LfaTests", spec := "lfaTests", inPlace := ["slices.overlaps[int]"], unfollowed := true, recurses := true, apart := false }
def LfaTestsSaid : Prop := lfaTestsRow.holds Try.pinned (OpenSpec.ofChange lfaTestsSpec)

/-- ITS FALSE NEIGHBOUR: 'it returns false'. Refute it at one input. -/
def lfaTestsWrong : ChangeSpec := { name := "lfaTests", fn := fun _ => fun
  | [d1, d2, d3, d4] => { results := [.lit (.bool false)], args := [d1, d2, d3, d4] }
  | _ => none }
def LfaTestsWrongFalsely : Prop := lfaTestsRow.holds Try.pinned (OpenSpec.ofChange lfaTestsWrong)

/-- 'routinglaw13.LfaAll': WHATEVER THE INPUT: true; the input reads as it did. -/
def lfaAllSpec : ChangeSpec := { name := "lfaAll", fn := fun _ => fun
  | [d1, d2] => { results := [.lit (.bool true)], args := [d1, d2] }
  | _ => none }
def lfaAllRow : OpenClaim := { program := "ytmbogobebllheaa", sum := "64b7e97d4f54c3f242961e2706b4c0a04bd40248dd21866af0d19cc723628eb9", func := "routing/routinglaw13.LfaAll", spec := "lfaAll", inPlace := ["slices.overlaps[int]"], unfollowed := true, recurses := true, apart := false }
def LfaAllSaid : Prop := lfaAllRow.holds Try.pinned (OpenSpec.ofChange lfaAllSpec)

/-- ITS FALSE NEIGHBOUR: 'it returns false'. Refute it at one input. -/
def lfaAllWrong : ChangeSpec := { name := "lfaAll", fn := fun _ => fun
  | [d1, d2] => { results := [.lit (.bool false)], args := [d1, d2] }
  | _ => none }
def LfaAllWrongFalsely : Prop := lfaAllRow.holds Try.pinned (OpenSpec.ofChange lfaAllWrong)

/-- 'routinglaw13.LfaSpaces': WHATEVER THE INPUT: true; the input reads as it did. -/
def lfaSpacesSpec : ChangeSpec := { name := "lfaSpaces", fn := fun _ => fun
  | [d1, d2, d3] => { results := [.lit (.bool true)], args := [d1, d2, d3] }
  | _ => none }
def lfaSpacesRow : OpenClaim := { program := "ytmbogobebllheaa", sum := "64b7e97d4f54c3f242961e2706b4c0a04bd40248dd21866af0d19cc723628eb9", func := "routing/routinglaw13.LfaSpaces", spec := "lfaSpaces", inPlace := ["slices.overlaps[int]"], unfollowed := true, recurses := true, apart := false }
def LfaSpacesSaid : Prop := lfaSpacesRow.holds Try.pinned (OpenSpec.ofChange lfaSpacesSpec)

/-- ITS FALSE NEIGHBOUR: 'it returns false'. Refute it at one input. -/
def lfaSpacesWrong : ChangeSpec := { name := "lfaSpaces", fn := fun _ => fun
  | [d1, d2, d3] => { results := [.lit (.bool false)], args := [d1, d2, d3] }
  | _ => none }
def LfaSpacesWrongFalsely : Prop := lfaSpacesRow.holds Try.pinned (OpenSpec.ofChange lfaSpacesWrong)

/-- 'routinglaw13.LfaWalks': WHATEVER THE INPUT: true; the input reads as it did. -/
def lfaWalksSpec : ChangeSpec := { name := "lfaWalks", fn := fun _ => fun
  | [d1, d2, d3, d4, d5] => { results := [.lit (.bool true)], args := [d1, d2, d3, d4, d5] }
  | _ => none }
def lfaWalksRow : OpenClaim := { program := "ytmbogobebllheaa", sum := "64b7e97d4f54c3f242961e2706b4c0a04bd40248dd21866af0d19cc723628eb9", func := "routing/routinglaw13.LfaWalks", spec := "lfaWalks", inPlace := ["slices.overlaps[int]"], unfollowed := true, recurses := true, apart := false }
def LfaWalksSaid : Prop := lfaWalksRow.holds Try.pinned (OpenSpec.ofChange lfaWalksSpec)

/-- ITS FALSE NEIGHBOUR: 'it returns false'. Refute it at one input. -/
def lfaWalksWrong : ChangeSpec := { name := "lfaWalks", fn := fun _ => fun
  | [d1, d2, d3, d4, d5] => { results := [.lit (.bool false)], args := [d1, d2, d3, d4, d5] }
  | _ => none }
def LfaWalksWrongFalsely : Prop := lfaWalksRow.holds Try.pinned (OpenSpec.ofChange lfaWalksWrong)

/-- 'routinglaw13.LfaWalk': WHATEVER THE INPUT: true; the input reads as it did. -/
def lfaWalkSpec : ChangeSpec := { name := "lfaWalk", fn := fun _ => fun
  | [d1, d2] => { results := [.lit (.bool true)], args := [d1, d2] }
  | _ => none }
def lfaWalkRow : OpenClaim := { program := "ytmbogobebllheaa", sum := "64b7e97d4f54c3f242961e2706b4c0a04bd40248dd21866af0d19cc723628eb9", func := "routing/routinglaw13.LfaWalk", spec := "lfaWalk", inPlace := ["slices.overlaps[int]"], unfollowed := true, recurses := true, apart := false }
def LfaWalkSaid : Prop := lfaWalkRow.holds Try.pinned (OpenSpec.ofChange lfaWalkSpec)

/-- ITS FALSE NEIGHBOUR: 'it returns false'. Refute it at one input. -/
def lfaWalkWrong : ChangeSpec := { name := "lfaWalk", fn := fun _ => fun
  | [d1, d2] => { results := [.lit (.bool false)], args := [d1, d2] }
  | _ => none }
def LfaWalkWrongFalsely : Prop := lfaWalkRow.holds Try.pinned (OpenSpec.ofChange lfaWalkWrong)

/-- 'routinglaw13.LfaRemote': WHATEVER THE INPUT: true; the input reads as it did. -/
def lfaRemoteSpec : ChangeSpec := { name := "lfaRemote", fn := fun _ => fun
  | [d1, d2, d3] => { results := [.lit (.bool true)], args := [d1, d2, d3] }
  | _ => none }
def lfaRemoteRow : OpenClaim := { program := "ytmbogobebllheaa", sum := "64b7e97d4f54c3f242961e2706b4c0a04bd40248dd21866af0d19cc723628eb9", func := "routing/routinglaw13.LfaRemote", spec := "lfaRemote", inPlace := ["slices.overlaps[int]"], unfollowed := true, recurses := true, apart := false }
def LfaRemoteSaid : Prop := lfaRemoteRow.holds Try.pinned (OpenSpec.ofChange lfaRemoteSpec)

/-- ITS FALSE NEIGHBOUR: 'it returns false'. Refute it at one input. -/
def lfaRemoteWrong : ChangeSpec := { name := "lfaRemote", fn := fun _ => fun
  | [d1, d2, d3] => { results := [.lit (.bool false)], args := [d1, d2, d3] }
  | _ => none }
def LfaRemoteWrongFalsely : Prop := lfaRemoteRow.holds Try.pinned (OpenSpec.ofChange lfaRemoteWrong)

/-- 'routinglaw13.LfaDownstream': WHATEVER THE INPUT: true; the input reads as it did. -/
def lfaDownstreamSpec : ChangeSpec := { name := "lfaDownstream", fn := fun _ => fun
  | [d1, d2] => { results := [.lit (.bool true)], args := [d1, d2] }
  | _ => none }
def lfaDownstreamRow : OpenClaim := { program := "ytmbogobebllheaa", sum := "64b7e97d4f54c3f242961e2706b4c0a04bd40248dd21866af0d19cc723628eb9", func := "routing/routinglaw13.LfaDownstream", spec := "lfaDownstream", inPlace := ["slices.overlaps[int]"], unfollowed := true, recurses := true, apart := false }
def LfaDownstreamSaid : Prop := lfaDownstreamRow.holds Try.pinned (OpenSpec.ofChange lfaDownstreamSpec)

/-- ITS FALSE NEIGHBOUR: 'it returns false'. Refute it at one input. -/
def lfaDownstreamWrong : ChangeSpec := { name := "lfaDownstream", fn := fun _ => fun
  | [d1, d2] => { results := [.lit (.bool false)], args := [d1, d2] }
  | _ => none }
def LfaDownstreamWrongFalsely : Prop := lfaDownstreamRow.holds Try.pinned (OpenSpec.ofChange lfaDownstreamWrong)

/-- 'routinglaw14.CspfChecks': WHATEVER THE INPUT: true; the input reads as it did. -/
def cspfChecksSpec : ChangeSpec := { name := "cspfChecks", fn := fun _ => fun
  | [d1, d2, d3] => { results := [.lit (.bool true)], args := [d1, d2, d3] }
  | _ => none }
def cspfChecksRow : OpenClaim := { program := "ytmbogobebllheaa", sum := "64b7e97d4f54c3f242961e2706b4c0a04bd40248dd21866af0d19cc723628eb9", func := "routing/routinglaw14.CspfChecks", spec := "cspfChecks", unfollowed := true, recurses := true, apart := false }
def CspfChecksSaid : Prop := cspfChecksRow.holds Try.pinned (OpenSpec.ofChange cspfChecksSpec)

/-- ITS FALSE NEIGHBOUR: 'it returns false'. Refute it at one input. -/
def cspfChecksWrong : ChangeSpec := { name := "cspfChecks", fn := fun _ => fun
  | [d1, d2, d3] => { results := [.lit (.bool false)], args := [d1, d2, d3] }
  | _ => none }
def CspfChecksWrongFalsely : Prop := cspfChecksRow.holds Try.pinned (OpenSpec.ofChange cspfChecksWrong)

/-- 'routinglaw14.CspfRoutes': WHATEVER THE INPUT: true; the input reads as it did. -/
def cspfRoutesSpec : ChangeSpec := { name := "cspfRoutes", fn := fun _ => fun
  | [d1, d2, d3, d4, d5] => { results := [.lit (.bool true)], args := [d1, d2, d3, d4, d5] }
  | _ => none }
def cspfRoutesRow : OpenClaim := { program := "ytmbogobebllheaa", sum := "64b7e97d4f54c3f242961e2706b4c0a04bd40248dd21866af0d19cc723628eb9", func := "routing/routinglaw14.CspfRoutes", spec := "cspfRoutes", unfollowed := true, recurses := true, apart := false }
def CspfRoutesSaid : Prop := cspfRoutesRow.holds Try.pinned (OpenSpec.ofChange cspfRoutesSpec)

/-- ITS FALSE NEIGHBOUR: 'it returns false'. Refute it at one input. -/
def cspfRoutesWrong : ChangeSpec := { name := "cspfRoutes", fn := fun _ => fun
  | [d1, d2, d3, d4, d5] => { results := [.lit (.bool false)], args := [d1, d2, d3, d4, d5] }
  | _ => none }
def CspfRoutesWrongFalsely : Prop := cspfRoutesRow.holds Try.pinned (OpenSpec.ofChange cspfRoutesWrong)

/-- 'routinglaw14.CspfFits': WHATEVER THE INPUT: true; the input reads as it did. -/
def cspfFitsSpec : ChangeSpec := { name := "cspfFits", fn := fun _ => fun
  | [d1, d2, d3, d4] => { results := [.lit (.bool true)], args := [d1, d2, d3, d4] }
  | _ => none }
def cspfFitsRow : OpenClaim := { program := "ytmbogobebllheaa", sum := "64b7e97d4f54c3f242961e2706b4c0a04bd40248dd21866af0d19cc723628eb9", func := "routing/routinglaw14.CspfFits", spec := "cspfFits", unfollowed := true, recurses := true, apart := false }
def CspfFitsSaid : Prop := cspfFitsRow.holds Try.pinned (OpenSpec.ofChange cspfFitsSpec)

/-- ITS FALSE NEIGHBOUR: 'it returns false'. Refute it at one input. -/
def cspfFitsWrong : ChangeSpec := { name := "cspfFits", fn := fun _ => fun
  | [d1, d2, d3, d4] => { results := [.lit (.bool false)], args := [d1, d2, d3, d4] }
  | _ => none }
def CspfFitsWrongFalsely : Prop := cspfFitsRow.holds Try.pinned (OpenSpec.ofChange cspfFitsWrong)

/-- 'routinglaw14.CspfBest': WHATEVER THE INPUT: true; the input reads as it did. -/
def cspfBestSpec : ChangeSpec := { name := "cspfBest", fn := fun _ => fun
  | [d1, d2, d3, d4] => { results := [.lit (.bool true)], args := [d1, d2, d3, d4] }
  | _ => none }
def cspfBestRow : OpenClaim := { program := "ytmbogobebllheaa", sum := "64b7e97d4f54c3f242961e2706b4c0a04bd40248dd21866af0d19cc723628eb9", func := "routing/routinglaw14.CspfBest", spec := "cspfBest", unfollowed := true, recurses := true, apart := false }
def CspfBestSaid : Prop := cspfBestRow.holds Try.pinned (OpenSpec.ofChange cspfBestSpec)

/-- ITS FALSE NEIGHBOUR: 'it returns false'. Refute it at one input. -/
def cspfBestWrong : ChangeSpec := { name := "cspfBest", fn := fun _ => fun
  | [d1, d2, d3, d4] => { results := [.lit (.bool false)], args := [d1, d2, d3, d4] }
  | _ => none }
def CspfBestWrongFalsely : Prop := cspfBestRow.holds Try.pinned (OpenSpec.ofChange cspfBestWrong)

/-- 'routinglaw14.CspfPlain': WHATEVER THE INPUT: true; the input reads as it did. -/
def cspfPlainSpec : ChangeSpec := { name := "cspfPlain", fn := fun _ => fun
  | [d1, d2, d3, d4] => { results := [.lit (.bool true)], args := [d1, d2, d3, d4] }
  | _ => none }
def cspfPlainRow : OpenClaim := { program := "ytmbogobebllheaa", sum := "64b7e97d4f54c3f242961e2706b4c0a04bd40248dd21866af0d19cc723628eb9", func := "routing/routinglaw14.CspfPlain", spec := "cspfPlain", unfollowed := true, recurses := true, apart := false }
def CspfPlainSaid : Prop := cspfPlainRow.holds Try.pinned (OpenSpec.ofChange cspfPlainSpec)

/-- ITS FALSE NEIGHBOUR: 'it returns false'. Refute it at one input. -/
def cspfPlainWrong : ChangeSpec := { name := "cspfPlain", fn := fun _ => fun
  | [d1, d2, d3, d4] => { results := [.lit (.bool false)], args := [d1, d2, d3, d4] }
  | _ => none }
def CspfPlainWrongFalsely : Prop := cspfPlainRow.holds Try.pinned (OpenSpec.ofChange cspfPlainWrong)

/-- 'routinglaw14.CspfLess': WHATEVER THE INPUT: true; the input reads as it did. -/
def cspfLessSpec : ChangeSpec := { name := "cspfLess", fn := fun _ => fun
  | [d1, d2, d3, d4, d5, d6] => { results := [.lit (.bool true)], args := [d1, d2, d3, d4, d5, d6] }
  | _ => none }
def cspfLessRow : OpenClaim := { program := "ytmbogobebllheaa", sum := "64b7e97d4f54c3f242961e2706b4c0a04bd40248dd21866af0d19cc723628eb9", func := "routing/routinglaw14.CspfLess", spec := "cspfLess", unfollowed := true, recurses := true, apart := false }
def CspfLessSaid : Prop := cspfLessRow.holds Try.pinned (OpenSpec.ofChange cspfLessSpec)

/-- ITS FALSE NEIGHBOUR: 'it returns false'. Refute it at one input. -/
def cspfLessWrong : ChangeSpec := { name := "cspfLess", fn := fun _ => fun
  | [d1, d2, d3, d4, d5, d6] => { results := [.lit (.bool false)], args := [d1, d2, d3, d4, d5, d6] }
  | _ => none }
def CspfLessWrongFalsely : Prop := cspfLessRow.holds Try.pinned (OpenSpec.ofChange cspfLessWrong)

/-- 'routingtop.TopAlternates': WHATEVER THE INPUT: true; the input reads as it did. -/
def topAlternatesSpec : ChangeSpec := { name := "topAlternates", fn := fun _ => fun
  | [d1, d2] => { results := [.lit (.bool true)], args := [d1, d2] }
  | _ => none }
def topAlternatesRow : OpenClaim := { program := "ytmbogobebllheaa", sum := "64b7e97d4f54c3f242961e2706b4c0a04bd40248dd21866af0d19cc723628eb9", func := "routing/routingtop.TopAlternates", spec := "topAlternates", inPlace := ["slices.overlaps[int]"], unfollowed := true, recurses := true, apart := false }
def TopAlternatesSaid : Prop := topAlternatesRow.holds Try.pinned (OpenSpec.ofChange topAlternatesSpec)

/-- ITS FALSE NEIGHBOUR: 'it returns false'. Refute it at one input. -/
def topAlternatesWrong : ChangeSpec := { name := "topAlternates", fn := fun _ => fun
  | [d1, d2] => { results := [.lit (.bool false)], args := [d1, d2] }
  | _ => none }
def TopAlternatesWrongFalsely : Prop := topAlternatesRow.holds Try.pinned (OpenSpec.ofChange topAlternatesWrong)

/- THE SECOND FORM. 'bulk': how many values and letters a reading holds, each counted each time it is reached (what is shared counts as often as it is met; a slice's spare places count too). A statement '..UptoSaid' is the law's where the arguments, and the package variables that the reading takes, are together of bulk at most 1048576: NARROWER than '..Said'. Prove '..Said' where nothing that the law and all that it calls make is longer than what came in: it says more and counts as full. Else prove '..UptoSaid'. A law counts once. -/
mutual
def uptoBulk {H : Type} : DataW H → Nat
  | .lit (.string bytes) => bytes.length + 1
  | .lit _ => 1
  | .nil => 1
  | .ptr d => uptoBulk d + 1
  | .slice elems spare => uptoBulkAll elems + uptoBulkAll spare + 1
  | .agg parts => uptoBulkAll parts + 1
  | .iface _ d => uptoBulk d + 1
  | .map entries => uptoBulkEntries entries + 1
  | .held _ => 1
def uptoBulkAll {H : Type} : List (DataW H) → Nat
  | [] => 0
  | d :: r => uptoBulk d + uptoBulkAll r
def uptoBulkEntries {H : Type} : List (Lit × DataW H) → Nat
  | [] => 0
  | x :: r => uptoBulkEntry x + uptoBulkEntries r
def uptoBulkEntry {H : Type} : Lit × DataW H → Nat
  | (.string bytes, d) => bytes.length + uptoBulk d + 1
  | (_, d) => uptoBulk d + 1
 end
def uptoSmall : (H : Type) → List (DataW H) → Bool := fun _ ds => decide (uptoBulkAll ds ≤ 1048576)
def OpenSpec.upto (s : _root_.Go.ChangeSpec) : _root_.Go.OpenSpec := { _root_.Go.OpenSpec.ofChange s with cond := some uptoSmall }

/-- 'routinglaw13.LfaTests', WHERE WHAT IT READS IS OF BULK AT MOST 1048576: true; the input reads as it did. -/
def lfaTestsUptoRow : OpenClaim := { program := "ytmbogobebllheaa", sum := "64b7e97d4f54c3f242961e2706b4c0a04bd40248dd21866af0d19cc723628eb9", func := "routing/routinglaw13.LfaTests", spec := "lfaTests", inPlace := ["slices.overlaps[int]"], unfollowed := true, recurses := true, apart := false, narrowed := true }
def LfaTestsUptoSaid : Prop := lfaTestsUptoRow.holds Try.pinned (OpenSpec.upto lfaTestsSpec)

/-- 'routinglaw13.LfaAll', WHERE WHAT IT READS IS OF BULK AT MOST 1048576: true; the input reads as it did. -/
def lfaAllUptoRow : OpenClaim := { program := "ytmbogobebllheaa", sum := "64b7e97d4f54c3f242961e2706b4c0a04bd40248dd21866af0d19cc723628eb9", func := "routing/routinglaw13.LfaAll", spec := "lfaAll", inPlace := ["slices.overlaps[int]"], unfollowed := true, recurses := true, apart := false, narrowed := true }
def LfaAllUptoSaid : Prop := lfaAllUptoRow.holds Try.pinned (OpenSpec.upto lfaAllSpec)

/-- 'routinglaw13.LfaSpaces', WHERE WHAT IT READS IS OF BULK AT MOST 1048576: true; the input reads as it did. -/
def lfaSpacesUptoRow : OpenClaim := { program := "ytmbogobebllheaa", sum := "64b7e97d4f54c3f242961e2706b4c0a04bd40248dd21866af0d19cc723628eb9", func := "routing/routinglaw13.LfaSpaces", spec := "lfaSpaces", inPlace := ["slices.overlaps[int]"], unfollowed := true, recurses := true, apart := false, narrowed := true }
def LfaSpacesUptoSaid : Prop := lfaSpacesUptoRow.holds Try.pinned (OpenSpec.upto lfaSpacesSpec)

/-- 'routinglaw13.LfaWalks', WHERE WHAT IT READS IS OF BULK AT MOST 1048576: true; the input reads as it did. -/
def lfaWalksUptoRow : OpenClaim := { program := "ytmbogobebllheaa", sum := "64b7e97d4f54c3f242961e2706b4c0a04bd40248dd21866af0d19cc723628eb9", func := "routing/routinglaw13.LfaWalks", spec := "lfaWalks", inPlace := ["slices.overlaps[int]"], unfollowed := true, recurses := true, apart := false, narrowed := true }
def LfaWalksUptoSaid : Prop := lfaWalksUptoRow.holds Try.pinned (OpenSpec.upto lfaWalksSpec)

/-- 'routinglaw13.LfaWalk', WHERE WHAT IT READS IS OF BULK AT MOST 1048576: true; the input reads as it did. -/
def lfaWalkUptoRow : OpenClaim := { program := "ytmbogobebllheaa", sum := "64b7e97d4f54c3f242961e2706b4c0a04bd40248dd21866af0d19cc723628eb9", func := "routing/routinglaw13.LfaWalk", spec := "lfaWalk", inPlace := ["slices.overlaps[int]"], unfollowed := true, recurses := true, apart := false, narrowed := true }
def LfaWalkUptoSaid : Prop := lfaWalkUptoRow.holds Try.pinned (OpenSpec.upto lfaWalkSpec)

/-- 'routinglaw13.LfaRemote', WHERE WHAT IT READS IS OF BULK AT MOST 1048576: true; the input reads as it did. -/
def lfaRemoteUptoRow : OpenClaim := { program := "ytmbogobebllheaa", sum := "64b7e97d4f54c3f242961e2706b4c0a04bd40248dd21866af0d19cc723628eb9", func := "routing/routinglaw13.LfaRemote", spec := "lfaRemote", inPlace := ["slices.overlaps[int]"], unfollowed := true, recurses := true, apart := false, narrowed := true }
def LfaRemoteUptoSaid : Prop := lfaRemoteUptoRow.holds Try.pinned (OpenSpec.upto lfaRemoteSpec)

/-- 'routinglaw13.LfaDownstream', WHERE WHAT IT READS IS OF BULK AT MOST 1048576: true; the input reads as it did. -/
def lfaDownstreamUptoRow : OpenClaim := { program := "ytmbogobebllheaa", sum := "64b7e97d4f54c3f242961e2706b4c0a04bd40248dd21866af0d19cc723628eb9", func := "routing/routinglaw13.LfaDownstream", spec := "lfaDownstream", inPlace := ["slices.overlaps[int]"], unfollowed := true, recurses := true, apart := false, narrowed := true }
def LfaDownstreamUptoSaid : Prop := lfaDownstreamUptoRow.holds Try.pinned (OpenSpec.upto lfaDownstreamSpec)

/-- 'routinglaw14.CspfChecks', WHERE WHAT IT READS IS OF BULK AT MOST 1048576: true; the input reads as it did. -/
def cspfChecksUptoRow : OpenClaim := { program := "ytmbogobebllheaa", sum := "64b7e97d4f54c3f242961e2706b4c0a04bd40248dd21866af0d19cc723628eb9", func := "routing/routinglaw14.CspfChecks", spec := "cspfChecks", unfollowed := true, recurses := true, apart := false, narrowed := true }
def CspfChecksUptoSaid : Prop := cspfChecksUptoRow.holds Try.pinned (OpenSpec.upto cspfChecksSpec)

/-- 'routinglaw14.CspfRoutes', WHERE WHAT IT READS IS OF BULK AT MOST 1048576: true; the input reads as it did. -/
def cspfRoutesUptoRow : OpenClaim := { program := "ytmbogobebllheaa", sum := "64b7e97d4f54c3f242961e2706b4c0a04bd40248dd21866af0d19cc723628eb9", func := "routing/routinglaw14.CspfRoutes", spec := "cspfRoutes", unfollowed := true, recurses := true, apart := false, narrowed := true }
def CspfRoutesUptoSaid : Prop := cspfRoutesUptoRow.holds Try.pinned (OpenSpec.upto cspfRoutesSpec)

/-- 'routinglaw14.CspfFits', WHERE WHAT IT READS IS OF BULK AT MOST 1048576: true; the input reads as it did. -/
def cspfFitsUptoRow : OpenClaim := { program := "ytmbogobebllheaa", sum := "64b7e97d4f54c3f242961e2706b4c0a04bd40248dd21866af0d19cc723628eb9", func := "routing/routinglaw14.CspfFits", spec := "cspfFits", unfollowed := true, recurses := true, apart := false, narrowed := true }
def CspfFitsUptoSaid : Prop := cspfFitsUptoRow.holds Try.pinned (OpenSpec.upto cspfFitsSpec)

/-- 'routinglaw14.CspfBest', WHERE WHAT IT READS IS OF BULK AT MOST 1048576: true; the input reads as it did. -/
def cspfBestUptoRow : OpenClaim := { program := "ytmbogobebllheaa", sum := "64b7e97d4f54c3f242961e2706b4c0a04bd40248dd21866af0d19cc723628eb9", func := "routing/routinglaw14.CspfBest", spec := "cspfBest", unfollowed := true, recurses := true, apart := false, narrowed := true }
def CspfBestUptoSaid : Prop := cspfBestUptoRow.holds Try.pinned (OpenSpec.upto cspfBestSpec)

/-- 'routinglaw14.CspfPlain', WHERE WHAT IT READS IS OF BULK AT MOST 1048576: true; the input reads as it did. -/
def cspfPlainUptoRow : OpenClaim := { program := "ytmbogobebllheaa", sum := "64b7e97d4f54c3f242961e2706b4c0a04bd40248dd21866af0d19cc723628eb9", func := "routing/routinglaw14.CspfPlain", spec := "cspfPlain", unfollowed := true, recurses := true, apart := false, narrowed := true }
def CspfPlainUptoSaid : Prop := cspfPlainUptoRow.holds Try.pinned (OpenSpec.upto cspfPlainSpec)

/-- 'routinglaw14.CspfLess', WHERE WHAT IT READS IS OF BULK AT MOST 1048576: true; the input reads as it did. -/
def cspfLessUptoRow : OpenClaim := { program := "ytmbogobebllheaa", sum := "64b7e97d4f54c3f242961e2706b4c0a04bd40248dd21866af0d19cc723628eb9", func := "routing/routinglaw14.CspfLess", spec := "cspfLess", unfollowed := true, recurses := true, apart := false, narrowed := true }
def CspfLessUptoSaid : Prop := cspfLessUptoRow.holds Try.pinned (OpenSpec.upto cspfLessSpec)

/-- 'routingtop.TopAlternates', WHERE WHAT IT READS IS OF BULK AT MOST 1048576: true; the input reads as it did. -/
def topAlternatesUptoRow : OpenClaim := { program := "ytmbogobebllheaa", sum := "64b7e97d4f54c3f242961e2706b4c0a04bd40248dd21866af0d19cc723628eb9", func := "routing/routingtop.TopAlternates", spec := "topAlternates", inPlace := ["slices.overlaps[int]"], unfollowed := true, recurses := true, apart := false, narrowed := true }
def TopAlternatesUptoSaid : Prop := topAlternatesUptoRow.holds Try.pinned (OpenSpec.upto topAlternatesSpec)

end Rows
end Go.Proofs.Ytmbogobebllheaa
