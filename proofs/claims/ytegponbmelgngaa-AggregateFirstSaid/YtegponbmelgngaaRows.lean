/-
  No cell of these rows narrows 'for every input' (looked for: loops, veiled, ifaces, maps, wideKeys, modest, calm, conditions, laid).
  DERIVED. THE GIVEN ROWS OF THIS SEAT. 13 by the template 'for every input the law returns true; each argument reads behind the call as it read before'; 0 by the template 'total and deterministic' (their statements: YtegponbmelgngaaTotals.lean).
  GIVEN WITH THE SEED: the statements are not yours to turn. If you find one false, say at which input.
  Laid BY PROGRAM, IN A SANDBOX (cutbox-rows.mjs): the forced cells as the released guide's own fill.sh prints them over the translation a6856e3c47efc352… (all of the seat's roots in one cut). By AI agents, Wed Nov 11 2026. No macro, syntax, notation, axiom, sorry.
-/
import Derived.Test.YtegponbmelgngaaChecked
import GoSem.Claim
import GoSem.ClaimJoined
import GoSem.ClaimMapViews
import Derived.JoinedTies
import Derived.KernelRfl
namespace Go.Proofs.Ytegponbmelgngaa
/- THE CELL 'sum', in the pinned program and in every row, IS THE sha256 OF THE DUMP (.gsa) THAT YtegponbmelgngaaProg.lean LOADS. Nothing in Lean hashes anything: it is a label: what it is worth is what the hold of that sum in a sandbox is worth. -/
noncomputable def Try.pinned : Pinned := { name := "ytegponbmelgngaa", sum := "a6856e3c47efc3529d13d87a2ed6367c8ea78789f64f33c4d119ff9913cc933b", checked := Try.checked }
namespace Rows
def none {H : Type} : Left H := { results := [], args := [] }

/-- 'routinglaw05.CoverNormal': WHATEVER THE INPUT: true; the input reads as it did. -/
def coverNormalSpec : ChangeSpec := { name := "coverNormal", fn := fun _ => fun
  | [d] => { results := [.lit (.bool true)], args := [d] }
  | _ => none }
def coverNormalRow : OpenClaim := { program := "ytegponbmelgngaa", sum := "a6856e3c47efc3529d13d87a2ed6367c8ea78789f64f33c4d119ff9913cc933b", func := "routing/routinglaw05.CoverNormal", spec := "coverNormal", unfollowed := true, recurses := true, apart := false }
def CoverNormalSaid : Prop := coverNormalRow.holds Try.pinned (OpenSpec.ofChange coverNormalSpec)

/-- ITS FALSE NEIGHBOUR: 'it returns false'. Refute it at one input. -/
def coverNormalWrong : ChangeSpec := { name := "coverNormal", fn := fun _ => fun
  | [d] => { results := [.lit (.bool false)], args := [d] }
  | _ => none }
def CoverNormalWrongFalsely : Prop := coverNormalRow.holds Try.pinned (OpenSpec.ofChange coverNormalWrong)

/-- 'routinglaw05.CoverSets': WHATEVER THE INPUT: true; the input reads as it did. -/
def coverSetsSpec : ChangeSpec := { name := "coverSets", fn := fun _ => fun
  | [d1, d2] => { results := [.lit (.bool true)], args := [d1, d2] }
  | _ => none }
def coverSetsRow : OpenClaim := { program := "ytegponbmelgngaa", sum := "a6856e3c47efc3529d13d87a2ed6367c8ea78789f64f33c4d119ff9913cc933b", func := "routing/routinglaw05.CoverSets", spec := "coverSets", unfollowed := true, recurses := true, apart := false }
def CoverSetsSaid : Prop := coverSetsRow.holds Try.pinned (OpenSpec.ofChange coverSetsSpec)

/-- ITS FALSE NEIGHBOUR: 'it returns false'. Refute it at one input. -/
def coverSetsWrong : ChangeSpec := { name := "coverSets", fn := fun _ => fun
  | [d1, d2] => { results := [.lit (.bool false)], args := [d1, d2] }
  | _ => none }
def CoverSetsWrongFalsely : Prop := coverSetsRow.holds Try.pinned (OpenSpec.ofChange coverSetsWrong)

/-- 'routinglaw05.CoverRange': WHATEVER THE INPUT: true; the input reads as it did. -/
def coverRangeSpec : ChangeSpec := { name := "coverRange", fn := fun _ => fun
  | [d1, d2] => { results := [.lit (.bool true)], args := [d1, d2] }
  | _ => none }
def coverRangeRow : OpenClaim := { program := "ytegponbmelgngaa", sum := "a6856e3c47efc3529d13d87a2ed6367c8ea78789f64f33c4d119ff9913cc933b", func := "routing/routinglaw05.CoverRange", spec := "coverRange", unfollowed := true, recurses := true, apart := false }
def CoverRangeSaid : Prop := coverRangeRow.holds Try.pinned (OpenSpec.ofChange coverRangeSpec)

/-- ITS FALSE NEIGHBOUR: 'it returns false'. Refute it at one input. -/
def coverRangeWrong : ChangeSpec := { name := "coverRange", fn := fun _ => fun
  | [d1, d2] => { results := [.lit (.bool false)], args := [d1, d2] }
  | _ => none }
def CoverRangeWrongFalsely : Prop := coverRangeRow.holds Try.pinned (OpenSpec.ofChange coverRangeWrong)

/-- 'routinglaw05.CoverMembers': WHATEVER THE INPUT: true; the input reads as it did. -/
def coverMembersSpec : ChangeSpec := { name := "coverMembers", fn := fun _ => fun
  | [d1, d2, d3] => { results := [.lit (.bool true)], args := [d1, d2, d3] }
  | _ => none }
def coverMembersRow : OpenClaim := { program := "ytegponbmelgngaa", sum := "a6856e3c47efc3529d13d87a2ed6367c8ea78789f64f33c4d119ff9913cc933b", func := "routing/routinglaw05.CoverMembers", spec := "coverMembers", unfollowed := true, recurses := true, apart := false }
def CoverMembersSaid : Prop := coverMembersRow.holds Try.pinned (OpenSpec.ofChange coverMembersSpec)

/-- ITS FALSE NEIGHBOUR: 'it returns false'. Refute it at one input. -/
def coverMembersWrong : ChangeSpec := { name := "coverMembers", fn := fun _ => fun
  | [d1, d2, d3] => { results := [.lit (.bool false)], args := [d1, d2, d3] }
  | _ => none }
def CoverMembersWrongFalsely : Prop := coverMembersRow.holds Try.pinned (OpenSpec.ofChange coverMembersWrong)

/-- 'routinglaw05.CoverCounts': WHATEVER THE INPUT: true; the input reads as it did. -/
def coverCountsSpec : ChangeSpec := { name := "coverCounts", fn := fun _ => fun
  | [d1, d2] => { results := [.lit (.bool true)], args := [d1, d2] }
  | _ => none }
def coverCountsRow : OpenClaim := { program := "ytegponbmelgngaa", sum := "a6856e3c47efc3529d13d87a2ed6367c8ea78789f64f33c4d119ff9913cc933b", func := "routing/routinglaw05.CoverCounts", spec := "coverCounts", unfollowed := true, recurses := true, apart := false }
def CoverCountsSaid : Prop := coverCountsRow.holds Try.pinned (OpenSpec.ofChange coverCountsSpec)

/-- ITS FALSE NEIGHBOUR: 'it returns false'. Refute it at one input. -/
def coverCountsWrong : ChangeSpec := { name := "coverCounts", fn := fun _ => fun
  | [d1, d2] => { results := [.lit (.bool false)], args := [d1, d2] }
  | _ => none }
def CoverCountsWrongFalsely : Prop := coverCountsRow.holds Try.pinned (OpenSpec.ofChange coverCountsWrong)

/-- 'routinglaw05.CoverSummary': WHATEVER THE INPUT: true; the input reads as it did. -/
def coverSummarySpec : ChangeSpec := { name := "coverSummary", fn := fun _ => fun
  | [d] => { results := [.lit (.bool true)], args := [d] }
  | _ => none }
def coverSummaryRow : OpenClaim := { program := "ytegponbmelgngaa", sum := "a6856e3c47efc3529d13d87a2ed6367c8ea78789f64f33c4d119ff9913cc933b", func := "routing/routinglaw05.CoverSummary", spec := "coverSummary", unfollowed := true, recurses := true, apart := false }
def CoverSummarySaid : Prop := coverSummaryRow.holds Try.pinned (OpenSpec.ofChange coverSummarySpec)

/-- ITS FALSE NEIGHBOUR: 'it returns false'. Refute it at one input. -/
def coverSummaryWrong : ChangeSpec := { name := "coverSummary", fn := fun _ => fun
  | [d] => { results := [.lit (.bool false)], args := [d] }
  | _ => none }
def CoverSummaryWrongFalsely : Prop := coverSummaryRow.holds Try.pinned (OpenSpec.ofChange coverSummaryWrong)

/-- 'routingtop.TopRanges': WHATEVER THE INPUT: true; the input reads as it did. -/
def topRangesSpec : ChangeSpec := { name := "topRanges", fn := fun _ => fun
  | [d1, d2, d3] => { results := [.lit (.bool true)], args := [d1, d2, d3] }
  | _ => none }
def topRangesRow : OpenClaim := { program := "ytegponbmelgngaa", sum := "a6856e3c47efc3529d13d87a2ed6367c8ea78789f64f33c4d119ff9913cc933b", func := "routing/routingtop.TopRanges", spec := "topRanges", unfollowed := true, recurses := true, apart := false }
def TopRangesSaid : Prop := topRangesRow.holds Try.pinned (OpenSpec.ofChange topRangesSpec)

/-- ITS FALSE NEIGHBOUR: 'it returns false'. Refute it at one input. -/
def topRangesWrong : ChangeSpec := { name := "topRanges", fn := fun _ => fun
  | [d1, d2, d3] => { results := [.lit (.bool false)], args := [d1, d2, d3] }
  | _ => none }
def TopRangesWrongFalsely : Prop := topRangesRow.holds Try.pinned (OpenSpec.ofChange topRangesWrong)

/-- 'routinglaw07.AggregateChecks': WHATEVER THE INPUT: true; the input reads as it did. -/
def aggregateChecksSpec : ChangeSpec := { name := "aggregateChecks", fn := fun _ => fun
  | [d1, d2] => { results := [.lit (.bool true)], args := [d1, d2] }
  | _ => none }
def aggregateChecksRow : OpenClaim := { program := "ytegponbmelgngaa", sum := "a6856e3c47efc3529d13d87a2ed6367c8ea78789f64f33c4d119ff9913cc933b", func := "routing/routinglaw07.AggregateChecks", spec := "aggregateChecks", inPlace := ["maps.clone"], unfollowed := true, recurses := true, apart := false }
def AggregateChecksSaid : Prop := aggregateChecksRow.holds Try.pinned (OpenSpec.ofChange aggregateChecksSpec)

/-- ITS FALSE NEIGHBOUR: 'it returns false'. Refute it at one input. -/
def aggregateChecksWrong : ChangeSpec := { name := "aggregateChecks", fn := fun _ => fun
  | [d1, d2] => { results := [.lit (.bool false)], args := [d1, d2] }
  | _ => none }
def AggregateChecksWrongFalsely : Prop := aggregateChecksRow.holds Try.pinned (OpenSpec.ofChange aggregateChecksWrong)

/-- 'routinglaw07.AggregateDiffers': WHATEVER THE INPUT: true; the input reads as it did. -/
def aggregateDiffersSpec : ChangeSpec := { name := "aggregateDiffers", fn := fun _ => fun
  | [d1, d2] => { results := [.lit (.bool true)], args := [d1, d2] }
  | _ => none }
def aggregateDiffersRow : OpenClaim := { program := "ytegponbmelgngaa", sum := "a6856e3c47efc3529d13d87a2ed6367c8ea78789f64f33c4d119ff9913cc933b", func := "routing/routinglaw07.AggregateDiffers", spec := "aggregateDiffers", inPlace := ["maps.clone"], unfollowed := true, recurses := true, apart := false }
def AggregateDiffersSaid : Prop := aggregateDiffersRow.holds Try.pinned (OpenSpec.ofChange aggregateDiffersSpec)

/-- ITS FALSE NEIGHBOUR: 'it returns false'. Refute it at one input. -/
def aggregateDiffersWrong : ChangeSpec := { name := "aggregateDiffers", fn := fun _ => fun
  | [d1, d2] => { results := [.lit (.bool false)], args := [d1, d2] }
  | _ => none }
def AggregateDiffersWrongFalsely : Prop := aggregateDiffersRow.holds Try.pinned (OpenSpec.ofChange aggregateDiffersWrong)

/-- 'routinglaw07.AggregateTrims': WHATEVER THE INPUT: true; the input reads as it did. -/
def aggregateTrimsSpec : ChangeSpec := { name := "aggregateTrims", fn := fun _ => fun
  | [d] => { results := [.lit (.bool true)], args := [d] }
  | _ => none }
def aggregateTrimsRow : OpenClaim := { program := "ytegponbmelgngaa", sum := "a6856e3c47efc3529d13d87a2ed6367c8ea78789f64f33c4d119ff9913cc933b", func := "routing/routinglaw07.AggregateTrims", spec := "aggregateTrims", inPlace := ["maps.clone"], unfollowed := true, recurses := true, apart := false }
def AggregateTrimsSaid : Prop := aggregateTrimsRow.holds Try.pinned (OpenSpec.ofChange aggregateTrimsSpec)

/-- ITS FALSE NEIGHBOUR: 'it returns false'. Refute it at one input. -/
def aggregateTrimsWrong : ChangeSpec := { name := "aggregateTrims", fn := fun _ => fun
  | [d] => { results := [.lit (.bool false)], args := [d] }
  | _ => none }
def AggregateTrimsWrongFalsely : Prop := aggregateTrimsRow.holds Try.pinned (OpenSpec.ofChange aggregateTrimsWrong)

/-- 'routinglaw07.AggregateLeast': WHATEVER THE INPUT: true; the input reads as it did. -/
def aggregateLeastSpec : ChangeSpec := { name := "aggregateLeast", fn := fun _ => fun
  | [d1, d2] => { results := [.lit (.bool true)], args := [d1, d2] }
  | _ => none }
def aggregateLeastRow : OpenClaim := { program := "ytegponbmelgngaa", sum := "a6856e3c47efc3529d13d87a2ed6367c8ea78789f64f33c4d119ff9913cc933b", func := "routing/routinglaw07.AggregateLeast", spec := "aggregateLeast", inPlace := ["maps.clone"], unfollowed := true, recurses := true, apart := false }
def AggregateLeastSaid : Prop := aggregateLeastRow.holds Try.pinned (OpenSpec.ofChange aggregateLeastSpec)

/-- ITS FALSE NEIGHBOUR: 'it returns false'. Refute it at one input. -/
def aggregateLeastWrong : ChangeSpec := { name := "aggregateLeast", fn := fun _ => fun
  | [d1, d2] => { results := [.lit (.bool false)], args := [d1, d2] }
  | _ => none }
def AggregateLeastWrongFalsely : Prop := aggregateLeastRow.holds Try.pinned (OpenSpec.ofChange aggregateLeastWrong)

/-- 'routinglaw07.AggregateTrimmed': WHATEVER THE INPUT: true; the input reads as it did. -/
def aggregateTrimmedSpec : ChangeSpec := { name := "aggregateTrimmed", fn := fun _ => fun
  | [d] => { results := [.lit (.bool true)], args := [d] }
  | _ => none }
def aggregateTrimmedRow : OpenClaim := { program := "ytegponbmelgngaa", sum := "a6856e3c47efc3529d13d87a2ed6367c8ea78789f64f33c4d119ff9913cc933b", func := "routing/routinglaw07.AggregateTrimmed", spec := "aggregateTrimmed", inPlace := ["maps.clone"], unfollowed := true, recurses := true, apart := false }
def AggregateTrimmedSaid : Prop := aggregateTrimmedRow.holds Try.pinned (OpenSpec.ofChange aggregateTrimmedSpec)

/-- ITS FALSE NEIGHBOUR: 'it returns false'. Refute it at one input. -/
def aggregateTrimmedWrong : ChangeSpec := { name := "aggregateTrimmed", fn := fun _ => fun
  | [d] => { results := [.lit (.bool false)], args := [d] }
  | _ => none }
def AggregateTrimmedWrongFalsely : Prop := aggregateTrimmedRow.holds Try.pinned (OpenSpec.ofChange aggregateTrimmedWrong)

/-- 'routinglaw07.AggregateFirst': WHATEVER THE INPUT: true; the input reads as it did. -/
def aggregateFirstSpec : ChangeSpec := { name := "aggregateFirst", fn := fun _ => fun
  | [d1, d2, d3] => { results := [.lit (.bool true)], args := [d1, d2, d3] }
  | _ => none }
def aggregateFirstRow : OpenClaim := { program := "ytegponbmelgngaa", sum := "a6856e3c47efc3529d13d87a2ed6367c8ea78789f64f33c4d119ff9913cc933b", func := "routing/routinglaw07.AggregateFirst", spec := "aggregateFirst", inPlace := ["maps.clone"], unfollowed := true, recurses := true, apart := false }
def AggregateFirstSaid : Prop := aggregateFirstRow.holds Try.pinned (OpenSpec.ofChange aggregateFirstSpec)

/-- ITS FALSE NEIGHBOUR: 'it returns false'. Refute it at one input. -/
def aggregateFirstWrong : ChangeSpec := { name := "aggregateFirst", fn := fun _ => fun
  | [d1, d2, d3] => { results := [.lit (.bool false)], args := [d1, d2, d3] }
  | _ => none }
def AggregateFirstWrongFalsely : Prop := aggregateFirstRow.holds Try.pinned (OpenSpec.ofChange aggregateFirstWrong)

/- THE SECOND FORM. 'bulk': how many values and letters a reading holds, each counted each time it is reached (what is shared counts as often as it is met; a slice's spare places count too). A statement '..UptoSaid' is the law's where the arguments, and the package variables that the reading takes, are together of bulk at most 1048576: NARROWER than '..Said'. Prove '..Said' where nothing that the law and all that it calls make is longer than what came in: it says more and counts as full. Else prove '..UptoSaid'. A law counts once. -/
mutual
def uptoBulk {H : Type} : DataW H → Nat
  | .lit (.string bytes) => bytes.length + 1
  | .lit _ => 1
  | .nil => 1
  | .ptr d => uptoBulk d + 1
  | .slice elems spare => uptoBulkAll elems + uptoBulkAll spare + 1
  | .agg parts => uptoBulkAll parts + 1
  | .iface _ d => uptoBulk d + 1
  | .map entries => uptoBulkEntries entries + 1
  | .held _ => 1
def uptoBulkAll {H : Type} : List (DataW H) → Nat
  | [] => 0
  | d :: r => uptoBulk d + uptoBulkAll r
def uptoBulkEntries {H : Type} : List (Lit × DataW H) → Nat
  | [] => 0
  | x :: r => uptoBulkEntry x + uptoBulkEntries r
def uptoBulkEntry {H : Type} : Lit × DataW H → Nat
  | (.string bytes, d) => bytes.length + uptoBulk d + 1
  | (_, d) => uptoBulk d + 1
 end
def uptoSmall : (H : Type) → List (DataW H) → Bool := fun _ ds => decide (uptoBulkAll ds ≤ 1048576)
def OpenSpec.upto (s : _root_.Go.ChangeSpec) : _root_.Go.OpenSpec := { _root_.Go.OpenSpec.ofChange s with cond := some uptoSmall }

/-- 'routinglaw05.CoverNormal', WHERE WHAT IT READS IS OF BULK AT MOST 1048576: true; the input reads as it did. -/
def coverNormalUptoRow : OpenClaim := { program := "ytegponbmelgngaa", sum := "a6856e3c47efc3529d13d87a2ed6367c8ea78789f64f33c4d119ff9913cc933b", func := "routing/routinglaw05.CoverNormal", spec := "coverNormal", unfollowed := true, recurses := true, apart := false, narrowed := true }
def CoverNormalUptoSaid : Prop := coverNormalUptoRow.holds Try.pinned (OpenSpec.upto coverNormalSpec)

/-- 'routinglaw05.CoverSets', WHERE WHAT IT READS IS OF BULK AT MOST 1048576: true; the input reads as it did. -/
def coverSetsUptoRow : OpenClaim := { program := "ytegponbmelgngaa", sum := "a6856e3c47efc3529d13d87a2ed6367c8ea78789f64f33c4d119ff9913cc933b", func := "routing/routinglaw05.CoverSets", spec := "coverSets", unfollowed := true, recurses := true, apart := false, narrowed := true }
def CoverSetsUptoSaid : Prop := coverSetsUptoRow.holds Try.pinned (OpenSpec.upto coverSetsSpec)

/-- 'routinglaw05.CoverRange', WHERE WHAT IT READS IS OF BULK AT MOST 1048576: true; the input reads as it did. -/
def coverRangeUptoRow : OpenClaim := { program := "ytegponbmelgngaa", sum := "a6856e3c47efc3529d13d87a2ed6367c8ea78789f64f33c4d119ff9913cc933b", func := "routing/routinglaw05.CoverRange", spec := "coverRange", unfollowed := true, recurses := true, apart := false, narrowed := true }
def CoverRangeUptoSaid : Prop := coverRangeUptoRow.holds Try.pinned (OpenSpec.upto coverRangeSpec)

/-- 'routinglaw05.CoverMembers', WHERE WHAT IT READS IS OF BULK AT MOST 1048576: true; the input reads as it did. -/
def coverMembersUptoRow : OpenClaim := { program := "ytegponbmelgngaa", sum := "a6856e3c47efc3529d13d87a2ed6367c8ea78789f64f33c4d119ff9913cc933b", func := "routing/routinglaw05.CoverMembers", spec := "coverMembers", unfollowed := true, recurses := true, apart := false, narrowed := true }
def CoverMembersUptoSaid : Prop := coverMembersUptoRow.holds Try.pinned (OpenSpec.upto coverMembersSpec)

/-- 'routinglaw05.CoverCounts', WHERE WHAT IT READS IS OF BULK AT MOST 1048576: true; the input reads as it did. -/
def coverCountsUptoRow : OpenClaim := { program := "ytegponbmelgngaa", sum := "a6856e3c47efc3529d13d87a2ed6367c8ea78789f64f33c4d119ff9913cc933b", func := "routing/routinglaw05.CoverCounts", spec := "coverCounts", unfollowed := true, recurses := true, apart := false, narrowed := true }
def CoverCountsUptoSaid : Prop := coverCountsUptoRow.holds Try.pinned (OpenSpec.upto coverCountsSpec)

/-- 'routinglaw05.CoverSummary', WHERE WHAT IT READS IS OF BULK AT MOST 1048576: true; the input reads as it did. -/
def coverSummaryUptoRow : OpenClaim := { program := "ytegponbmelgngaa", sum := "a6856e3c47efc3529d13d87a2ed6367c8ea78789f64f33c4d119ff9913cc933b", func := "routing/routinglaw05.CoverSummary", spec := "coverSummary", unfollowed := true, recurses := true, apart := false, narrowed := true }
def CoverSummaryUptoSaid : Prop := coverSummaryUptoRow.holds Try.pinned (OpenSpec.upto coverSummarySpec)

/-- 'routingtop.TopRanges', WHERE WHAT IT READS IS OF BULK AT MOST 1048576: true; the input reads as it did. -/
def topRangesUptoRow : OpenClaim := { program := "ytegponbmelgngaa", sum := "a6856e3c47efc3529d13d87a2ed6367c8ea78789f64f33c4d119ff9913cc933b", func := "routing/routingtop.TopRanges", spec := "topRanges", unfollowed := true, recurses := true, apart := false, narrowed := true }
def TopRangesUptoSaid : Prop := topRangesUptoRow.holds Try.pinned (OpenSpec.upto topRangesSpec)

/-- 'routinglaw07.AggregateChecks', WHERE WHAT IT READS IS OF BULK AT MOST 1048576: true; the input reads as it did. -/
def aggregateChecksUptoRow : OpenClaim := { program := "ytegponbmelgngaa", sum := "a6856e3c47efc3529d13d87a2ed6367c8ea78789f64f33c4d119ff9913cc933b", func := "routing/routinglaw07.AggregateChecks", spec := "aggregateChecks", inPlace := ["maps.clone"], unfollowed := true, recurses := true, apart := false, narrowed := true }
def AggregateChecksUptoSaid : Prop := aggregateChecksUptoRow.holds Try.pinned (OpenSpec.upto aggregateChecksSpec)

/-- 'routinglaw07.AggregateDiffers', WHERE WHAT IT READS IS OF BULK AT MOST 1048576: true; the input reads as it did. -/
def aggregateDiffersUptoRow : OpenClaim := { program := "ytegponbmelgngaa", sum := "a6856e3c47efc3529d13d87a2ed6367c8ea78789f64f33c4d119ff9913cc933b", func := "routing/routinglaw07.AggregateDiffers", spec := "aggregateDiffers", inPlace := ["maps.clone"], unfollowed := true, recurses := true, apart := false, narrowed := true }
def AggregateDiffersUptoSaid : Prop := aggregateDiffersUptoRow.holds Try.pinned (OpenSpec.upto aggregateDiffersSpec)

/-- 'routinglaw07.AggregateTrims', WHERE WHAT IT READS IS OF BULK AT MOST 1048576: true; the input reads as it did. -/
def aggregateTrimsUptoRow : OpenClaim := { program := "ytegponbmelgngaa", sum := "a6856e3c47efc3529d13d87a2ed6367c8ea78789f64f33c4d119ff9913cc933b", func := "routing/routinglaw07.AggregateTrims", spec := "aggregateTrims", inPlace := ["maps.clone"], unfollowed := true, recurses := true, apart := false, narrowed := true }
def AggregateTrimsUptoSaid : Prop := aggregateTrimsUptoRow.holds Try.pinned (OpenSpec.upto aggregateTrimsSpec)

/-- 'routinglaw07.AggregateLeast', WHERE WHAT IT READS IS OF BULK AT MOST 1048576: true; the input reads as it did. -/
def aggregateLeastUptoRow : OpenClaim := { program := "ytegponbmelgngaa", sum := "a6856e3c47efc3529d13d87a2ed6367c8ea78789f64f33c4d119ff9913cc933b", func := "routing/routinglaw07.AggregateLeast", spec := "aggregateLeast", inPlace := ["maps.clone"], unfollowed := true, recurses := true, apart := false, narrowed := true }
def AggregateLeastUptoSaid : Prop := aggregateLeastUptoRow.holds Try.pinned (OpenSpec.upto aggregateLeastSpec)

/-- 'routinglaw07.AggregateTrimmed', WHERE WHAT IT READS IS OF BULK AT MOST 1048576: true; the input reads as it did. -/
def aggregateTrimmedUptoRow : OpenClaim := { program := "ytegponbmelgngaa", sum := "a6856e3c47efc3529d13d87a2ed6367c8ea78789f64f33c4d119ff9913cc933b", func := "routing/routinglaw07.AggregateTrimmed", spec := "aggregateTrimmed", inPlace := ["maps.clone"], unfollowed := true, recurses := true, apart := false, narrowed := true }
def AggregateTrimmedUptoSaid : Prop := aggregateTrimmedUptoRow.holds Try.pinned (OpenSpec.upto aggregateTrimmedSpec)

/-- 'routinglaw07.AggregateFirst', WHERE WHAT IT READS IS OF BULK AT MOST 1048576: true; the input reads as it did. -/
def aggregateFirstUptoRow : OpenClaim := { program := "ytegponbmelgngaa", sum := "a6856e3c47efc3529d13d87a2ed6367c8ea78789f64f33c4d119ff9913cc933b", func := "routing/routinglaw07.AggregateFirst", spec := "aggregateFirst", inPlace := ["maps.clone"], unfollowed := true, recurses := true, apart := false, narrowed := true }
def AggregateFirstUptoSaid : Prop := aggregateFirstUptoRow.holds Try.pinned (OpenSpec.upto aggregateFirstSpec)

end Rows
end Go.Proofs.Ytegponbmelgngaa
