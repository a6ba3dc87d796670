/-
  No cell of these rows narrows 'for every input' (looked for: loops, veiled, ifaces, maps, wideKeys, modest, calm, conditions, laid).
  DERIVED. THE GIVEN ROWS OF THIS SEAT. 9 by the template 'for every input the law returns true; each argument reads behind the call as it read before'; 0 by the template 'total and deterministic' (their statements: YtmlpbhankgojpaaTotals.lean).
  GIVEN WITH THE SEED: the statements are not yours to turn. If you find one false, say at which input.
  Laid BY PROGRAM, IN A SANDBOX (cutbox-rows.mjs): the forced cells as the released guide's own fill.sh prints them over the translation 514efb432bee1c6b… (all of the seat's roots in one cut). By AI agents, Wed Nov 11 2026. No macro, syntax, notation, axiom, sorry.
-/
import Derived.Test.YtmlpbhankgojpaaChecked
import GoSem.Claim
import GoSem.ClaimJoined
import GoSem.ClaimMapViews
import Derived.JoinedTies
import Derived.KernelRfl
namespace Go.Proofs.Ytmlpbhankgojpaa
/- THE CELL 'sum', in the pinned program and in every row, IS THE sha256 OF THE DUMP (.gsa) THAT YtmlpbhankgojpaaProg.lean LOADS. Nothing in Lean hashes anything: it is a label: what it is worth is what the hold of that sum in a sandbox is worth. -/
noncomputable def Try.pinned : Pinned := { name := "ytmlpbhankgojpaa", sum := "514efb432bee1c6b53d978547833a7825851d9e52f5fe16d2eb0db55a77460b2", checked := Try.checked }
namespace Rows
def none {H : Type} : Left H := { results := [], args := [] }

/-- 'routinglaw11.SpfRuns': WHATEVER THE INPUT: true; the input reads as it did. -/
def spfRunsSpec : ChangeSpec := { name := "spfRuns", fn := fun _ => fun
  | [d1, d2] => { results := [.lit (.bool true)], args := [d1, d2] }
  | _ => none }
def spfRunsRow : OpenClaim := { program := "ytmlpbhankgojpaa", sum := "514efb432bee1c6b53d978547833a7825851d9e52f5fe16d2eb0db55a77460b2", func := "routing/routinglaw11.SpfRuns", spec := "spfRuns", inPlace := ["slices.overlaps[int]"], unfollowed := true, recurses := true, apart := false }
def SpfRunsSaid : Prop := spfRunsRow.holds Try.pinned (OpenSpec.ofChange spfRunsSpec)

/-- ITS FALSE NEIGHBOUR: 'it returns false'. Refute it at one input. -/
def spfRunsWrong : ChangeSpec := { name := "spfRuns", fn := fun _ => fun
  | [d1, d2] => { results := [.lit (.bool false)], args := [d1, d2] }
  | _ => none }
def SpfRunsWrongFalsely : Prop := spfRunsRow.holds Try.pinned (OpenSpec.ofChange spfRunsWrong)

/-- 'routinglaw11.SpfChecks': WHATEVER THE INPUT: true; the input reads as it did. -/
def spfChecksSpec : ChangeSpec := { name := "spfChecks", fn := fun _ => fun
  | [d1, d2] => { results := [.lit (.bool true)], args := [d1, d2] }
  | _ => none }
def spfChecksRow : OpenClaim := { program := "ytmlpbhankgojpaa", sum := "514efb432bee1c6b53d978547833a7825851d9e52f5fe16d2eb0db55a77460b2", func := "routing/routinglaw11.SpfChecks", spec := "spfChecks", inPlace := ["slices.overlaps[int]"], unfollowed := true, recurses := true, apart := false }
def SpfChecksSaid : Prop := spfChecksRow.holds Try.pinned (OpenSpec.ofChange spfChecksSpec)

/-- ITS FALSE NEIGHBOUR: 'it returns false'. Refute it at one input. -/
def spfChecksWrong : ChangeSpec := { name := "spfChecks", fn := fun _ => fun
  | [d1, d2] => { results := [.lit (.bool false)], args := [d1, d2] }
  | _ => none }
def SpfChecksWrongFalsely : Prop := spfChecksRow.holds Try.pinned (OpenSpec.ofChange spfChecksWrong)

/-- 'routinglaw11.SpfPaths': WHATEVER THE INPUT: true; the input reads as it did. -/
def spfPathsSpec : ChangeSpec := { name := "spfPaths", fn := fun _ => fun
  | [d1, d2, d3] => { results := [.lit (.bool true)], args := [d1, d2, d3] }
  | _ => none }
def spfPathsRow : OpenClaim := { program := "ytmlpbhankgojpaa", sum := "514efb432bee1c6b53d978547833a7825851d9e52f5fe16d2eb0db55a77460b2", func := "routing/routinglaw11.SpfPaths", spec := "spfPaths", inPlace := ["slices.overlaps[int]"], unfollowed := true, recurses := true, apart := false }
def SpfPathsSaid : Prop := spfPathsRow.holds Try.pinned (OpenSpec.ofChange spfPathsSpec)

/-- ITS FALSE NEIGHBOUR: 'it returns false'. Refute it at one input. -/
def spfPathsWrong : ChangeSpec := { name := "spfPaths", fn := fun _ => fun
  | [d1, d2, d3] => { results := [.lit (.bool false)], args := [d1, d2, d3] }
  | _ => none }
def SpfPathsWrongFalsely : Prop := spfPathsRow.holds Try.pinned (OpenSpec.ofChange spfPathsWrong)

/-- 'routinglaw11.SpfAll': WHATEVER THE INPUT: true; the input reads as it did. -/
def spfAllSpec : ChangeSpec := { name := "spfAll", fn := fun _ => fun
  | [d] => { results := [.lit (.bool true)], args := [d] }
  | _ => none }
def spfAllRow : OpenClaim := { program := "ytmlpbhankgojpaa", sum := "514efb432bee1c6b53d978547833a7825851d9e52f5fe16d2eb0db55a77460b2", func := "routing/routinglaw11.SpfAll", spec := "spfAll", inPlace := ["slices.overlaps[int]"], unfollowed := true, recurses := true, apart := false }
def SpfAllSaid : Prop := spfAllRow.holds Try.pinned (OpenSpec.ofChange spfAllSpec)

/-- ITS FALSE NEIGHBOUR: 'it returns false'. Refute it at one input. -/
def spfAllWrong : ChangeSpec := { name := "spfAll", fn := fun _ => fun
  | [d] => { results := [.lit (.bool false)], args := [d] }
  | _ => none }
def SpfAllWrongFalsely : Prop := spfAllRow.holds Try.pinned (OpenSpec.ofChange spfAllWrong)

/-- 'routinglaw11.SpfSame': WHATEVER THE INPUT: true; the input reads as it did. -/
def spfSameSpec : ChangeSpec := { name := "spfSame", fn := fun _ => fun
  | [d1, d2] => { results := [.lit (.bool true)], args := [d1, d2] }
  | _ => none }
def spfSameRow : OpenClaim := { program := "ytmlpbhankgojpaa", sum := "514efb432bee1c6b53d978547833a7825851d9e52f5fe16d2eb0db55a77460b2", func := "routing/routinglaw11.SpfSame", spec := "spfSame", inPlace := ["slices.overlaps[int]"], unfollowed := true, recurses := true, apart := false }
def SpfSameSaid : Prop := spfSameRow.holds Try.pinned (OpenSpec.ofChange spfSameSpec)

/-- ITS FALSE NEIGHBOUR: 'it returns false'. Refute it at one input. -/
def spfSameWrong : ChangeSpec := { name := "spfSame", fn := fun _ => fun
  | [d1, d2] => { results := [.lit (.bool false)], args := [d1, d2] }
  | _ => none }
def SpfSameWrongFalsely : Prop := spfSameRow.holds Try.pinned (OpenSpec.ofChange spfSameWrong)

/-- 'routinglaw11.SpfEdges': WHATEVER THE INPUT: true; the input reads as it did. -/
def spfEdgesSpec : ChangeSpec := { name := "spfEdges", fn := fun _ => fun
  | [d1, d2] => { results := [.lit (.bool true)], args := [d1, d2] }
  | _ => none }
def spfEdgesRow : OpenClaim := { program := "ytmlpbhankgojpaa", sum := "514efb432bee1c6b53d978547833a7825851d9e52f5fe16d2eb0db55a77460b2", func := "routing/routinglaw11.SpfEdges", spec := "spfEdges", inPlace := ["slices.overlaps[int]"], unfollowed := true, recurses := true, apart := false }
def SpfEdgesSaid : Prop := spfEdgesRow.holds Try.pinned (OpenSpec.ofChange spfEdgesSpec)

/-- ITS FALSE NEIGHBOUR: 'it returns false'. Refute it at one input. -/
def spfEdgesWrong : ChangeSpec := { name := "spfEdges", fn := fun _ => fun
  | [d1, d2] => { results := [.lit (.bool false)], args := [d1, d2] }
  | _ => none }
def SpfEdgesWrongFalsely : Prop := spfEdgesRow.holds Try.pinned (OpenSpec.ofChange spfEdgesWrong)

/-- 'routinglaw11.SpfTriangle': WHATEVER THE INPUT: true; the input reads as it did. -/
def spfTriangleSpec : ChangeSpec := { name := "spfTriangle", fn := fun _ => fun
  | [d] => { results := [.lit (.bool true)], args := [d] }
  | _ => none }
def spfTriangleRow : OpenClaim := { program := "ytmlpbhankgojpaa", sum := "514efb432bee1c6b53d978547833a7825851d9e52f5fe16d2eb0db55a77460b2", func := "routing/routinglaw11.SpfTriangle", spec := "spfTriangle", inPlace := ["slices.overlaps[int]"], unfollowed := true, recurses := true, apart := false }
def SpfTriangleSaid : Prop := spfTriangleRow.holds Try.pinned (OpenSpec.ofChange spfTriangleSpec)

/-- ITS FALSE NEIGHBOUR: 'it returns false'. Refute it at one input. -/
def spfTriangleWrong : ChangeSpec := { name := "spfTriangle", fn := fun _ => fun
  | [d] => { results := [.lit (.bool false)], args := [d] }
  | _ => none }
def SpfTriangleWrongFalsely : Prop := spfTriangleRow.holds Try.pinned (OpenSpec.ofChange spfTriangleWrong)

/-- 'routinglaw11.SpfWalks': WHATEVER THE INPUT: true; the input reads as it did. -/
def spfWalksSpec : ChangeSpec := { name := "spfWalks", fn := fun _ => fun
  | [d1, d2, d3] => { results := [.lit (.bool true)], args := [d1, d2, d3] }
  | _ => none }
def spfWalksRow : OpenClaim := { program := "ytmlpbhankgojpaa", sum := "514efb432bee1c6b53d978547833a7825851d9e52f5fe16d2eb0db55a77460b2", func := "routing/routinglaw11.SpfWalks", spec := "spfWalks", inPlace := ["slices.overlaps[int]"], unfollowed := true, recurses := true, apart := false }
def SpfWalksSaid : Prop := spfWalksRow.holds Try.pinned (OpenSpec.ofChange spfWalksSpec)

/-- ITS FALSE NEIGHBOUR: 'it returns false'. Refute it at one input. -/
def spfWalksWrong : ChangeSpec := { name := "spfWalks", fn := fun _ => fun
  | [d1, d2, d3] => { results := [.lit (.bool false)], args := [d1, d2, d3] }
  | _ => none }
def SpfWalksWrongFalsely : Prop := spfWalksRow.holds Try.pinned (OpenSpec.ofChange spfWalksWrong)

/-- 'routinglaw11.SpfSmaller': WHATEVER THE INPUT: true; the input reads as it did. -/
def spfSmallerSpec : ChangeSpec := { name := "spfSmaller", fn := fun _ => fun
  | [d1, d2, d3] => { results := [.lit (.bool true)], args := [d1, d2, d3] }
  | _ => none }
def spfSmallerRow : OpenClaim := { program := "ytmlpbhankgojpaa", sum := "514efb432bee1c6b53d978547833a7825851d9e52f5fe16d2eb0db55a77460b2", func := "routing/routinglaw11.SpfSmaller", spec := "spfSmaller", inPlace := ["slices.overlaps[int]"], unfollowed := true, recurses := true, apart := false }
def SpfSmallerSaid : Prop := spfSmallerRow.holds Try.pinned (OpenSpec.ofChange spfSmallerSpec)

/-- ITS FALSE NEIGHBOUR: 'it returns false'. Refute it at one input. -/
def spfSmallerWrong : ChangeSpec := { name := "spfSmaller", fn := fun _ => fun
  | [d1, d2, d3] => { results := [.lit (.bool false)], args := [d1, d2, d3] }
  | _ => none }
def SpfSmallerWrongFalsely : Prop := spfSmallerRow.holds Try.pinned (OpenSpec.ofChange spfSmallerWrong)

/- THE SECOND FORM. 'bulk': how many values and letters a reading holds, each counted each time it is reached (what is shared counts as often as it is met; a slice's spare places count too). A statement '..UptoSaid' is the law's where the arguments, and the package variables that the reading takes, are together of bulk at most 1048576: NARROWER than '..Said'. Prove '..Said' where nothing that the law and all that it calls make is longer than what came in: it says more and counts as full. Else prove '..UptoSaid'. A law counts once. -/
mutual
def uptoBulk {H : Type} : DataW H → Nat
  | .lit (.string bytes) => bytes.length + 1
  | .lit _ => 1
  | .nil => 1
  | .ptr d => uptoBulk d + 1
  | .slice elems spare => uptoBulkAll elems + uptoBulkAll spare + 1
  | .agg parts => uptoBulkAll parts + 1
  | .iface _ d => uptoBulk d + 1
  | .map entries => uptoBulkEntries entries + 1
  | .held _ => 1
def uptoBulkAll {H : Type} : List (DataW H) → Nat
  | [] => 0
  | d :: r => uptoBulk d + uptoBulkAll r
def uptoBulkEntries {H : Type} : List (Lit × DataW H) → Nat
  | [] => 0
  | x :: r => uptoBulkEntry x + uptoBulkEntries r
def uptoBulkEntry {H : Type} : Lit × DataW H → Nat
  | (.string bytes, d) => bytes.length + uptoBulk d + 1
  | (_, d) => uptoBulk d + 1
 end
def uptoSmall : (H : Type) → List (DataW H) → Bool := fun _ ds => decide (uptoBulkAll ds ≤ 1048576)
def OpenSpec.upto (s : _root_.Go.ChangeSpec) : _root_.Go.OpenSpec := { _root_.Go.OpenSpec.ofChange s with cond := some uptoSmall }

/-- 'routinglaw11.SpfRuns', WHERE WHAT IT READS IS OF BULK AT MOST 1048576: true; the input reads as it did. -/
def spfRunsUptoRow : OpenClaim := { program := "ytmlpbhankgojpaa", sum := "514efb432bee1c6b53d978547833a7825851d9e52f5fe16d2eb0db55a77460b2", func := "routing/routinglaw11.SpfRuns", spec := "spfRuns", inPlace := ["slices.overlaps[int]"], unfollowed := true, recurses := true, apart := false, narrowed := true }
def SpfRunsUptoSaid : Prop := spfRunsUptoRow.holds Try.pinned (OpenSpec.upto spfRunsSpec)

/-- 'routinglaw11.SpfChecks', WHERE WHAT IT READS IS OF BULK AT MOST 1048576: true; the input reads as it did. -/
def spfChecksUptoRow : OpenClaim := { program := "ytmlpbhankgojpaa", sum := "514efb432bee1c6b53d978547833a7825851d9e52f5fe16d2eb0db55a77460b2", func := "routing/routinglaw11.SpfChecks", spec := "spfChecks", inPlace := ["slices.overlaps[int]"], unfollowed := true, recurses := true, apart := false, narrowed := true }
def SpfChecksUptoSaid : Prop := spfChecksUptoRow.holds Try.pinned (OpenSpec.upto spfChecksSpec)

/-- 'routinglaw11.SpfPaths', WHERE WHAT IT READS IS OF BULK AT MOST 1048576: true; the input reads as it did. -/
def spfPathsUptoRow : OpenClaim := { program := "ytmlpbhankgojpaa", sum := "514efb432bee1c6b53d978547833a7825851d9e52f5fe16d2eb0db55a77460b2", func := "routing/routinglaw11.SpfPaths", spec := "spfPaths", inPlace := ["slices.overlaps[int]"], unfollowed := true, recurses := true, apart := false, narrowed := true }
def SpfPathsUptoSaid : Prop := spfPathsUptoRow.holds Try.pinned (OpenSpec.upto spfPathsSpec)

/-- 'routinglaw11.SpfAll', WHERE WHAT IT READS IS OF BULK AT MOST 1048576: true; the input reads as it did. -/
def spfAllUptoRow : OpenClaim := { program := "ytmlpbhankgojpaa", sum := "514efb432bee1c6b53d978547833a7825851d9e52f5fe16d2eb0db55a77460b2", func := "routing/routinglaw11.SpfAll", spec := "spfAll", inPlace := ["slices.overlaps[int]"], unfollowed := true, recurses := true, apart := false, narrowed := true }
def SpfAllUptoSaid : Prop := spfAllUptoRow.holds Try.pinned (OpenSpec.upto spfAllSpec)

/-- 'routinglaw11.SpfSame', WHERE WHAT IT READS IS OF BULK AT MOST 1048576: true; the input reads as it did. -/
def spfSameUptoRow : OpenClaim := { program := "ytmlpbhankgojpaa", sum := "514efb432bee1c6b53d978547833a7825851d9e52f5fe16d2eb0db55a77460b2", func := "routing/routinglaw11.SpfSame", spec := "spfSame", inPlace := ["slices.overlaps[int]"], unfollowed := true, recurses := true, apart := false, narrowed := true }
def SpfSameUptoSaid : Prop := spfSameUptoRow.holds Try.pinned (OpenSpec.upto spfSameSpec)

/-- 'routinglaw11.SpfEdges', WHERE WHAT IT READS IS OF BULK AT MOST 1048576: true; the input reads as it did. -/
def spfEdgesUptoRow : OpenClaim := { program := "ytmlpbhankgojpaa", sum := "514efb432bee1c6b53d978547833a7825851d9e52f5fe16d2eb0db55a77460b2", func := "routing/routinglaw11.SpfEdges", spec := "spfEdges", inPlace := ["slices.overlaps[int]"], unfollowed := true, recurses := true, apart := false, narrowed := true }
def SpfEdgesUptoSaid : Prop := spfEdgesUptoRow.holds Try.pinned (OpenSpec.upto spfEdgesSpec)

/-- 'routinglaw11.SpfTriangle', WHERE WHAT IT READS IS OF BULK AT MOST 1048576: true; the input reads as it did. -/
def spfTriangleUptoRow : OpenClaim := { program := "ytmlpbhankgojpaa", sum := "514efb432bee1c6b53d978547833a7825851d9e52f5fe16d2eb0db55a77460b2", func := "routing/routinglaw11.SpfTriangle", spec := "spfTriangle", inPlace := ["slices.overlaps[int]"], unfollowed := true, recurses := true, apart := false, narrowed := true }
def SpfTriangleUptoSaid : Prop := spfTriangleUptoRow.holds Try.pinned (OpenSpec.upto spfTriangleSpec)

/-- 'routinglaw11.SpfWalks', WHERE WHAT IT READS IS OF BULK AT MOST 1048576: true; the input reads as it did. -/
def spfWalksUptoRow : OpenClaim := { program := "ytmlpbhankgojpaa", sum := "514efb432bee1c6b53d978547833a7825851d9e52f5fe16d2eb0db55a77460b2", func := "routing/routinglaw11.SpfWalks", spec := "spfWalks", inPlace := ["slices.overlaps[int]"], unfollowed := true, recurses := true, apart := false, narrowed := true }
def SpfWalksUptoSaid : Prop := spfWalksUptoRow.holds Try.pinned (OpenSpec.upto spfWalksSpec)

/-- 'routinglaw11.SpfSmaller', WHERE WHAT IT READS IS OF BULK AT MOST 1048576: true; the input reads as it did. -/
def spfSmallerUptoRow : OpenClaim := { program := "ytmlpbhankgojpaa", sum := "514efb432bee1c6b53d978547833a7825851d9e52f5fe16d2eb0db55a77460b2", func := "routing/routinglaw11.SpfSmaller", spec := "spfSmaller", inPlace := ["slices.overlaps[int]"], unfollowed := true, recurses := true, apart := false, narrowed := true }
def SpfSmallerUptoSaid : Prop := spfSmallerUptoRow.holds Try.pinned (OpenSpec.upto spfSmallerSpec)

end Rows
end Go.Proofs.Ytmlpbhankgojpaa
