/-
  NARROWER THAN 'FOR EVERY INPUT', by the rows' own cells (each row's printed sentence says how): CommunityCheck: laid · CommunityBack: laid · CommunityParse: laid · CommunityChange: laid · CommunityPermits: laid · CommunitySets: laid.
  DERIVED. THE GIVEN ROWS OF THIS SEAT. 6 by the template 'for every input the law returns true; each argument reads behind the call as it read before'; 0 by the template 'total and deterministic' (their statements: YtaniiennfogjaaaDoorTotals.lean).
  GIVEN WITH THE SEED: the statements are not yours to turn. If you find one false, say at which input.
  Laid BY PROGRAM, IN A SANDBOX (cutbox-rows.mjs): the forced cells as the released guide's own fill.sh prints them over the translation f87d224cd918c7dc… (all of the seat's roots in one cut). By AI agents, Wed Nov 11 2026. No macro, syntax, notation, axiom, sorry.
-/
import Derived.Test.YtaniiennfogjaaaDoorChecked
import GoSem.Claim
import GoSem.ClaimJoined
import GoSem.ClaimMapViews
import Derived.JoinedTies
import Derived.KernelRfl
namespace Go.Proofs.YtaniiennfogjaaaDoor
/- THE CELL 'sum', in the pinned program and in every row, IS THE sha256 OF THE DUMP (.gsa) THAT YtaniiennfogjaaaDoorProg.lean LOADS. Nothing in Lean hashes anything: it is a label: what it is worth is what the hold of that sum in a sandbox is worth. -/
noncomputable def Tryd.pinned : Pinned := { name := "ytaniiennfogjaaadoor", sum := "f87d224cd918c7dc217cb09aa074b3290c8eb647d77bfa27ca27d4a56bc631d0", checked := Tryd.checked }
namespace Rows
def none {H : Type} : Left H := { results := [], args := [] }

/- WHAT THE LISTED PACKAGE-LEVEL VARIABLES READ AS WHEN THE CALL BEGINS. Each datum BY PROGRAM (the guide's laid-datum.mjs) off the statement by which the dump's own 'gosem.cut.vars' lays the variable. In a bare row this is a premise. The card (YtaniiennfogjaaaDoorCards.lean) ties it to the program's text. -/
def laid_math_bits_deBruijn32tab {H : Type} : DataW H := .agg [.lit (.int .u8 0), .lit (.int .u8 1), .lit (.int .u8 28), .lit (.int .u8 2), .lit (.int .u8 29), .lit (.int .u8 14), .lit (.int .u8 24), .lit (.int .u8 3), .lit (.int .u8 30), .lit (.int .u8 22), .lit (.int .u8 20), .lit (.int .u8 15), .lit (.int .u8 25), .lit (.int .u8 17), .lit (.int .u8 4), .lit (.int .u8 8), .lit (.int .u8 31), .lit (.int .u8 27), .lit (.int .u8 13), .lit (.int .u8 23), .lit (.int .u8 21), .lit (.int .u8 19), .lit (.int .u8 16), .lit (.int .u8 7), .lit (.int .u8 26), .lit (.int .u8 12), .lit (.int .u8 18), .lit (.int .u8 6), .lit (.int .u8 11), .lit (.int .u8 5), .lit (.int .u8 10), .lit (.int .u8 9)]
def laid_math_bits_deBruijn64tab {H : Type} : DataW H := .agg [.lit (.int .u8 0), .lit (.int .u8 1), .lit (.int .u8 56), .lit (.int .u8 2), .lit (.int .u8 57), .lit (.int .u8 49), .lit (.int .u8 28), .lit (.int .u8 3), .lit (.int .u8 61), .lit (.int .u8 58), .lit (.int .u8 42), .lit (.int .u8 50), .lit (.int .u8 38), .lit (.int .u8 29), .lit (.int .u8 17), .lit (.int .u8 4), .lit (.int .u8 62), .lit (.int .u8 47), .lit (.int .u8 59), .lit (.int .u8 36), .lit (.int .u8 45), .lit (.int .u8 43), .lit (.int .u8 51), .lit (.int .u8 22), .lit (.int .u8 53), .lit (.int .u8 39), .lit (.int .u8 33), .lit (.int .u8 30), .lit (.int .u8 24), .lit (.int .u8 18), .lit (.int .u8 12), .lit (.int .u8 5), .lit (.int .u8 63), .lit (.int .u8 55), .lit (.int .u8 48), .lit (.int .u8 27), .lit (.int .u8 60), .lit (.int .u8 41), .lit (.int .u8 37), .lit (.int .u8 16), .lit (.int .u8 46), .lit (.int .u8 35), .lit (.int .u8 44), .lit (.int .u8 21), .lit (.int .u8 52), .lit (.int .u8 32), .lit (.int .u8 23), .lit (.int .u8 11), .lit (.int .u8 54), .lit (.int .u8 26), .lit (.int .u8 40), .lit (.int .u8 15), .lit (.int .u8 34), .lit (.int .u8 20), .lit (.int .u8 31), .lit (.int .u8 10), .lit (.int .u8 25), .lit (.int .u8 14), .lit (.int .u8 19), .lit (.int .u8 9), .lit (.int .u8 13), .lit (.int .u8 8), .lit (.int .u8 7), .lit (.int .u8 6)]
def laid_internal_strconv_uint64pow10 {H : Type} : DataW H := .agg [.lit (.int .u64 1), .lit (.int .u64 10), .lit (.int .u64 100), .lit (.int .u64 1000), .lit (.int .u64 10000), .lit (.int .u64 100000), .lit (.int .u64 1000000), .lit (.int .u64 10000000), .lit (.int .u64 100000000), .lit (.int .u64 1000000000), .lit (.int .u64 10000000000), .lit (.int .u64 100000000000), .lit (.int .u64 1000000000000), .lit (.int .u64 10000000000000), .lit (.int .u64 100000000000000), .lit (.int .u64 1000000000000000), .lit (.int .u64 10000000000000000), .lit (.int .u64 100000000000000000), .lit (.int .u64 1000000000000000000), .lit (.int .u64 10000000000000000000)]
def laid_routing_community_wellKnown {H : Type} : DataW H := .agg [.lit (.int .u32 4294901760), .lit (.int .u32 4294967041), .lit (.int .u32 4294967042), .lit (.int .u32 4294967043)]
def laid_routing_community_names {H : Type} : DataW H := .agg [.lit (.string [103, 114, 97, 99, 101, 102, 117, 108, 45, 115, 104, 117, 116, 100, 111, 119, 110]), .lit (.string [110, 111, 45, 101, 120, 112, 111, 114, 116]), .lit (.string [110, 111, 45, 97, 100, 118, 101, 114, 116, 105, 115, 101]), .lit (.string [110, 111, 45, 101, 120, 112, 111, 114, 116, 45, 99, 111, 110, 102, 101, 100])]

/-- 'routinglaw18.CommunityCheck': WHATEVER THE INPUT: true; the input reads as it did. -/
def communityCheckSpec : ChangeSpec := { name := "communityCheck", fn := fun _ => fun
  | [d] => { results := [.lit (.bool true)], args := [d] }
  | _ => none }
def communityCheckRow : OpenClaim := { program := "ytaniiennfogjaaadoor", sum := "f87d224cd918c7dc217cb09aa074b3290c8eb647d77bfa27ca27d4a56bc631d0", func := "routing/routinglaw18.CommunityCheck", spec := "communityCheck", inPlace := ["internal/bytealg.IndexByteString", "internal/bytealg.IndexString"], unfollowed := true, recurses := true, named := ["routing/community.names", "routing/community.wellKnown", "internal/bytealg.MaxLen", "internal/strconv.uint64pow10", "math/bits.deBruijn32tab", "math/bits.deBruijn64tab"], apart := false, laid := [("math/bits.deBruijn32tab", laid_math_bits_deBruijn32tab), ("math/bits.deBruijn64tab", laid_math_bits_deBruijn64tab), ("internal/strconv.uint64pow10", laid_internal_strconv_uint64pow10), ("routing/community.wellKnown", laid_routing_community_wellKnown), ("routing/community.names", laid_routing_community_names)] }
def CommunityCheckSaid : Prop := communityCheckRow.holds Tryd.pinned (OpenSpec.ofChange communityCheckSpec)

/-- ITS FALSE NEIGHBOUR: 'it returns false'. Refute it at one input. -/
def communityCheckWrong : ChangeSpec := { name := "communityCheck", fn := fun _ => fun
  | [d] => { results := [.lit (.bool false)], args := [d] }
  | _ => none }
def CommunityCheckWrongFalsely : Prop := communityCheckRow.holds Tryd.pinned (OpenSpec.ofChange communityCheckWrong)

/-- 'routinglaw18.CommunityBack': WHATEVER THE INPUT: true; the input reads as it did. -/
def communityBackSpec : ChangeSpec := { name := "communityBack", fn := fun _ => fun
  | [d] => { results := [.lit (.bool true)], args := [d] }
  | _ => none }
def communityBackRow : OpenClaim := { program := "ytaniiennfogjaaadoor", sum := "f87d224cd918c7dc217cb09aa074b3290c8eb647d77bfa27ca27d4a56bc631d0", func := "routing/routinglaw18.CommunityBack", spec := "communityBack", inPlace := ["internal/bytealg.IndexByteString", "internal/bytealg.IndexString"], unfollowed := true, recurses := true, named := ["routing/community.wellKnown", "routing/community.names", "internal/strconv.uint64pow10", "math/bits.deBruijn32tab", "math/bits.deBruijn64tab", "internal/bytealg.MaxLen"], apart := false, laid := [("math/bits.deBruijn32tab", laid_math_bits_deBruijn32tab), ("math/bits.deBruijn64tab", laid_math_bits_deBruijn64tab), ("internal/strconv.uint64pow10", laid_internal_strconv_uint64pow10), ("routing/community.wellKnown", laid_routing_community_wellKnown), ("routing/community.names", laid_routing_community_names)] }
def CommunityBackSaid : Prop := communityBackRow.holds Tryd.pinned (OpenSpec.ofChange communityBackSpec)

/-- ITS FALSE NEIGHBOUR: 'it returns false'. Refute it at one input. -/
def communityBackWrong : ChangeSpec := { name := "communityBack", fn := fun _ => fun
  | [d] => { results := [.lit (.bool false)], args := [d] }
  | _ => none }
def CommunityBackWrongFalsely : Prop := communityBackRow.holds Tryd.pinned (OpenSpec.ofChange communityBackWrong)

/-- 'routinglaw18.CommunityParse': WHATEVER THE INPUT: true; the input reads as it did. -/
def communityParseSpec : ChangeSpec := { name := "communityParse", fn := fun _ => fun
  | [d] => { results := [.lit (.bool true)], args := [d] }
  | _ => none }
def communityParseRow : OpenClaim := { program := "ytaniiennfogjaaadoor", sum := "f87d224cd918c7dc217cb09aa074b3290c8eb647d77bfa27ca27d4a56bc631d0", func := "routing/routinglaw18.CommunityParse", spec := "communityParse", inPlace := ["internal/bytealg.IndexByteString", "internal/bytealg.IndexString"], unfollowed := true, recurses := true, named := ["routing/community.names", "routing/community.wellKnown", "internal/bytealg.MaxLen", "internal/strconv.uint64pow10", "math/bits.deBruijn32tab", "math/bits.deBruijn64tab"], apart := false, laid := [("math/bits.deBruijn32tab", laid_math_bits_deBruijn32tab), ("math/bits.deBruijn64tab", laid_math_bits_deBruijn64tab), ("internal/strconv.uint64pow10", laid_internal_strconv_uint64pow10), ("routing/community.wellKnown", laid_routing_community_wellKnown), ("routing/community.names", laid_routing_community_names)] }
def CommunityParseSaid : Prop := communityParseRow.holds Tryd.pinned (OpenSpec.ofChange communityParseSpec)

/-- ITS FALSE NEIGHBOUR: 'it returns false'. Refute it at one input. -/
def communityParseWrong : ChangeSpec := { name := "communityParse", fn := fun _ => fun
  | [d] => { results := [.lit (.bool false)], args := [d] }
  | _ => none }
def CommunityParseWrongFalsely : Prop := communityParseRow.holds Tryd.pinned (OpenSpec.ofChange communityParseWrong)

/-- 'routinglaw18.CommunityChange': WHATEVER THE INPUT: true; the input reads as it did. -/
def communityChangeSpec : ChangeSpec := { name := "communityChange", fn := fun _ => fun
  | [d1, d2, d3] => { results := [.lit (.bool true)], args := [d1, d2, d3] }
  | _ => none }
def communityChangeRow : OpenClaim := { program := "ytaniiennfogjaaadoor", sum := "f87d224cd918c7dc217cb09aa074b3290c8eb647d77bfa27ca27d4a56bc631d0", func := "routing/routinglaw18.CommunityChange", spec := "communityChange", inPlace := ["internal/bytealg.IndexByteString", "internal/bytealg.IndexString"], unfollowed := true, recurses := true, named := ["routing/community.names", "routing/community.wellKnown", "internal/bytealg.MaxLen", "internal/strconv.uint64pow10", "math/bits.deBruijn32tab", "math/bits.deBruijn64tab"], apart := false, laid := [("math/bits.deBruijn32tab", laid_math_bits_deBruijn32tab), ("math/bits.deBruijn64tab", laid_math_bits_deBruijn64tab), ("internal/strconv.uint64pow10", laid_internal_strconv_uint64pow10), ("routing/community.wellKnown", laid_routing_community_wellKnown), ("routing/community.names", laid_routing_community_names)] }
def CommunityChangeSaid : Prop := communityChangeRow.holds Tryd.pinned (OpenSpec.ofChange communityChangeSpec)

/-- ITS FALSE NEIGHBOUR: 'it returns false'. Refute it at one input. -/
def communityChangeWrong : ChangeSpec := { name := "communityChange", fn := fun _ => fun
  | [d1, d2, d3] => { results := [.lit (.bool false)], args := [d1, d2, d3] }
  | _ => none }
def CommunityChangeWrongFalsely : Prop := communityChangeRow.holds Tryd.pinned (OpenSpec.ofChange communityChangeWrong)

/-- 'routinglaw18.CommunityPermits': WHATEVER THE INPUT: true; the input reads as it did. -/
def communityPermitsSpec : ChangeSpec := { name := "communityPermits", fn := fun _ => fun
  | [d1, d2] => { results := [.lit (.bool true)], args := [d1, d2] }
  | _ => none }
def communityPermitsRow : OpenClaim := { program := "ytaniiennfogjaaadoor", sum := "f87d224cd918c7dc217cb09aa074b3290c8eb647d77bfa27ca27d4a56bc631d0", func := "routing/routinglaw18.CommunityPermits", spec := "communityPermits", inPlace := ["internal/bytealg.IndexByteString", "internal/bytealg.IndexString"], unfollowed := true, recurses := true, named := ["routing/community.names", "routing/community.wellKnown", "internal/bytealg.MaxLen", "internal/strconv.uint64pow10", "math/bits.deBruijn32tab", "math/bits.deBruijn64tab"], apart := false, laid := [("math/bits.deBruijn32tab", laid_math_bits_deBruijn32tab), ("math/bits.deBruijn64tab", laid_math_bits_deBruijn64tab), ("internal/strconv.uint64pow10", laid_internal_strconv_uint64pow10), ("routing/community.wellKnown", laid_routing_community_wellKnown), ("routing/community.names", laid_routing_community_names)] }
def CommunityPermitsSaid : Prop := communityPermitsRow.holds Tryd.pinned (OpenSpec.ofChange communityPermitsSpec)

/-- ITS FALSE NEIGHBOUR: 'it returns false'. Refute it at one input. -/
def communityPermitsWrong : ChangeSpec := { name := "communityPermits", fn := fun _ => fun
  | [d1, d2] => { results := [.lit (.bool false)], args := [d1, d2] }
  | _ => none }
def CommunityPermitsWrongFalsely : Prop := communityPermitsRow.holds Tryd.pinned (OpenSpec.ofChange communityPermitsWrong)

/-- 'routinglaw18.CommunitySets': WHATEVER THE INPUT: true; the input reads as it did. -/
def communitySetsSpec : ChangeSpec := { name := "communitySets", fn := fun _ => fun
  | [d1, d2, d3] => { results := [.lit (.bool true)], args := [d1, d2, d3] }
  | _ => none }
def communitySetsRow : OpenClaim := { program := "ytaniiennfogjaaadoor", sum := "f87d224cd918c7dc217cb09aa074b3290c8eb647d77bfa27ca27d4a56bc631d0", func := "routing/routinglaw18.CommunitySets", spec := "communitySets", inPlace := ["internal/bytealg.IndexByteString", "internal/bytealg.IndexString"], unfollowed := true, recurses := true, named := ["routing/community.names", "routing/community.wellKnown", "internal/bytealg.MaxLen", "internal/strconv.uint64pow10", "math/bits.deBruijn32tab", "math/bits.deBruijn64tab"], apart := false, laid := [("math/bits.deBruijn32tab", laid_math_bits_deBruijn32tab), ("math/bits.deBruijn64tab", laid_math_bits_deBruijn64tab), ("internal/strconv.uint64pow10", laid_internal_strconv_uint64pow10), ("routing/community.wellKnown", laid_routing_community_wellKnown), ("routing/community.names", laid_routing_community_names)] }
def CommunitySetsSaid : Prop := communitySetsRow.holds Tryd.pinned (OpenSpec.ofChange communitySetsSpec)

/-- ITS FALSE NEIGHBOUR: 'it returns false'. Refute it at one input. -/
def communitySetsWrong : ChangeSpec := { name := "communitySets", fn := fun _ => fun
  | [d1, d2, d3] => { results := [.lit (.bool false)], args := [d1, d2, d3] }
  | _ => none }
def CommunitySetsWrongFalsely : Prop := communitySetsRow.holds Tryd.pinned (OpenSpec.ofChange communitySetsWrong)

/- THE SECOND FORM. 'bulk': how many values and letters a reading holds, each counted each time it is reached (what is shared counts as often as it is met; a slice's spare places count too). A statement '..UptoSaid' is the law's where the arguments, and the package variables that the reading takes, are together of bulk at most 1048576: NARROWER than '..Said'. Prove '..Said' where nothing that the law and all that it calls make is longer than what came in: it says more and counts as full. Else prove '..UptoSaid'. A law counts once. -/
mutual
def uptoBulk {H : Type} : DataW H → Nat
  | .lit (.string bytes) => bytes.length + 1
  | .lit _ => 1
  | .nil => 1
  | .ptr d => uptoBulk d + 1
  | .slice elems spare => uptoBulkAll elems + uptoBulkAll spare + 1
  | .agg parts => uptoBulkAll parts + 1
  | .iface _ d => uptoBulk d + 1
  | .map entries => uptoBulkEntries entries + 1
  | .held _ => 1
def uptoBulkAll {H : Type} : List (DataW H) → Nat
  | [] => 0
  | d :: r => uptoBulk d + uptoBulkAll r
def uptoBulkEntries {H : Type} : List (Lit × DataW H) → Nat
  | [] => 0
  | x :: r => uptoBulkEntry x + uptoBulkEntries r
def uptoBulkEntry {H : Type} : Lit × DataW H → Nat
  | (.string bytes, d) => bytes.length + uptoBulk d + 1
  | (_, d) => uptoBulk d + 1
 end
def uptoSmall : (H : Type) → List (DataW H) → Bool := fun _ ds => decide (uptoBulkAll ds ≤ 1048576)
def OpenSpec.upto (s : _root_.Go.ChangeSpec) : _root_.Go.OpenSpec := { _root_.Go.OpenSpec.ofChange s with cond := some uptoSmall }

/-- 'routinglaw18.CommunityCheck', WHERE WHAT IT READS IS OF BULK AT MOST 1048576: true; the input reads as it did. -/
def communityCheckUptoRow : OpenClaim := { program := "ytaniiennfogjaaadoor", sum := "f87d224cd918c7dc217cb09aa074b3290c8eb647d77bfa27ca27d4a56bc631d0", func := "routing/routinglaw18.CommunityCheck", spec := "communityCheck", inPlace := ["internal/bytealg.IndexByteString", "internal/bytealg.IndexString"], unfollowed := true, recurses := true, named := ["routing/community.names", "routing/community.wellKnown", "internal/bytealg.MaxLen", "internal/strconv.uint64pow10", "math/bits.deBruijn32tab", "math/bits.deBruijn64tab"], apart := false, laid := [("math/bits.deBruijn32tab", laid_math_bits_deBruijn32tab), ("math/bits.deBruijn64tab", laid_math_bits_deBruijn64tab), ("internal/strconv.uint64pow10", laid_internal_strconv_uint64pow10), ("routing/community.wellKnown", laid_routing_community_wellKnown), ("routing/community.names", laid_routing_community_names)], narrowed := true }
def CommunityCheckUptoSaid : Prop := communityCheckUptoRow.holds Tryd.pinned (OpenSpec.upto communityCheckSpec)

/-- 'routinglaw18.CommunityBack', WHERE WHAT IT READS IS OF BULK AT MOST 1048576: true; the input reads as it did. -/
def communityBackUptoRow : OpenClaim := { program := "ytaniiennfogjaaadoor", sum := "f87d224cd918c7dc217cb09aa074b3290c8eb647d77bfa27ca27d4a56bc631d0", func := "routing/routinglaw18.CommunityBack", spec := "communityBack", inPlace := ["internal/bytealg.IndexByteString", "internal/bytealg.IndexString"], unfollowed := true, recurses := true, named := ["routing/community.wellKnown", "routing/community.names", "internal/strconv.uint64pow10", "math/bits.deBruijn32tab", "math/bits.deBruijn64tab", "internal/bytealg.MaxLen"], apart := false, laid := [("math/bits.deBruijn32tab", laid_math_bits_deBruijn32tab), ("math/bits.deBruijn64tab", laid_math_bits_deBruijn64tab), ("internal/strconv.uint64pow10", laid_internal_strconv_uint64pow10), ("routing/community.wellKnown", laid_routing_community_wellKnown), ("routing/community.names", laid_routing_community_names)], narrowed := true }
def CommunityBackUptoSaid : Prop := communityBackUptoRow.holds Tryd.pinned (OpenSpec.upto communityBackSpec)

/-- 'routinglaw18.CommunityParse', WHERE WHAT IT READS IS OF BULK AT MOST 1048576: true; the input reads as it did. -/
def communityParseUptoRow : OpenClaim := { program := "ytaniiennfogjaaadoor", sum := "f87d224cd918c7dc217cb09aa074b3290c8eb647d77bfa27ca27d4a56bc631d0", func := "routing/routinglaw18.CommunityParse", spec := "communityParse", inPlace := ["internal/bytealg.IndexByteString", "internal/bytealg.IndexString"], unfollowed := true, recurses := true, named := ["routing/community.names", "routing/community.wellKnown", "internal/bytealg.MaxLen", "internal/strconv.uint64pow10", "math/bits.deBruijn32tab", "math/bits.deBruijn64tab"], apart := false, laid := [("math/bits.deBruijn32tab", laid_math_bits_deBruijn32tab), ("math/bits.deBruijn64tab", laid_math_bits_deBruijn64tab), ("internal/strconv.uint64pow10", laid_internal_strconv_uint64pow10), ("routing/community.wellKnown", laid_routing_community_wellKnown), ("routing/community.names", laid_routing_community_names)], narrowed := true }
def CommunityParseUptoSaid : Prop := communityParseUptoRow.holds Tryd.pinned (OpenSpec.upto communityParseSpec)

/-- 'routinglaw18.CommunityChange', WHERE WHAT IT READS IS OF BULK AT MOST 1048576: true; the input reads as it did. -/
def communityChangeUptoRow : OpenClaim := { program := "ytaniiennfogjaaadoor", sum := "f87d224cd918c7dc217cb09aa074b3290c8eb647d77bfa27ca27d4a56bc631d0", func := "routing/routinglaw18.CommunityChange", spec := "communityChange", inPlace := ["internal/bytealg.IndexByteString", "internal/bytealg.IndexString"], unfollowed := true, recurses := true, named := ["routing/community.names", "routing/community.wellKnown", "internal/bytealg.MaxLen", "internal/strconv.uint64pow10", "math/bits.deBruijn32tab", "math/bits.deBruijn64tab"], apart := false, laid := [("math/bits.deBruijn32tab", laid_math_bits_deBruijn32tab), ("math/bits.deBruijn64tab", laid_math_bits_deBruijn64tab), ("internal/strconv.uint64pow10", laid_internal_strconv_uint64pow10), ("routing/community.wellKnown", laid_routing_community_wellKnown), ("routing/community.names", laid_routing_community_names)], narrowed := true }
def CommunityChangeUptoSaid : Prop := communityChangeUptoRow.holds Tryd.pinned (OpenSpec.upto communityChangeSpec)

/-- 'routinglaw18.CommunityPermits', WHERE WHAT IT READS IS OF BULK AT MOST 1048576: true; the input reads as it did. -/
def communityPermitsUptoRow : OpenClaim := { program := "ytaniiennfogjaaadoor", sum := "f87d224cd918c7dc217cb09aa074b3290c8eb647d77bfa27ca27d4a56bc631d0", func := "routing/routinglaw18.CommunityPermits", spec := "communityPermits", inPlace := ["internal/bytealg.IndexByteString", "internal/bytealg.IndexString"], unfollowed := true, recurses := true, named := ["routing/community.names", "routing/community.wellKnown", "internal/bytealg.MaxLen", "internal/strconv.uint64pow10", "math/bits.deBruijn32tab", "math/bits.deBruijn64tab"], apart := false, laid := [("math/bits.deBruijn32tab", laid_math_bits_deBruijn32tab), ("math/bits.deBruijn64tab", laid_math_bits_deBruijn64tab), ("internal/strconv.uint64pow10", laid_internal_strconv_uint64pow10), ("routing/community.wellKnown", laid_routing_community_wellKnown), ("routing/community.names", laid_routing_community_names)], narrowed := true }
def CommunityPermitsUptoSaid : Prop := communityPermitsUptoRow.holds Tryd.pinned (OpenSpec.upto communityPermitsSpec)

/-- 'routinglaw18.CommunitySets', WHERE WHAT IT READS IS OF BULK AT MOST 1048576: true; the input reads as it did. -/
def communitySetsUptoRow : OpenClaim := { program := "ytaniiennfogjaaadoor", sum := "f87d224cd918c7dc217cb09aa074b3290c8eb647d77bfa27ca27d4a56bc631d0", func := "routing/routinglaw18.CommunitySets", spec := "communitySets", inPlace := ["internal/bytealg.IndexByteString", "internal/bytealg.IndexString"], unfollowed := true, recurses := true, named := ["routing/community.names", "routing/community.wellKnown", "internal/bytealg.MaxLen", "internal/strconv.uint64pow10", "math/bits.deBruijn32tab", "math/bits.deBruijn64tab"], apart := false, laid := [("math/bits.deBruijn32tab", laid_math_bits_deBruijn32tab), ("math/bits.deBruijn64tab", laid_math_bits_deBruijn64tab), ("internal/strconv.uint64pow10", laid_internal_strconv_uint64pow10), ("routing/community.wellKnown", laid_routing_community_wellKnown), ("routing/community.names", laid_routing_community_names)], narrowed := true }
def CommunitySetsUptoSaid : Prop := communitySetsUptoRow.holds Tryd.pinned (OpenSpec.upto communitySetsSpec)

end Rows
end Go.Proofs.YtaniiennfogjaaaDoor
