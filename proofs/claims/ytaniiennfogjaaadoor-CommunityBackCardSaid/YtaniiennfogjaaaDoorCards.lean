/-
  DERIVED. GIVEN WITH THE SEED: THE CARDS: each row of YtaniiennfogjaaaDoorRows.lean that lists a variable, with what it lists TIED to the program's text (the seventh form; the later family's looks); each row that meets fmt, with fmt's text TOLD by the authors' own Lean function (tested against real Go, not proved from fmt's source: count such statements apart). THE CARD IS WHAT COUNTS. Prove the row's statement (the work); the ties are given (YtaniiennfogjaaaDoorTie.lean); close each card by the builder's one call (the guide's Derived/Test/ToyasCard.lean, 'card_holds'). Laid BY PROGRAM, IN A SANDBOX (cutbox-door.mjs). By AI agents, Wed Nov 11 2026. No macro, syntax, notation, axiom, sorry.
-/
import Derived.Test.YtaniiennfogjaaaDoorRows
import GoSem.ClaimSeven
namespace Go.Proofs.YtaniiennfogjaaaDoor
namespace Rows

/-- THE TIED CARD OF 'routinglaw18.CommunityCheck'. -/
def communityCheckCard : Claim7 := { stood := { row := communityCheckRow, standIns := [], harness := (true, "25cebe09cd8adabbfa607678782c6bc46598810601ec082f24c8d9cd8504a75e"), looks := false }, kinds := [], alts := [], laidByText := true, laidKinds := [.data, .data, .data, .data, .data], laidTests := true, laidLooks := .later }
def CommunityCheckCardSaid : Prop := Claim7.holds Tryd.pinned (.plain (OpenSpec.ofChange communityCheckSpec)) communityCheckCard

/-- THE TIED CARD OF 'routinglaw18.CommunityBack'. -/
def communityBackCard : Claim7 := { stood := { row := communityBackRow, standIns := [], harness := (true, "25cebe09cd8adabbfa607678782c6bc46598810601ec082f24c8d9cd8504a75e"), looks := false }, kinds := [], alts := [], laidByText := true, laidKinds := [.data, .data, .data, .data, .data], laidTests := true, laidLooks := .later }
def CommunityBackCardSaid : Prop := Claim7.holds Tryd.pinned (.plain (OpenSpec.ofChange communityBackSpec)) communityBackCard

/-- THE TIED CARD OF 'routinglaw18.CommunityParse'. -/
def communityParseCard : Claim7 := { stood := { row := communityParseRow, standIns := [], harness := (true, "25cebe09cd8adabbfa607678782c6bc46598810601ec082f24c8d9cd8504a75e"), looks := false }, kinds := [], alts := [], laidByText := true, laidKinds := [.data, .data, .data, .data, .data], laidTests := true, laidLooks := .later }
def CommunityParseCardSaid : Prop := Claim7.holds Tryd.pinned (.plain (OpenSpec.ofChange communityParseSpec)) communityParseCard

/-- THE TIED CARD OF 'routinglaw18.CommunityChange'. -/
def communityChangeCard : Claim7 := { stood := { row := communityChangeRow, standIns := [], harness := (true, "25cebe09cd8adabbfa607678782c6bc46598810601ec082f24c8d9cd8504a75e"), looks := false }, kinds := [], alts := [], laidByText := true, laidKinds := [.data, .data, .data, .data, .data], laidTests := true, laidLooks := .later }
def CommunityChangeCardSaid : Prop := Claim7.holds Tryd.pinned (.plain (OpenSpec.ofChange communityChangeSpec)) communityChangeCard

/-- THE TIED CARD OF 'routinglaw18.CommunityPermits'. -/
def communityPermitsCard : Claim7 := { stood := { row := communityPermitsRow, standIns := [], harness := (true, "25cebe09cd8adabbfa607678782c6bc46598810601ec082f24c8d9cd8504a75e"), looks := false }, kinds := [], alts := [], laidByText := true, laidKinds := [.data, .data, .data, .data, .data], laidTests := true, laidLooks := .later }
def CommunityPermitsCardSaid : Prop := Claim7.holds Tryd.pinned (.plain (OpenSpec.ofChange communityPermitsSpec)) communityPermitsCard

/-- THE TIED CARD OF 'routinglaw18.CommunitySets'. -/
def communitySetsCard : Claim7 := { stood := { row := communitySetsRow, standIns := [], harness := (true, "25cebe09cd8adabbfa607678782c6bc46598810601ec082f24c8d9cd8504a75e"), looks := false }, kinds := [], alts := [], laidByText := true, laidKinds := [.data, .data, .data, .data, .data], laidTests := true, laidLooks := .later }
def CommunitySetsCardSaid : Prop := Claim7.holds Tryd.pinned (.plain (OpenSpec.ofChange communitySetsSpec)) communitySetsCard

/-- THE SECOND FORM's CARD OF 'routinglaw18.CommunityCheck'. -/
def communityCheckUptoCard : Claim7 := { stood := { row := communityCheckUptoRow, standIns := [], harness := (true, "25cebe09cd8adabbfa607678782c6bc46598810601ec082f24c8d9cd8504a75e"), looks := false }, kinds := [], alts := [], laidByText := true, laidKinds := [.data, .data, .data, .data, .data], laidTests := true, laidLooks := .later }
def CommunityCheckUptoCardSaid : Prop := Claim7.holds Tryd.pinned (.plain (OpenSpec.upto communityCheckSpec)) communityCheckUptoCard

/-- THE SECOND FORM's CARD OF 'routinglaw18.CommunityBack'. -/
def communityBackUptoCard : Claim7 := { stood := { row := communityBackUptoRow, standIns := [], harness := (true, "25cebe09cd8adabbfa607678782c6bc46598810601ec082f24c8d9cd8504a75e"), looks := false }, kinds := [], alts := [], laidByText := true, laidKinds := [.data, .data, .data, .data, .data], laidTests := true, laidLooks := .later }
def CommunityBackUptoCardSaid : Prop := Claim7.holds Tryd.pinned (.plain (OpenSpec.upto communityBackSpec)) communityBackUptoCard

/-- THE SECOND FORM's CARD OF 'routinglaw18.CommunityParse'. -/
def communityParseUptoCard : Claim7 := { stood := { row := communityParseUptoRow, standIns := [], harness := (true, "25cebe09cd8adabbfa607678782c6bc46598810601ec082f24c8d9cd8504a75e"), looks := false }, kinds := [], alts := [], laidByText := true, laidKinds := [.data, .data, .data, .data, .data], laidTests := true, laidLooks := .later }
def CommunityParseUptoCardSaid : Prop := Claim7.holds Tryd.pinned (.plain (OpenSpec.upto communityParseSpec)) communityParseUptoCard

/-- THE SECOND FORM's CARD OF 'routinglaw18.CommunityChange'. -/
def communityChangeUptoCard : Claim7 := { stood := { row := communityChangeUptoRow, standIns := [], harness := (true, "25cebe09cd8adabbfa607678782c6bc46598810601ec082f24c8d9cd8504a75e"), looks := false }, kinds := [], alts := [], laidByText := true, laidKinds := [.data, .data, .data, .data, .data], laidTests := true, laidLooks := .later }
def CommunityChangeUptoCardSaid : Prop := Claim7.holds Tryd.pinned (.plain (OpenSpec.upto communityChangeSpec)) communityChangeUptoCard

/-- THE SECOND FORM's CARD OF 'routinglaw18.CommunityPermits'. -/
def communityPermitsUptoCard : Claim7 := { stood := { row := communityPermitsUptoRow, standIns := [], harness := (true, "25cebe09cd8adabbfa607678782c6bc46598810601ec082f24c8d9cd8504a75e"), looks := false }, kinds := [], alts := [], laidByText := true, laidKinds := [.data, .data, .data, .data, .data], laidTests := true, laidLooks := .later }
def CommunityPermitsUptoCardSaid : Prop := Claim7.holds Tryd.pinned (.plain (OpenSpec.upto communityPermitsSpec)) communityPermitsUptoCard

/-- THE SECOND FORM's CARD OF 'routinglaw18.CommunitySets'. -/
def communitySetsUptoCard : Claim7 := { stood := { row := communitySetsUptoRow, standIns := [], harness := (true, "25cebe09cd8adabbfa607678782c6bc46598810601ec082f24c8d9cd8504a75e"), looks := false }, kinds := [], alts := [], laidByText := true, laidKinds := [.data, .data, .data, .data, .data], laidTests := true, laidLooks := .later }
def CommunitySetsUptoCardSaid : Prop := Claim7.holds Tryd.pinned (.plain (OpenSpec.upto communitySetsSpec)) communitySetsUptoCard
end Rows
end Go.Proofs.YtaniiennfogjaaaDoor
