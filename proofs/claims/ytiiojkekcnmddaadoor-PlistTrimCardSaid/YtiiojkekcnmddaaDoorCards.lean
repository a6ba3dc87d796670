/-
  DERIVED. GIVEN WITH THE SEED: THE CARDS: each row of YtiiojkekcnmddaaDoorRows.lean that lists a variable, with what it lists TIED to the program's text (the seventh form; the later family's looks); each row that meets fmt, with fmt's text TOLD by the authors' own Lean function (tested against real Go, not proved from fmt's source: count such statements apart). THE CARD IS WHAT COUNTS. Prove the row's statement (the work); the ties are given (YtiiojkekcnmddaaDoorTie.lean); close each card by the builder's one call (the guide's Derived/Test/ToyasCard.lean, 'card_holds'). Laid BY PROGRAM, IN A SANDBOX (cutbox-door.mjs). By AI agents, Wed Nov 11 2026. No macro, syntax, notation, axiom, sorry.
-/
import Derived.Test.YtiiojkekcnmddaaDoorRows
import GoSem.ClaimSeven
namespace Go.Proofs.YtiiojkekcnmddaaDoor
namespace Rows

/-- THE TIED CARD OF 'routinglaw19.PlistCheck'. -/
def plistCheckCard : Claim7 := { stood := { row := plistCheckRow, standIns := [], harness := (true, "b7fdab71e59f752ff83f66c680d7eaa3478bfeca944fefad5163a0c66c9668ce"), looks := true }, kinds := [], alts := [], laidByText := true, laidKinds := [.data, .data, .data, .sentinel, .sentinel], laidTests := true, laidLooks := .later }
def PlistCheckCardSaid : Prop := Claim7.holds Tryd.pinned (.plain (OpenSpec.ofChange plistCheckSpec)) plistCheckCard

/-- THE TIED CARD OF 'routinglaw19.PlistPermits'. -/
def plistPermitsCard : Claim7 := { stood := { row := plistPermitsRow, standIns := [], harness := (true, "b7fdab71e59f752ff83f66c680d7eaa3478bfeca944fefad5163a0c66c9668ce"), looks := true }, kinds := [], alts := [], laidByText := true, laidKinds := [.data, .data, .data, .sentinel, .sentinel], laidTests := true, laidLooks := .later }
def PlistPermitsCardSaid : Prop := Claim7.holds Tryd.pinned (.plain (OpenSpec.ofChange plistPermitsSpec)) plistPermitsCard

/-- THE TIED CARD OF 'routinglaw19.PlistBack'. -/
def plistBackCard : Claim7 := { stood := { row := plistBackRow, standIns := [], harness := (true, "b7fdab71e59f752ff83f66c680d7eaa3478bfeca944fefad5163a0c66c9668ce"), looks := true }, kinds := [], alts := [], laidByText := true, laidKinds := [.data, .data, .data, .sentinel, .sentinel], laidTests := true, laidLooks := .later }
def PlistBackCardSaid : Prop := Claim7.holds Tryd.pinned (.plain (OpenSpec.ofChange plistBackSpec)) plistBackCard

/-- THE TIED CARD OF 'routinglaw19.PlistParse'. -/
def plistParseCard : Claim7 := { stood := { row := plistParseRow, standIns := [], harness := (true, "b7fdab71e59f752ff83f66c680d7eaa3478bfeca944fefad5163a0c66c9668ce"), looks := true }, kinds := [], alts := [], laidByText := true, laidKinds := [.data, .data, .data, .sentinel, .sentinel], laidTests := true, laidLooks := .later }
def PlistParseCardSaid : Prop := Claim7.holds Tryd.pinned (.plain (OpenSpec.ofChange plistParseSpec)) plistParseCard

/-- THE TIED CARD OF 'routinglaw19.PlistTrim'. -/
def plistTrimCard : Claim7 := { stood := { row := plistTrimRow, standIns := [], harness := (true, "b7fdab71e59f752ff83f66c680d7eaa3478bfeca944fefad5163a0c66c9668ce"), looks := true }, kinds := [], alts := [], laidByText := true, laidKinds := [.data, .data, .data, .sentinel, .sentinel], laidTests := true, laidLooks := .later }
def PlistTrimCardSaid : Prop := Claim7.holds Tryd.pinned (.plain (OpenSpec.ofChange plistTrimSpec)) plistTrimCard

/-- THE TIED CARD OF 'routinglaw19.PlistTrimmed'. -/
def plistTrimmedCard : Claim7 := { stood := { row := plistTrimmedRow, standIns := [], harness := (true, "b7fdab71e59f752ff83f66c680d7eaa3478bfeca944fefad5163a0c66c9668ce"), looks := true }, kinds := [], alts := [], laidByText := true, laidKinds := [.data, .data, .data, .sentinel, .sentinel], laidTests := true, laidLooks := .later }
def PlistTrimmedCardSaid : Prop := Claim7.holds Tryd.pinned (.plain (OpenSpec.ofChange plistTrimmedSpec)) plistTrimmedCard

/-- THE TIED CARD OF 'routinglaw19.PlistFirst'. -/
def plistFirstCard : Claim7 := { stood := { row := plistFirstRow, standIns := [], harness := (true, "b7fdab71e59f752ff83f66c680d7eaa3478bfeca944fefad5163a0c66c9668ce"), looks := true }, kinds := [], alts := [], laidByText := true, laidKinds := [.data, .data, .data, .sentinel, .sentinel], laidTests := true, laidLooks := .later }
def PlistFirstCardSaid : Prop := Claim7.holds Tryd.pinned (.plain (OpenSpec.ofChange plistFirstSpec)) plistFirstCard

/-- THE SECOND FORM's CARD OF 'routinglaw19.PlistCheck'. -/
def plistCheckUptoCard : Claim7 := { stood := { row := plistCheckUptoRow, standIns := [], harness := (true, "b7fdab71e59f752ff83f66c680d7eaa3478bfeca944fefad5163a0c66c9668ce"), looks := true }, kinds := [], alts := [], laidByText := true, laidKinds := [.data, .data, .data, .sentinel, .sentinel], laidTests := true, laidLooks := .later }
def PlistCheckUptoCardSaid : Prop := Claim7.holds Tryd.pinned (.plain (OpenSpec.upto plistCheckSpec)) plistCheckUptoCard

/-- THE SECOND FORM's CARD OF 'routinglaw19.PlistPermits'. -/
def plistPermitsUptoCard : Claim7 := { stood := { row := plistPermitsUptoRow, standIns := [], harness := (true, "b7fdab71e59f752ff83f66c680d7eaa3478bfeca944fefad5163a0c66c9668ce"), looks := true }, kinds := [], alts := [], laidByText := true, laidKinds := [.data, .data, .data, .sentinel, .sentinel], laidTests := true, laidLooks := .later }
def PlistPermitsUptoCardSaid : Prop := Claim7.holds Tryd.pinned (.plain (OpenSpec.upto plistPermitsSpec)) plistPermitsUptoCard

/-- THE SECOND FORM's CARD OF 'routinglaw19.PlistBack'. -/
def plistBackUptoCard : Claim7 := { stood := { row := plistBackUptoRow, standIns := [], harness := (true, "b7fdab71e59f752ff83f66c680d7eaa3478bfeca944fefad5163a0c66c9668ce"), looks := true }, kinds := [], alts := [], laidByText := true, laidKinds := [.data, .data, .data, .sentinel, .sentinel], laidTests := true, laidLooks := .later }
def PlistBackUptoCardSaid : Prop := Claim7.holds Tryd.pinned (.plain (OpenSpec.upto plistBackSpec)) plistBackUptoCard

/-- THE SECOND FORM's CARD OF 'routinglaw19.PlistParse'. -/
def plistParseUptoCard : Claim7 := { stood := { row := plistParseUptoRow, standIns := [], harness := (true, "b7fdab71e59f752ff83f66c680d7eaa3478bfeca944fefad5163a0c66c9668ce"), looks := true }, kinds := [], alts := [], laidByText := true, laidKinds := [.data, .data, .data, .sentinel, .sentinel], laidTests := true, laidLooks := .later }
def PlistParseUptoCardSaid : Prop := Claim7.holds Tryd.pinned (.plain (OpenSpec.upto plistParseSpec)) plistParseUptoCard

/-- THE SECOND FORM's CARD OF 'routinglaw19.PlistTrim'. -/
def plistTrimUptoCard : Claim7 := { stood := { row := plistTrimUptoRow, standIns := [], harness := (true, "b7fdab71e59f752ff83f66c680d7eaa3478bfeca944fefad5163a0c66c9668ce"), looks := true }, kinds := [], alts := [], laidByText := true, laidKinds := [.data, .data, .data, .sentinel, .sentinel], laidTests := true, laidLooks := .later }
def PlistTrimUptoCardSaid : Prop := Claim7.holds Tryd.pinned (.plain (OpenSpec.upto plistTrimSpec)) plistTrimUptoCard

/-- THE SECOND FORM's CARD OF 'routinglaw19.PlistTrimmed'. -/
def plistTrimmedUptoCard : Claim7 := { stood := { row := plistTrimmedUptoRow, standIns := [], harness := (true, "b7fdab71e59f752ff83f66c680d7eaa3478bfeca944fefad5163a0c66c9668ce"), looks := true }, kinds := [], alts := [], laidByText := true, laidKinds := [.data, .data, .data, .sentinel, .sentinel], laidTests := true, laidLooks := .later }
def PlistTrimmedUptoCardSaid : Prop := Claim7.holds Tryd.pinned (.plain (OpenSpec.upto plistTrimmedSpec)) plistTrimmedUptoCard

/-- THE SECOND FORM's CARD OF 'routinglaw19.PlistFirst'. -/
def plistFirstUptoCard : Claim7 := { stood := { row := plistFirstUptoRow, standIns := [], harness := (true, "b7fdab71e59f752ff83f66c680d7eaa3478bfeca944fefad5163a0c66c9668ce"), looks := true }, kinds := [], alts := [], laidByText := true, laidKinds := [.data, .data, .data, .sentinel, .sentinel], laidTests := true, laidLooks := .later }
def PlistFirstUptoCardSaid : Prop := Claim7.holds Tryd.pinned (.plain (OpenSpec.upto plistFirstSpec)) plistFirstUptoCard
end Rows
end Go.Proofs.YtiiojkekcnmddaaDoor
