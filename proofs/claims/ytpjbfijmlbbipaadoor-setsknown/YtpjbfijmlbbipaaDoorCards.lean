/-
  DERIVED. GIVEN WITH THE SEED: THE CARDS: each row of YtpjbfijmlbbipaaDoorRows.lean that lists a variable, with what it lists TIED to the program's text (the seventh form; the later family's looks); each row that meets fmt, with fmt's text TOLD by the authors' own Lean function (tested against real Go, not proved from fmt's source: count such statements apart). THE CARD IS WHAT COUNTS. Prove the row's statement (the work); the ties are given (YtpjbfijmlbbipaaDoorTie.lean); close each card by the builder's one call (the guide's Derived/Test/ToyasCard.lean, 'card_holds'). Laid BY PROGRAM, IN A SANDBOX (cutbox-door.mjs). By AI agents, Wed Nov 11 2026. No macro, syntax, notation, axiom, sorry.
-/
import Derived.Test.YtpjbfijmlbbipaaDoorRows
import GoSem.ClaimSeven
namespace Go.Proofs.YtpjbfijmlbbipaaDoor
namespace Rows

/-- THE TIED CARD OF 'dandelionlaw04.SetsPlaces'. -/
def setsPlacesCard : Claim7 := { stood := { row := setsPlacesRow, standIns := [], harness := (true, "b008ca8904fa8e3b1d8842b71b9f9fa3071e962a8297f781a692cd3256576516"), looks := false }, kinds := [], alts := [], laidByText := true, laidKinds := [.data], laidTests := true, laidLooks := .later }
def SetsPlacesCardSaid : Prop := Claim7.holds Tryd.pinned (.plain (OpenSpec.ofChange setsPlacesSpec)) setsPlacesCard

/-- THE TIED CARD OF 'dandelionlaw04.SetsSplits'. -/
def setsSplitsCard : Claim7 := { stood := { row := setsSplitsRow, standIns := [], harness := (true, "b008ca8904fa8e3b1d8842b71b9f9fa3071e962a8297f781a692cd3256576516"), looks := false }, kinds := [], alts := [], laidByText := true, laidKinds := [.data], laidTests := true, laidLooks := .later }
def SetsSplitsCardSaid : Prop := Claim7.holds Tryd.pinned (.plain (OpenSpec.ofChange setsSplitsSpec)) setsSplitsCard

/-- THE TIED CARD OF 'dandelionlaw04.SetsJoins'. -/
def setsJoinsCard : Claim7 := { stood := { row := setsJoinsRow, standIns := [], harness := (true, "b008ca8904fa8e3b1d8842b71b9f9fa3071e962a8297f781a692cd3256576516"), looks := false }, kinds := [], alts := [], laidByText := true, laidKinds := [.data, .data], laidTests := true, laidLooks := .later }
def SetsJoinsCardSaid : Prop := Claim7.holds Tryd.pinned (.plain (OpenSpec.ofChange setsJoinsSpec)) setsJoinsCard

/-- THE TIED CARD OF 'dandelionlaw04.SetsBack'. -/
def setsBackCard : Claim7 := { stood := { row := setsBackRow, standIns := [], harness := (true, "b008ca8904fa8e3b1d8842b71b9f9fa3071e962a8297f781a692cd3256576516"), looks := false }, kinds := [], alts := [], laidByText := true, laidKinds := [.data], laidTests := true, laidLooks := .later }
def SetsBackCardSaid : Prop := Claim7.holds Tryd.pinned (.plain (OpenSpec.ofChange setsBackSpec)) setsBackCard

/-- THE TIED CARD OF 'dandelionlaw04.SetsAgain'. -/
def setsAgainCard : Claim7 := { stood := { row := setsAgainRow, standIns := [], harness := (true, "b008ca8904fa8e3b1d8842b71b9f9fa3071e962a8297f781a692cd3256576516"), looks := false }, kinds := [], alts := [], laidByText := true, laidKinds := [.data, .data], laidTests := true, laidLooks := .later }
def SetsAgainCardSaid : Prop := Claim7.holds Tryd.pinned (.plain (OpenSpec.ofChange setsAgainSpec)) setsAgainCard

/-- THE TIED CARD OF 'dandelionlaw04.SetsKnown'. -/
def setsKnownCard : Claim7 := { stood := { row := setsKnownRow, standIns := [], harness := (true, "b008ca8904fa8e3b1d8842b71b9f9fa3071e962a8297f781a692cd3256576516"), looks := false }, kinds := [], alts := [], laidByText := true, laidKinds := [.data, .data], laidTests := true, laidLooks := .later }
def SetsKnownCardSaid : Prop := Claim7.holds Tryd.pinned (.plain (OpenSpec.ofChange setsKnownSpec)) setsKnownCard

/-- THE SECOND FORM's CARD OF 'dandelionlaw04.SetsPlaces'. -/
def setsPlacesUptoCard : Claim7 := { stood := { row := setsPlacesUptoRow, standIns := [], harness := (true, "b008ca8904fa8e3b1d8842b71b9f9fa3071e962a8297f781a692cd3256576516"), looks := false }, kinds := [], alts := [], laidByText := true, laidKinds := [.data], laidTests := true, laidLooks := .later }
def SetsPlacesUptoCardSaid : Prop := Claim7.holds Tryd.pinned (.plain (OpenSpec.upto setsPlacesSpec)) setsPlacesUptoCard

/-- THE SECOND FORM's CARD OF 'dandelionlaw04.SetsSplits'. -/
def setsSplitsUptoCard : Claim7 := { stood := { row := setsSplitsUptoRow, standIns := [], harness := (true, "b008ca8904fa8e3b1d8842b71b9f9fa3071e962a8297f781a692cd3256576516"), looks := false }, kinds := [], alts := [], laidByText := true, laidKinds := [.data], laidTests := true, laidLooks := .later }
def SetsSplitsUptoCardSaid : Prop := Claim7.holds Tryd.pinned (.plain (OpenSpec.upto setsSplitsSpec)) setsSplitsUptoCard

/-- THE SECOND FORM's CARD OF 'dandelionlaw04.SetsJoins'. -/
def setsJoinsUptoCard : Claim7 := { stood := { row := setsJoinsUptoRow, standIns := [], harness := (true, "b008ca8904fa8e3b1d8842b71b9f9fa3071e962a8297f781a692cd3256576516"), looks := false }, kinds := [], alts := [], laidByText := true, laidKinds := [.data, .data], laidTests := true, laidLooks := .later }
def SetsJoinsUptoCardSaid : Prop := Claim7.holds Tryd.pinned (.plain (OpenSpec.upto setsJoinsSpec)) setsJoinsUptoCard

/-- THE SECOND FORM's CARD OF 'dandelionlaw04.SetsBack'. -/
def setsBackUptoCard : Claim7 := { stood := { row := setsBackUptoRow, standIns := [], harness := (true, "b008ca8904fa8e3b1d8842b71b9f9fa3071e962a8297f781a692cd3256576516"), looks := false }, kinds := [], alts := [], laidByText := true, laidKinds := [.data], laidTests := true, laidLooks := .later }
def SetsBackUptoCardSaid : Prop := Claim7.holds Tryd.pinned (.plain (OpenSpec.upto setsBackSpec)) setsBackUptoCard

/-- THE SECOND FORM's CARD OF 'dandelionlaw04.SetsAgain'. -/
def setsAgainUptoCard : Claim7 := { stood := { row := setsAgainUptoRow, standIns := [], harness := (true, "b008ca8904fa8e3b1d8842b71b9f9fa3071e962a8297f781a692cd3256576516"), looks := false }, kinds := [], alts := [], laidByText := true, laidKinds := [.data, .data], laidTests := true, laidLooks := .later }
def SetsAgainUptoCardSaid : Prop := Claim7.holds Tryd.pinned (.plain (OpenSpec.upto setsAgainSpec)) setsAgainUptoCard

/-- THE SECOND FORM's CARD OF 'dandelionlaw04.SetsKnown'. -/
def setsKnownUptoCard : Claim7 := { stood := { row := setsKnownUptoRow, standIns := [], harness := (true, "b008ca8904fa8e3b1d8842b71b9f9fa3071e962a8297f781a692cd3256576516"), looks := false }, kinds := [], alts := [], laidByText := true, laidKinds := [.data, .data], laidTests := true, laidLooks := .later }
def SetsKnownUptoCardSaid : Prop := Claim7.holds Tryd.pinned (.plain (OpenSpec.upto setsKnownSpec)) setsKnownUptoCard
end Rows
end Go.Proofs.YtpjbfijmlbbipaaDoor
