/-
  DERIVED. GIVEN WITH THE SEED: THE CARDS: each row of YtlfmceochemeaabDoorRows.lean that lists a variable, with what it lists TIED to the program's text (the seventh form; the later family's looks); each row that meets fmt, with fmt's text TOLD by the authors' own Lean function (tested against real Go, not proved from fmt's source: count such statements apart). THE CARD IS WHAT COUNTS. Prove the row's statement (the work); the ties are given (YtlfmceochemeaabDoorTie.lean); close each card by the builder's one call (the guide's Derived/Test/ToyasCard.lean, 'card_holds'). Laid BY PROGRAM, IN A SANDBOX (cutbox-door.mjs). By AI agents, Wed Nov 11 2026. No macro, syntax, notation, axiom, sorry.
-/
import Derived.Test.YtlfmceochemeaabDoorRows
import GoSem.ClaimSeven
namespace Go.Proofs.YtlfmceochemeaabDoor
namespace Rows

/-- THE TIED CARD OF 'dandelionlaw01.BitsLow'. -/
def bitsLowCard : Claim7 := { stood := { row := bitsLowRow, standIns := [], harness := (true, "6cb1081b4e7a180351badc33591a27e52aa7398281bc0cc66bbc4aa75d3c8632"), looks := true }, kinds := [], alts := [], laidByText := true, laidKinds := [.data, .data, .data], laidTests := true, laidLooks := .later }
def BitsLowCardSaid : Prop := Claim7.holds Tryd.pinned (.plain (OpenSpec.ofChange bitsLowSpec)) bitsLowCard

/-- THE TIED CARD OF 'dandelionlaw01.BitsBack'. -/
def bitsBackCard : Claim7 := { stood := { row := bitsBackRow, standIns := [], harness := (true, "6cb1081b4e7a180351badc33591a27e52aa7398281bc0cc66bbc4aa75d3c8632"), looks := true }, kinds := [], alts := [], laidByText := true, laidKinds := [.data, .data, .data, .sentinel, .sentinel], laidTests := true, laidLooks := .later }
def BitsBackCardSaid : Prop := Claim7.holds Tryd.pinned (.plain (OpenSpec.ofChange bitsBackSpec)) bitsBackCard

/-- THE TIED CARD OF 'dandelionlaw01.BitsKnown'. -/
def bitsKnownCard : Claim7 := { stood := { row := bitsKnownRow, standIns := [], harness := (true, "6cb1081b4e7a180351badc33591a27e52aa7398281bc0cc66bbc4aa75d3c8632"), looks := true }, kinds := [], alts := [], laidByText := true, laidKinds := [.data, .data, .data, .sentinel, .sentinel], laidTests := true, laidLooks := .later }
def BitsKnownCardSaid : Prop := Claim7.holds Tryd.pinned (.plain (OpenSpec.ofChange bitsKnownSpec)) bitsKnownCard

/-- THE SECOND FORM's CARD OF 'dandelionlaw01.BitsLow'. -/
def bitsLowUptoCard : Claim7 := { stood := { row := bitsLowUptoRow, standIns := [], harness := (true, "6cb1081b4e7a180351badc33591a27e52aa7398281bc0cc66bbc4aa75d3c8632"), looks := true }, kinds := [], alts := [], laidByText := true, laidKinds := [.data, .data, .data], laidTests := true, laidLooks := .later }
def BitsLowUptoCardSaid : Prop := Claim7.holds Tryd.pinned (.plain (OpenSpec.upto bitsLowSpec)) bitsLowUptoCard

/-- THE SECOND FORM's CARD OF 'dandelionlaw01.BitsBack'. -/
def bitsBackUptoCard : Claim7 := { stood := { row := bitsBackUptoRow, standIns := [], harness := (true, "6cb1081b4e7a180351badc33591a27e52aa7398281bc0cc66bbc4aa75d3c8632"), looks := true }, kinds := [], alts := [], laidByText := true, laidKinds := [.data, .data, .data, .sentinel, .sentinel], laidTests := true, laidLooks := .later }
def BitsBackUptoCardSaid : Prop := Claim7.holds Tryd.pinned (.plain (OpenSpec.upto bitsBackSpec)) bitsBackUptoCard

/-- THE SECOND FORM's CARD OF 'dandelionlaw01.BitsKnown'. -/
def bitsKnownUptoCard : Claim7 := { stood := { row := bitsKnownUptoRow, standIns := [], harness := (true, "6cb1081b4e7a180351badc33591a27e52aa7398281bc0cc66bbc4aa75d3c8632"), looks := true }, kinds := [], alts := [], laidByText := true, laidKinds := [.data, .data, .data, .sentinel, .sentinel], laidTests := true, laidLooks := .later }
def BitsKnownUptoCardSaid : Prop := Claim7.holds Tryd.pinned (.plain (OpenSpec.upto bitsKnownSpec)) bitsKnownUptoCard
end Rows
end Go.Proofs.YtlfmceochemeaabDoor
