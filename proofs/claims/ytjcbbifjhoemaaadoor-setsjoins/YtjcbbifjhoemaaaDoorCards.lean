/-
  DERIVED. GIVEN WITH THE SEED: THE CARDS: each row of YtjcbbifjhoemaaaDoorRows.lean that lists a variable, with what it lists TIED to the program's text (the seventh form; the later family's looks); each row that meets fmt, with fmt's text TOLD by the authors' own Lean function (tested against real Go, not proved from fmt's source: count such statements apart). THE CARD IS WHAT COUNTS. Prove the row's statement (the work); the ties are given (YtjcbbifjhoemaaaDoorTie.lean); close each card by the builder's one call (the guide's Derived/Test/ToyasCard.lean, 'card_holds'). Laid BY PROGRAM, IN A SANDBOX (cutbox-door.mjs). By AI agents, Wed Nov 11 2026. No macro, syntax, notation, axiom, sorry.
-/
import Derived.Test.YtjcbbifjhoemaaaDoorRows
import GoSem.ClaimSeven
namespace Go.Proofs.YtjcbbifjhoemaaaDoor
namespace Rows

/-- THE TIED CARD OF 'dandelionlaw04.SetsSplits'. -/
def setsSplitsCard : Claim7 := { stood := { row := setsSplitsRow, standIns := [], harness := (true, "b439f81511fa99e22ed7bd5f7cb81ee54cd2971f4a28c7ee7efa561d0037c16d"), looks := false }, kinds := [], alts := [], laidByText := true, laidKinds := [.data], laidTests := true, laidLooks := .later }
def SetsSplitsCardSaid : Prop := Claim7.holds Tryd.pinned (.plain (OpenSpec.ofChange setsSplitsSpec)) setsSplitsCard

/-- THE TIED CARD OF 'dandelionlaw04.SetsJoins'. -/
def setsJoinsCard : Claim7 := { stood := { row := setsJoinsRow, standIns := [], harness := (true, "b439f81511fa99e22ed7bd5f7cb81ee54cd2971f4a28c7ee7efa561d0037c16d"), looks := false }, kinds := [], alts := [], laidByText := true, laidKinds := [.data, .data], laidTests := true, laidLooks := .later }
def SetsJoinsCardSaid : Prop := Claim7.holds Tryd.pinned (.plain (OpenSpec.ofChange setsJoinsSpec)) setsJoinsCard

/-- THE SECOND FORM's CARD OF 'dandelionlaw04.SetsSplits'. -/
def setsSplitsUptoCard : Claim7 := { stood := { row := setsSplitsUptoRow, standIns := [], harness := (true, "b439f81511fa99e22ed7bd5f7cb81ee54cd2971f4a28c7ee7efa561d0037c16d"), looks := false }, kinds := [], alts := [], laidByText := true, laidKinds := [.data], laidTests := true, laidLooks := .later }
def SetsSplitsUptoCardSaid : Prop := Claim7.holds Tryd.pinned (.plain (OpenSpec.upto setsSplitsSpec)) setsSplitsUptoCard

/-- THE SECOND FORM's CARD OF 'dandelionlaw04.SetsJoins'. -/
def setsJoinsUptoCard : Claim7 := { stood := { row := setsJoinsUptoRow, standIns := [], harness := (true, "b439f81511fa99e22ed7bd5f7cb81ee54cd2971f4a28c7ee7efa561d0037c16d"), looks := false }, kinds := [], alts := [], laidByText := true, laidKinds := [.data, .data], laidTests := true, laidLooks := .later }
def SetsJoinsUptoCardSaid : Prop := Claim7.holds Tryd.pinned (.plain (OpenSpec.upto setsJoinsSpec)) setsJoinsUptoCard
end Rows
end Go.Proofs.YtjcbbifjhoemaaaDoor
