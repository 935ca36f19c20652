/-
  DERIVED. GIVEN WITH THE SEED: THE CARDS: each row of YtgpinecfmhenkaaDoorRows.lean that lists a variable, with what it lists TIED to the program's text (the seventh form; the later family's looks); each row that meets fmt, with fmt's text TOLD by the authors' own Lean function (tested against real Go, not proved from fmt's source: count such statements apart). THE CARD IS WHAT COUNTS. Prove the row's statement (the work); the ties are given (YtgpinecfmhenkaaDoorTie.lean); close each card by the builder's one call (the guide's Derived/Test/ToyasCard.lean, 'card_holds'). Laid BY PROGRAM, IN A SANDBOX (cutbox-door.mjs). By AI agents, Wed Nov 11 2026. No macro, syntax, notation, axiom, sorry.
-/
import Derived.Test.YtgpinecfmhenkaaDoorRows
import GoSem.ClaimSeven
namespace Go.Proofs.YtgpinecfmhenkaaDoor
namespace Rows

/-- THE TIED CARD OF 'dandelionlaw11.ClaimOwns'. -/
def claimOwnsCard : Claim7 := { stood := { row := claimOwnsRow, standIns := [], harness := (true, "360430a83ee4767e8a2c8879a1629395e0ffc6b031665a2d56d88b4a6950e0c8"), looks := true }, kinds := [], alts := [], laidByText := true, laidKinds := [.handle], laidTests := true, laidLooks := .later }
def ClaimOwnsCardSaid : Prop := Claim7.holds Tryd.pinned (.plain (OpenSpec.ofChange claimOwnsSpec)) claimOwnsCard

/-- THE TIED CARD OF 'dandelionlaw11.ClaimTold'. -/
def claimToldCard : Claim7 := { stood := { row := claimToldRow, standIns := [], harness := (true, "360430a83ee4767e8a2c8879a1629395e0ffc6b031665a2d56d88b4a6950e0c8"), looks := true }, kinds := [], alts := [], laidByText := true, laidKinds := [.handle], laidTests := true, laidLooks := .later }
def ClaimToldCardSaid : Prop := Claim7.holds Tryd.pinned (.plain (OpenSpec.ofChange claimToldSpec)) claimToldCard

/-- THE SECOND FORM's CARD OF 'dandelionlaw11.ClaimOwns'. -/
def claimOwnsUptoCard : Claim7 := { stood := { row := claimOwnsUptoRow, standIns := [], harness := (true, "360430a83ee4767e8a2c8879a1629395e0ffc6b031665a2d56d88b4a6950e0c8"), looks := true }, kinds := [], alts := [], laidByText := true, laidKinds := [.handle], laidTests := true, laidLooks := .later }
def ClaimOwnsUptoCardSaid : Prop := Claim7.holds Tryd.pinned (.plain (OpenSpec.upto claimOwnsSpec)) claimOwnsUptoCard

/-- THE SECOND FORM's CARD OF 'dandelionlaw11.ClaimTold'. -/
def claimToldUptoCard : Claim7 := { stood := { row := claimToldUptoRow, standIns := [], harness := (true, "360430a83ee4767e8a2c8879a1629395e0ffc6b031665a2d56d88b4a6950e0c8"), looks := true }, kinds := [], alts := [], laidByText := true, laidKinds := [.handle], laidTests := true, laidLooks := .later }
def ClaimToldUptoCardSaid : Prop := Claim7.holds Tryd.pinned (.plain (OpenSpec.upto claimToldSpec)) claimToldUptoCard
end Rows
end Go.Proofs.YtgpinecfmhenkaaDoor
