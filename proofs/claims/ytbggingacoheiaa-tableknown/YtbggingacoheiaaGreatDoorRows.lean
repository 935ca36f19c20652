/-
  NARROWER THAN 'FOR EVERY INPUT', by the rows' own cells (each row's printed sentence says how): TableBuilds: laid · TableTells: laid · TableParts: laid · TableTrue: laid · TableOrder: laid · TableKnown: laid.
  DERIVED. THE GIVEN ROWS OF THIS SEAT. 6 by the template 'for every input the law returns true; each argument reads behind the call as it read before'; 0 by the template 'total and deterministic' (their statements: YtbggingacoheiaaGreatDoorTotals.lean).
  GIVEN WITH THE SEED: the statements are not yours to turn. If you find one false, say at which input.
  Laid BY PROGRAM, IN A SANDBOX (cutbox-rows.mjs): the forced cells as the released guide's own fill.sh prints them over the translation 3f0b365c4e4a659f… (all of the seat's roots in one cut). By AI agents, Wed Nov 11 2026. No macro, syntax, notation, axiom, sorry.
-/
import Derived.Test.YtbggingacoheiaaGreatDoorChecked
import GoSem.Claim
import GoSem.ClaimJoined
import GoSem.ClaimMapViews
import Derived.JoinedTies
import Derived.KernelRfl
namespace Go.Proofs.YtbggingacoheiaaGreatDoor
/- THE CELL 'sum', in the pinned program and in every row, IS THE sha256 OF THE DUMP (.gsa) THAT YtbggingacoheiaaGreatDoorProg.lean LOADS. Nothing in Lean hashes anything: it is a label: what it is worth is what the hold of that sum in a sandbox is worth. -/
noncomputable def Tryz.pinned : Pinned := { name := "ytbggingacoheiaagreatdoor", sum := "3f0b365c4e4a659fab9c6698c43291896c43756c15a11c69109b10a96d4a753a", checked := Tryz.checked }
namespace Rows
def none {H : Type} : Left H := { results := [], args := [] }

/- WHAT THE LISTED PACKAGE-LEVEL VARIABLES READ AS WHEN THE CALL BEGINS. Each datum BY PROGRAM (the guide's laid-datum.mjs) off the statement by which the dump's own 'gosem.cut.vars' lays the variable. In a bare row this is a premise. The card (YtbggingacoheiaaGreatDoorCards.lean) ties it to the program's text. -/
def laid_dandelion_header_widths {H : Type} : DataW H := .agg [.lit (.int .i64 8), .lit (.int .i64 16), .lit (.int .i64 32), .lit (.int .i64 64), .lit (.int .i64 128), .lit (.int .i64 256)]

/-- 'dandelionlaw13.TableBuilds': WHATEVER THE INPUT: true; the input reads as it did. -/
def tableBuildsSpec : ChangeSpec := { name := "tableBuilds", fn := fun _ => fun
  | [d1, d2, d3] => { results := [.lit (.bool true)], args := [d1, d2, d3] }
  | _ => none }
def tableBuildsRow : OpenClaim := { program := "ytbggingacoheiaagreatdoor", sum := "3f0b365c4e4a659fab9c6698c43291896c43756c15a11c69109b10a96d4a753a", func := "dandelion/dandelionlaw13.TableBuilds", spec := "tableBuilds", unfollowed := true, recurses := true, named := ["dandelion/header.widths"], plainKeys := false, apart := false, laid := [("dandelion/header.widths", laid_dandelion_header_widths)] }
def TableBuildsSaid : Prop := tableBuildsRow.holds Tryz.pinned (OpenSpec.ofChange tableBuildsSpec)

/-- ITS FALSE NEIGHBOUR: 'it returns false'. Refute it at one input. -/
def tableBuildsWrong : ChangeSpec := { name := "tableBuilds", fn := fun _ => fun
  | [d1, d2, d3] => { results := [.lit (.bool false)], args := [d1, d2, d3] }
  | _ => none }
def TableBuildsWrongFalsely : Prop := tableBuildsRow.holds Tryz.pinned (OpenSpec.ofChange tableBuildsWrong)

/-- 'dandelionlaw13.TableTells': WHATEVER THE INPUT: true; the input reads as it did. -/
def tableTellsSpec : ChangeSpec := { name := "tableTells", fn := fun _ => fun
  | [d1, d2, d3] => { results := [.lit (.bool true)], args := [d1, d2, d3] }
  | _ => none }
def tableTellsRow : OpenClaim := { program := "ytbggingacoheiaagreatdoor", sum := "3f0b365c4e4a659fab9c6698c43291896c43756c15a11c69109b10a96d4a753a", func := "dandelion/dandelionlaw13.TableTells", spec := "tableTells", unfollowed := true, recurses := true, named := ["dandelion/header.widths"], plainKeys := false, apart := false, laid := [("dandelion/header.widths", laid_dandelion_header_widths)] }
def TableTellsSaid : Prop := tableTellsRow.holds Tryz.pinned (OpenSpec.ofChange tableTellsSpec)

/-- ITS FALSE NEIGHBOUR: 'it returns false'. Refute it at one input. -/
def tableTellsWrong : ChangeSpec := { name := "tableTells", fn := fun _ => fun
  | [d1, d2, d3] => { results := [.lit (.bool false)], args := [d1, d2, d3] }
  | _ => none }
def TableTellsWrongFalsely : Prop := tableTellsRow.holds Tryz.pinned (OpenSpec.ofChange tableTellsWrong)

/-- 'dandelionlaw13.TableParts': WHATEVER THE INPUT: true; the input reads as it did. -/
def tablePartsSpec : ChangeSpec := { name := "tableParts", fn := fun _ => fun
  | [d1, d2, d3] => { results := [.lit (.bool true)], args := [d1, d2, d3] }
  | _ => none }
def tablePartsRow : OpenClaim := { program := "ytbggingacoheiaagreatdoor", sum := "3f0b365c4e4a659fab9c6698c43291896c43756c15a11c69109b10a96d4a753a", func := "dandelion/dandelionlaw13.TableParts", spec := "tableParts", unfollowed := true, recurses := true, named := ["dandelion/header.widths"], plainKeys := false, apart := false, laid := [("dandelion/header.widths", laid_dandelion_header_widths)] }
def TablePartsSaid : Prop := tablePartsRow.holds Tryz.pinned (OpenSpec.ofChange tablePartsSpec)

/-- ITS FALSE NEIGHBOUR: 'it returns false'. Refute it at one input. -/
def tablePartsWrong : ChangeSpec := { name := "tableParts", fn := fun _ => fun
  | [d1, d2, d3] => { results := [.lit (.bool false)], args := [d1, d2, d3] }
  | _ => none }
def TablePartsWrongFalsely : Prop := tablePartsRow.holds Tryz.pinned (OpenSpec.ofChange tablePartsWrong)

/-- 'dandelionlaw13.TableTrue': WHATEVER THE INPUT: true; the input reads as it did. -/
def tableTrueSpec : ChangeSpec := { name := "tableTrue", fn := fun _ => fun
  | [d1, d2, d3] => { results := [.lit (.bool true)], args := [d1, d2, d3] }
  | _ => none }
def tableTrueRow : OpenClaim := { program := "ytbggingacoheiaagreatdoor", sum := "3f0b365c4e4a659fab9c6698c43291896c43756c15a11c69109b10a96d4a753a", func := "dandelion/dandelionlaw13.TableTrue", spec := "tableTrue", unfollowed := true, recurses := true, named := ["dandelion/header.widths"], plainKeys := false, apart := false, laid := [("dandelion/header.widths", laid_dandelion_header_widths)] }
def TableTrueSaid : Prop := tableTrueRow.holds Tryz.pinned (OpenSpec.ofChange tableTrueSpec)

/-- ITS FALSE NEIGHBOUR: 'it returns false'. Refute it at one input. -/
def tableTrueWrong : ChangeSpec := { name := "tableTrue", fn := fun _ => fun
  | [d1, d2, d3] => { results := [.lit (.bool false)], args := [d1, d2, d3] }
  | _ => none }
def TableTrueWrongFalsely : Prop := tableTrueRow.holds Tryz.pinned (OpenSpec.ofChange tableTrueWrong)

/-- 'dandelionlaw13.TableOrder': WHATEVER THE INPUT: true; the input reads as it did. -/
def tableOrderSpec : ChangeSpec := { name := "tableOrder", fn := fun _ => fun
  | [d1, d2, d3] => { results := [.lit (.bool true)], args := [d1, d2, d3] }
  | _ => none }
def tableOrderRow : OpenClaim := { program := "ytbggingacoheiaagreatdoor", sum := "3f0b365c4e4a659fab9c6698c43291896c43756c15a11c69109b10a96d4a753a", func := "dandelion/dandelionlaw13.TableOrder", spec := "tableOrder", unfollowed := true, recurses := true, named := ["dandelion/header.widths"], plainKeys := false, apart := false, laid := [("dandelion/header.widths", laid_dandelion_header_widths)] }
def TableOrderSaid : Prop := tableOrderRow.holds Tryz.pinned (OpenSpec.ofChange tableOrderSpec)

/-- ITS FALSE NEIGHBOUR: 'it returns false'. Refute it at one input. -/
def tableOrderWrong : ChangeSpec := { name := "tableOrder", fn := fun _ => fun
  | [d1, d2, d3] => { results := [.lit (.bool false)], args := [d1, d2, d3] }
  | _ => none }
def TableOrderWrongFalsely : Prop := tableOrderRow.holds Tryz.pinned (OpenSpec.ofChange tableOrderWrong)

/-- 'dandelionlaw13.TableKnown': WHATEVER THE INPUT: true; the input reads as it did. -/
def tableKnownSpec : ChangeSpec := { name := "tableKnown", fn := fun _ => fun
  | [] => { results := [.lit (.bool true)], args := [] }
  | _ => none }
def tableKnownRow : OpenClaim := { program := "ytbggingacoheiaagreatdoor", sum := "3f0b365c4e4a659fab9c6698c43291896c43756c15a11c69109b10a96d4a753a", func := "dandelion/dandelionlaw13.TableKnown", spec := "tableKnown", unfollowed := true, recurses := true, named := ["dandelion/header.widths"], plainKeys := false, apart := false, laid := [("dandelion/header.widths", laid_dandelion_header_widths)] }
def TableKnownSaid : Prop := tableKnownRow.holds Tryz.pinned (OpenSpec.ofChange tableKnownSpec)

/-- ITS FALSE NEIGHBOUR: 'it returns false'. Refute it at one input. -/
def tableKnownWrong : ChangeSpec := { name := "tableKnown", fn := fun _ => fun
  | [] => { results := [.lit (.bool false)], args := [] }
  | _ => none }
def TableKnownWrongFalsely : Prop := tableKnownRow.holds Tryz.pinned (OpenSpec.ofChange tableKnownWrong)

/- THE SECOND FORM. 'bulk': how many values and letters a reading holds, each counted each time it is reached (what is shared counts as often as it is met; a slice's spare places count too). A statement '..UptoSaid' is the law's where the arguments, and the package variables that the reading takes, are together of bulk at most 1048576: NARROWER than '..Said'. Prove '..Said' where nothing that the law and all that it calls make is longer than what came in: it says more and counts as full. Else prove '..UptoSaid'. A law counts once. -/
mutual
def uptoBulk {H : Type} : DataW H → Nat
  | .lit (.string bytes) => bytes.length + 1
  | .lit _ => 1
  | .nil => 1
  | .ptr d => uptoBulk d + 1
  | .slice elems spare => uptoBulkAll elems + uptoBulkAll spare + 1
  | .agg parts => uptoBulkAll parts + 1
  | .iface _ d => uptoBulk d + 1
  | .map entries => uptoBulkEntries entries + 1
  | .held _ => 1
def uptoBulkAll {H : Type} : List (DataW H) → Nat
  | [] => 0
  | d :: r => uptoBulk d + uptoBulkAll r
def uptoBulkEntries {H : Type} : List (Lit × DataW H) → Nat
  | [] => 0
  | x :: r => uptoBulkEntry x + uptoBulkEntries r
def uptoBulkEntry {H : Type} : Lit × DataW H → Nat
  | (.string bytes, d) => bytes.length + uptoBulk d + 1
  | (_, d) => uptoBulk d + 1
 end
def uptoSmall : (H : Type) → List (DataW H) → Bool := fun _ ds => decide (uptoBulkAll ds ≤ 1048576)
def OpenSpec.upto (s : _root_.Go.ChangeSpec) : _root_.Go.OpenSpec := { _root_.Go.OpenSpec.ofChange s with cond := some uptoSmall }

/-- 'dandelionlaw13.TableBuilds', WHERE WHAT IT READS IS OF BULK AT MOST 1048576: true; the input reads as it did. -/
def tableBuildsUptoRow : OpenClaim := { program := "ytbggingacoheiaagreatdoor", sum := "3f0b365c4e4a659fab9c6698c43291896c43756c15a11c69109b10a96d4a753a", func := "dandelion/dandelionlaw13.TableBuilds", spec := "tableBuilds", unfollowed := true, recurses := true, named := ["dandelion/header.widths"], plainKeys := false, apart := false, laid := [("dandelion/header.widths", laid_dandelion_header_widths)], narrowed := true }
def TableBuildsUptoSaid : Prop := tableBuildsUptoRow.holds Tryz.pinned (OpenSpec.upto tableBuildsSpec)

/-- 'dandelionlaw13.TableTells', WHERE WHAT IT READS IS OF BULK AT MOST 1048576: true; the input reads as it did. -/
def tableTellsUptoRow : OpenClaim := { program := "ytbggingacoheiaagreatdoor", sum := "3f0b365c4e4a659fab9c6698c43291896c43756c15a11c69109b10a96d4a753a", func := "dandelion/dandelionlaw13.TableTells", spec := "tableTells", unfollowed := true, recurses := true, named := ["dandelion/header.widths"], plainKeys := false, apart := false, laid := [("dandelion/header.widths", laid_dandelion_header_widths)], narrowed := true }
def TableTellsUptoSaid : Prop := tableTellsUptoRow.holds Tryz.pinned (OpenSpec.upto tableTellsSpec)

/-- 'dandelionlaw13.TableParts', WHERE WHAT IT READS IS OF BULK AT MOST 1048576: true; the input reads as it did. -/
def tablePartsUptoRow : OpenClaim := { program := "ytbggingacoheiaagreatdoor", sum := "3f0b365c4e4a659fab9c6698c43291896c43756c15a11c69109b10a96d4a753a", func := "dandelion/dandelionlaw13.TableParts", spec := "tableParts", unfollowed := true, recurses := true, named := ["dandelion/header.widths"], plainKeys := false, apart := false, laid := [("dandelion/header.widths", laid_dandelion_header_widths)], narrowed := true }
def TablePartsUptoSaid : Prop := tablePartsUptoRow.holds Tryz.pinned (OpenSpec.upto tablePartsSpec)

/-- 'dandelionlaw13.TableTrue', WHERE WHAT IT READS IS OF BULK AT MOST 1048576: true; the input reads as it did. -/
def tableTrueUptoRow : OpenClaim := { program := "ytbggingacoheiaagreatdoor", sum := "3f0b365c4e4a659fab9c6698c43291896c43756c15a11c69109b10a96d4a753a", func := "dandelion/dandelionlaw13.TableTrue", spec := "tableTrue", unfollowed := true, recurses := true, named := ["dandelion/header.widths"], plainKeys := false, apart := false, laid := [("dandelion/header.widths", laid_dandelion_header_widths)], narrowed := true }
def TableTrueUptoSaid : Prop := tableTrueUptoRow.holds Tryz.pinned (OpenSpec.upto tableTrueSpec)

/-- 'dandelionlaw13.TableOrder', WHERE WHAT IT READS IS OF BULK AT MOST 1048576: true; the input reads as it did. -/
def tableOrderUptoRow : OpenClaim := { program := "ytbggingacoheiaagreatdoor", sum := "3f0b365c4e4a659fab9c6698c43291896c43756c15a11c69109b10a96d4a753a", func := "dandelion/dandelionlaw13.TableOrder", spec := "tableOrder", unfollowed := true, recurses := true, named := ["dandelion/header.widths"], plainKeys := false, apart := false, laid := [("dandelion/header.widths", laid_dandelion_header_widths)], narrowed := true }
def TableOrderUptoSaid : Prop := tableOrderUptoRow.holds Tryz.pinned (OpenSpec.upto tableOrderSpec)

/-- 'dandelionlaw13.TableKnown', WHERE WHAT IT READS IS OF BULK AT MOST 1048576: true; the input reads as it did. -/
def tableKnownUptoRow : OpenClaim := { program := "ytbggingacoheiaagreatdoor", sum := "3f0b365c4e4a659fab9c6698c43291896c43756c15a11c69109b10a96d4a753a", func := "dandelion/dandelionlaw13.TableKnown", spec := "tableKnown", unfollowed := true, recurses := true, named := ["dandelion/header.widths"], plainKeys := false, apart := false, laid := [("dandelion/header.widths", laid_dandelion_header_widths)], narrowed := true }
def TableKnownUptoSaid : Prop := tableKnownUptoRow.holds Tryz.pinned (OpenSpec.upto tableKnownSpec)

end Rows
end Go.Proofs.YtbggingacoheiaaGreatDoor
