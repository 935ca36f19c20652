/-
  No cell of these rows narrows 'for every input' (looked for: loops, veiled, ifaces, maps, wideKeys, modest, calm, conditions, laid).
  DERIVED. THE GIVEN ROWS OF THIS SEAT. 4 by the template 'for every input the law returns true; each argument reads behind the call as it read before'; 0 by the template 'total and deterministic' (their statements: YteaaoipipjkgnaaTotals.lean).
  GIVEN WITH THE SEED: the statements are not yours to turn. If you find one false, say at which input.
  Laid BY PROGRAM, IN A SANDBOX (cutbox-rows.mjs): the forced cells as the released guide's own fill.sh prints them over the translation b9dbd50e874dac4c… (all of the seat's roots in one cut). By AI agents, Wed Nov 11 2026. No macro, syntax, notation, axiom, sorry.
-/
import Derived.Test.YteaaoipipjkgnaaChecked
import GoSem.Claim
import GoSem.ClaimJoined
import GoSem.ClaimMapViews
import Derived.JoinedTies
import Derived.KernelRfl
namespace Go.Proofs.Yteaaoipipjkgnaa
/- THE CELL 'sum', in the pinned program and in every row, IS THE sha256 OF THE DUMP (.gsa) THAT YteaaoipipjkgnaaProg.lean LOADS. Nothing in Lean hashes anything: it is a label: what it is worth is what the hold of that sum in a sandbox is worth. -/
noncomputable def Try.pinned : Pinned := { name := "yteaaoipipjkgnaa", sum := "b9dbd50e874dac4cb4d34d4b6583ac5df777ebededdfb0de84fc5f83ccb83fc4", checked := Try.checked }
namespace Rows
def none {H : Type} : Left H := { results := [], args := [] }

/-- 'dandelionlaw10.FloodPlays': WHATEVER THE INPUT: true; the input reads as it did. -/
def floodPlaysSpec : ChangeSpec := { name := "floodPlays", fn := fun _ => fun
  | [d1, d2] => { results := [.lit (.bool true)], args := [d1, d2] }
  | _ => none }
def floodPlaysRow : OpenClaim := { program := "yteaaoipipjkgnaa", sum := "b9dbd50e874dac4cb4d34d4b6583ac5df777ebededdfb0de84fc5f83ccb83fc4", func := "dandelion/dandelionlaw10.FloodPlays", spec := "floodPlays", inPlace := ["maps.clone"], unfollowed := true, recurses := true, apart := false }
def FloodPlaysSaid : Prop := floodPlaysRow.holds Try.pinned (OpenSpec.ofChange floodPlaysSpec)

/-- ITS FALSE NEIGHBOUR: 'it returns false'. Refute it at one input. -/
def floodPlaysWrong : ChangeSpec := { name := "floodPlays", fn := fun _ => fun
  | [d1, d2] => { results := [.lit (.bool false)], args := [d1, d2] }
  | _ => none }
def FloodPlaysWrongFalsely : Prop := floodPlaysRow.holds Try.pinned (OpenSpec.ofChange floodPlaysWrong)

/-- 'dandelionlaw10.FloodSpreads': WHATEVER THE INPUT: true; the input reads as it did. -/
def floodSpreadsSpec : ChangeSpec := { name := "floodSpreads", fn := fun _ => fun
  | [d1, d2, d3] => { results := [.lit (.bool true)], args := [d1, d2, d3] }
  | _ => none }
def floodSpreadsRow : OpenClaim := { program := "yteaaoipipjkgnaa", sum := "b9dbd50e874dac4cb4d34d4b6583ac5df777ebededdfb0de84fc5f83ccb83fc4", func := "dandelion/dandelionlaw10.FloodSpreads", spec := "floodSpreads", unfollowed := true, recurses := true, apart := false }
def FloodSpreadsSaid : Prop := floodSpreadsRow.holds Try.pinned (OpenSpec.ofChange floodSpreadsSpec)

/-- ITS FALSE NEIGHBOUR: 'it returns false'. Refute it at one input. -/
def floodSpreadsWrong : ChangeSpec := { name := "floodSpreads", fn := fun _ => fun
  | [d1, d2, d3] => { results := [.lit (.bool false)], args := [d1, d2, d3] }
  | _ => none }
def FloodSpreadsWrongFalsely : Prop := floodSpreadsRow.holds Try.pinned (OpenSpec.ofChange floodSpreadsWrong)

/-- 'dandelionlaw10.FloodOnwards': WHATEVER THE INPUT: true; the input reads as it did. -/
def floodOnwardsSpec : ChangeSpec := { name := "floodOnwards", fn := fun _ => fun
  | [d1, d2] => { results := [.lit (.bool true)], args := [d1, d2] }
  | _ => none }
def floodOnwardsRow : OpenClaim := { program := "yteaaoipipjkgnaa", sum := "b9dbd50e874dac4cb4d34d4b6583ac5df777ebededdfb0de84fc5f83ccb83fc4", func := "dandelion/dandelionlaw10.FloodOnwards", spec := "floodOnwards", unfollowed := true, recurses := true, apart := false }
def FloodOnwardsSaid : Prop := floodOnwardsRow.holds Try.pinned (OpenSpec.ofChange floodOnwardsSpec)

/-- ITS FALSE NEIGHBOUR: 'it returns false'. Refute it at one input. -/
def floodOnwardsWrong : ChangeSpec := { name := "floodOnwards", fn := fun _ => fun
  | [d1, d2] => { results := [.lit (.bool false)], args := [d1, d2] }
  | _ => none }
def FloodOnwardsWrongFalsely : Prop := floodOnwardsRow.holds Try.pinned (OpenSpec.ofChange floodOnwardsWrong)

/-- 'dandelionlaw10.FloodKnown': WHATEVER THE INPUT: true; the input reads as it did. -/
def floodKnownSpec : ChangeSpec := { name := "floodKnown", fn := fun _ => fun
  | [] => { results := [.lit (.bool true)], args := [] }
  | _ => none }
def floodKnownRow : OpenClaim := { program := "yteaaoipipjkgnaa", sum := "b9dbd50e874dac4cb4d34d4b6583ac5df777ebededdfb0de84fc5f83ccb83fc4", func := "dandelion/dandelionlaw10.FloodKnown", spec := "floodKnown", inPlace := ["maps.clone"], unfollowed := true, recurses := true, apart := false }
def FloodKnownSaid : Prop := floodKnownRow.holds Try.pinned (OpenSpec.ofChange floodKnownSpec)

/-- ITS FALSE NEIGHBOUR: 'it returns false'. Refute it at one input. -/
def floodKnownWrong : ChangeSpec := { name := "floodKnown", fn := fun _ => fun
  | [] => { results := [.lit (.bool false)], args := [] }
  | _ => none }
def FloodKnownWrongFalsely : Prop := floodKnownRow.holds Try.pinned (OpenSpec.ofChange floodKnownWrong)

/- THE SECOND FORM. 'bulk': how many values and letters a reading holds, each counted each time it is reached (what is shared counts as often as it is met; a slice's spare places count too). A statement '..UptoSaid' is the law's where the arguments, and the package variables that the reading takes, are together of bulk at most 1048576: NARROWER than '..Said'. Prove '..Said' where nothing that the law and all that it calls make is longer than what came in: it says more and counts as full. Else prove '..UptoSaid'. A law counts once. -/
mutual
def uptoBulk {H : Type} : DataW H → Nat
  | .lit (.string bytes) => bytes.length + 1
  | .lit _ => 1
  | .nil => 1
  | .ptr d => uptoBulk d + 1
  | .slice elems spare => uptoBulkAll elems + uptoBulkAll spare + 1
  | .agg parts => uptoBulkAll parts + 1
  | .iface _ d => uptoBulk d + 1
  | .map entries => uptoBulkEntries entries + 1
  | .held _ => 1
def uptoBulkAll {H : Type} : List (DataW H) → Nat
  | [] => 0
  | d :: r => uptoBulk d + uptoBulkAll r
def uptoBulkEntries {H : Type} : List (Lit × DataW H) → Nat
  | [] => 0
  | x :: r => uptoBulkEntry x + uptoBulkEntries r
def uptoBulkEntry {H : Type} : Lit × DataW H → Nat
  | (.string bytes, d) => bytes.length + uptoBulk d + 1
  | (_, d) => uptoBulk d + 1
 end
def uptoSmall : (H : Type) → List (DataW H) → Bool := fun _ ds => decide (uptoBulkAll ds ≤ 1048576)
def OpenSpec.upto (s : _root_.Go.ChangeSpec) : _root_.Go.OpenSpec := { _root_.Go.OpenSpec.ofChange s with cond := some uptoSmall }

/-- 'dandelionlaw10.FloodPlays', WHERE WHAT IT READS IS OF BULK AT MOST 1048576: true; the input reads as it did. -/
def floodPlaysUptoRow : OpenClaim := { program := "yteaaoipipjkgnaa", sum := "b9dbd50e874dac4cb4d34d4b6583ac5df777ebededdfb0de84fc5f83ccb83fc4", func := "dandelion/dandelionlaw10.FloodPlays", spec := "floodPlays", inPlace := ["maps.clone"], unfollowed := true, recurses := true, apart := false, narrowed := true }
def FloodPlaysUptoSaid : Prop := floodPlaysUptoRow.holds Try.pinned (OpenSpec.upto floodPlaysSpec)

/-- 'dandelionlaw10.FloodSpreads', WHERE WHAT IT READS IS OF BULK AT MOST 1048576: true; the input reads as it did. -/
def floodSpreadsUptoRow : OpenClaim := { program := "yteaaoipipjkgnaa", sum := "b9dbd50e874dac4cb4d34d4b6583ac5df777ebededdfb0de84fc5f83ccb83fc4", func := "dandelion/dandelionlaw10.FloodSpreads", spec := "floodSpreads", unfollowed := true, recurses := true, apart := false, narrowed := true }
def FloodSpreadsUptoSaid : Prop := floodSpreadsUptoRow.holds Try.pinned (OpenSpec.upto floodSpreadsSpec)

/-- 'dandelionlaw10.FloodOnwards', WHERE WHAT IT READS IS OF BULK AT MOST 1048576: true; the input reads as it did. -/
def floodOnwardsUptoRow : OpenClaim := { program := "yteaaoipipjkgnaa", sum := "b9dbd50e874dac4cb4d34d4b6583ac5df777ebededdfb0de84fc5f83ccb83fc4", func := "dandelion/dandelionlaw10.FloodOnwards", spec := "floodOnwards", unfollowed := true, recurses := true, apart := false, narrowed := true }
def FloodOnwardsUptoSaid : Prop := floodOnwardsUptoRow.holds Try.pinned (OpenSpec.upto floodOnwardsSpec)

/-- 'dandelionlaw10.FloodKnown', WHERE WHAT IT READS IS OF BULK AT MOST 1048576: true; the input reads as it did. -/
def floodKnownUptoRow : OpenClaim := { program := "yteaaoipipjkgnaa", sum := "b9dbd50e874dac4cb4d34d4b6583ac5df777ebededdfb0de84fc5f83ccb83fc4", func := "dandelion/dandelionlaw10.FloodKnown", spec := "floodKnown", inPlace := ["maps.clone"], unfollowed := true, recurses := true, apart := false, narrowed := true }
def FloodKnownUptoSaid : Prop := floodKnownUptoRow.holds Try.pinned (OpenSpec.upto floodKnownSpec)

end Rows
end Go.Proofs.Yteaaoipipjkgnaa
