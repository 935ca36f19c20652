/-
  No cell of these rows narrows 'for every input' (looked for: loops, veiled, ifaces, maps, wideKeys, modest, calm, conditions, laid).
  DERIVED. THE GIVEN ROWS OF THIS SEAT. 4 by the template 'for every input the law returns true; each argument reads behind the call as it read before'; 0 by the template 'total and deterministic' (their statements: YtnhlonapbohaeaaTotals.lean).
  GIVEN WITH THE SEED: the statements are not yours to turn. If you find one false, say at which input.
  Laid BY PROGRAM, IN A SANDBOX (cutbox-rows.mjs): the forced cells as the released guide's own fill.sh prints them over the translation c175816d74d44290… (all of the seat's roots in one cut). By AI agents, Wed Nov 11 2026. No macro, syntax, notation, axiom, sorry.
-/
import Derived.Test.YtnhlonapbohaeaaChecked
import GoSem.Claim
import GoSem.ClaimJoined
import GoSem.ClaimMapViews
import Derived.JoinedTies
import Derived.KernelRfl
namespace Go.Proofs.Ytnhlonapbohaeaa
/- THE CELL 'sum', in the pinned program and in every row, IS THE sha256 OF THE DUMP (.gsa) THAT YtnhlonapbohaeaaProg.lean LOADS. Nothing in Lean hashes anything: it is a label: what it is worth is what the hold of that sum in a sandbox is worth. -/
noncomputable def Try.pinned : Pinned := { name := "ytnhlonapbohaeaa", sum := "c175816d74d44290a961ca147b1a4511324138e35389ec423ecd14aabdee3268", checked := Try.checked }
namespace Rows
def none {H : Type} : Left H := { results := [], args := [] }

/-- 'dandelionlaw11.ClaimGathers': WHATEVER THE INPUT: true; the input reads as it did. -/
def claimGathersSpec : ChangeSpec := { name := "claimGathers", fn := fun _ => fun
  | [d] => { results := [.lit (.bool true)], args := [d] }
  | _ => none }
def claimGathersRow : OpenClaim := { program := "ytnhlonapbohaeaa", sum := "c175816d74d44290a961ca147b1a4511324138e35389ec423ecd14aabdee3268", func := "dandelion/dandelionlaw11.ClaimGathers", spec := "claimGathers", inPlace := ["internal/reflectlite.TypeOf"], unfollowed := true, recurses := true, apart := false }
def ClaimGathersSaid : Prop := claimGathersRow.holds Try.pinned (OpenSpec.ofChange claimGathersSpec)

/-- ITS FALSE NEIGHBOUR: 'it returns false'. Refute it at one input. -/
def claimGathersWrong : ChangeSpec := { name := "claimGathers", fn := fun _ => fun
  | [d] => { results := [.lit (.bool false)], args := [d] }
  | _ => none }
def ClaimGathersWrongFalsely : Prop := claimGathersRow.holds Try.pinned (OpenSpec.ofChange claimGathersWrong)

/-- 'dandelionlaw11.ClaimFrees': WHATEVER THE INPUT: true; the input reads as it did. -/
def claimFreesSpec : ChangeSpec := { name := "claimFrees", fn := fun _ => fun
  | [d1, d2] => { results := [.lit (.bool true)], args := [d1, d2] }
  | _ => none }
def claimFreesRow : OpenClaim := { program := "ytnhlonapbohaeaa", sum := "c175816d74d44290a961ca147b1a4511324138e35389ec423ecd14aabdee3268", func := "dandelion/dandelionlaw11.ClaimFrees", spec := "claimFrees", inPlace := ["internal/reflectlite.TypeOf"], unfollowed := true, recurses := true, apart := false }
def ClaimFreesSaid : Prop := claimFreesRow.holds Try.pinned (OpenSpec.ofChange claimFreesSpec)

/-- ITS FALSE NEIGHBOUR: 'it returns false'. Refute it at one input. -/
def claimFreesWrong : ChangeSpec := { name := "claimFrees", fn := fun _ => fun
  | [d1, d2] => { results := [.lit (.bool false)], args := [d1, d2] }
  | _ => none }
def ClaimFreesWrongFalsely : Prop := claimFreesRow.holds Try.pinned (OpenSpec.ofChange claimFreesWrong)

/-- 'dandelionlaw11.ClaimOrder': WHATEVER THE INPUT: true; the input reads as it did. -/
def claimOrderSpec : ChangeSpec := { name := "claimOrder", fn := fun _ => fun
  | [d] => { results := [.lit (.bool true)], args := [d] }
  | _ => none }
def claimOrderRow : OpenClaim := { program := "ytnhlonapbohaeaa", sum := "c175816d74d44290a961ca147b1a4511324138e35389ec423ecd14aabdee3268", func := "dandelion/dandelionlaw11.ClaimOrder", spec := "claimOrder", inPlace := ["internal/reflectlite.TypeOf"], unfollowed := true, recurses := true, apart := false }
def ClaimOrderSaid : Prop := claimOrderRow.holds Try.pinned (OpenSpec.ofChange claimOrderSpec)

/-- ITS FALSE NEIGHBOUR: 'it returns false'. Refute it at one input. -/
def claimOrderWrong : ChangeSpec := { name := "claimOrder", fn := fun _ => fun
  | [d] => { results := [.lit (.bool false)], args := [d] }
  | _ => none }
def ClaimOrderWrongFalsely : Prop := claimOrderRow.holds Try.pinned (OpenSpec.ofChange claimOrderWrong)

/-- 'dandelionlaw11.ClaimAsked': WHATEVER THE INPUT: true; the input reads as it did. -/
def claimAskedSpec : ChangeSpec := { name := "claimAsked", fn := fun _ => fun
  | [d1, d2] => { results := [.lit (.bool true)], args := [d1, d2] }
  | _ => none }
def claimAskedRow : OpenClaim := { program := "ytnhlonapbohaeaa", sum := "c175816d74d44290a961ca147b1a4511324138e35389ec423ecd14aabdee3268", func := "dandelion/dandelionlaw11.ClaimAsked", spec := "claimAsked", inPlace := ["internal/reflectlite.TypeOf"], unfollowed := true, recurses := true, apart := false }
def ClaimAskedSaid : Prop := claimAskedRow.holds Try.pinned (OpenSpec.ofChange claimAskedSpec)

/-- ITS FALSE NEIGHBOUR: 'it returns false'. Refute it at one input. -/
def claimAskedWrong : ChangeSpec := { name := "claimAsked", fn := fun _ => fun
  | [d1, d2] => { results := [.lit (.bool false)], args := [d1, d2] }
  | _ => none }
def ClaimAskedWrongFalsely : Prop := claimAskedRow.holds Try.pinned (OpenSpec.ofChange claimAskedWrong)

/- THE SECOND FORM. 'bulk': how many values and letters a reading holds, each counted each time it is reached (what is shared counts as often as it is met; a slice's spare places count too). A statement '..UptoSaid' is the law's where the arguments, and the package variables that the reading takes, are together of bulk at most 1048576: NARROWER than '..Said'. Prove '..Said' where nothing that the law and all that it calls make is longer than what came in: it says more and counts as full. Else prove '..UptoSaid'. A law counts once. -/
mutual
def uptoBulk {H : Type} : DataW H → Nat
  | .lit (.string bytes) => bytes.length + 1
  | .lit _ => 1
  | .nil => 1
  | .ptr d => uptoBulk d + 1
  | .slice elems spare => uptoBulkAll elems + uptoBulkAll spare + 1
  | .agg parts => uptoBulkAll parts + 1
  | .iface _ d => uptoBulk d + 1
  | .map entries => uptoBulkEntries entries + 1
  | .held _ => 1
def uptoBulkAll {H : Type} : List (DataW H) → Nat
  | [] => 0
  | d :: r => uptoBulk d + uptoBulkAll r
def uptoBulkEntries {H : Type} : List (Lit × DataW H) → Nat
  | [] => 0
  | x :: r => uptoBulkEntry x + uptoBulkEntries r
def uptoBulkEntry {H : Type} : Lit × DataW H → Nat
  | (.string bytes, d) => bytes.length + uptoBulk d + 1
  | (_, d) => uptoBulk d + 1
 end
def uptoSmall : (H : Type) → List (DataW H) → Bool := fun _ ds => decide (uptoBulkAll ds ≤ 1048576)
def OpenSpec.upto (s : _root_.Go.ChangeSpec) : _root_.Go.OpenSpec := { _root_.Go.OpenSpec.ofChange s with cond := some uptoSmall }

/-- 'dandelionlaw11.ClaimGathers', WHERE WHAT IT READS IS OF BULK AT MOST 1048576: true; the input reads as it did. -/
def claimGathersUptoRow : OpenClaim := { program := "ytnhlonapbohaeaa", sum := "c175816d74d44290a961ca147b1a4511324138e35389ec423ecd14aabdee3268", func := "dandelion/dandelionlaw11.ClaimGathers", spec := "claimGathers", inPlace := ["internal/reflectlite.TypeOf"], unfollowed := true, recurses := true, apart := false, narrowed := true }
def ClaimGathersUptoSaid : Prop := claimGathersUptoRow.holds Try.pinned (OpenSpec.upto claimGathersSpec)

/-- 'dandelionlaw11.ClaimFrees', WHERE WHAT IT READS IS OF BULK AT MOST 1048576: true; the input reads as it did. -/
def claimFreesUptoRow : OpenClaim := { program := "ytnhlonapbohaeaa", sum := "c175816d74d44290a961ca147b1a4511324138e35389ec423ecd14aabdee3268", func := "dandelion/dandelionlaw11.ClaimFrees", spec := "claimFrees", inPlace := ["internal/reflectlite.TypeOf"], unfollowed := true, recurses := true, apart := false, narrowed := true }
def ClaimFreesUptoSaid : Prop := claimFreesUptoRow.holds Try.pinned (OpenSpec.upto claimFreesSpec)

/-- 'dandelionlaw11.ClaimOrder', WHERE WHAT IT READS IS OF BULK AT MOST 1048576: true; the input reads as it did. -/
def claimOrderUptoRow : OpenClaim := { program := "ytnhlonapbohaeaa", sum := "c175816d74d44290a961ca147b1a4511324138e35389ec423ecd14aabdee3268", func := "dandelion/dandelionlaw11.ClaimOrder", spec := "claimOrder", inPlace := ["internal/reflectlite.TypeOf"], unfollowed := true, recurses := true, apart := false, narrowed := true }
def ClaimOrderUptoSaid : Prop := claimOrderUptoRow.holds Try.pinned (OpenSpec.upto claimOrderSpec)

/-- 'dandelionlaw11.ClaimAsked', WHERE WHAT IT READS IS OF BULK AT MOST 1048576: true; the input reads as it did. -/
def claimAskedUptoRow : OpenClaim := { program := "ytnhlonapbohaeaa", sum := "c175816d74d44290a961ca147b1a4511324138e35389ec423ecd14aabdee3268", func := "dandelion/dandelionlaw11.ClaimAsked", spec := "claimAsked", inPlace := ["internal/reflectlite.TypeOf"], unfollowed := true, recurses := true, apart := false, narrowed := true }
def ClaimAskedUptoSaid : Prop := claimAskedUptoRow.holds Try.pinned (OpenSpec.upto claimAskedSpec)

end Rows
end Go.Proofs.Ytnhlonapbohaeaa
