/-
  No cell of these rows narrows 'for every input' (looked for: loops, veiled, ifaces, maps, wideKeys, modest, calm, conditions, laid).
  DERIVED. THE GIVEN ROWS OF THIS SEAT. 2 by the template 'for every input the law returns true; each argument reads behind the call as it read before'; 0 by the template 'total and deterministic' (their statements: YtabnecicidkmhaaTotals.lean).
  GIVEN WITH THE SEED: the statements are not yours to turn. If you find one false, say at which input.
  Laid BY PROGRAM, IN A SANDBOX (cutbox-rows.mjs): the forced cells as the released guide's own fill.sh prints them over the translation 641137fc1d40131b… (all of the seat's roots in one cut). By AI agents, Wed Nov 11 2026. No macro, syntax, notation, axiom, sorry.
-/
import Derived.Test.YtabnecicidkmhaaChecked
import GoSem.Claim
import GoSem.ClaimJoined
import GoSem.ClaimMapViews
import Derived.JoinedTies
import Derived.KernelRfl
namespace Go.Proofs.Ytabnecicidkmhaa
/- THE CELL 'sum', in the pinned program and in every row, IS THE sha256 OF THE DUMP (.gsa) THAT YtabnecicidkmhaaProg.lean LOADS. Nothing in Lean hashes anything: it is a label: what it is worth is what the hold of that sum in a sandbox is worth. -/
noncomputable def Try.pinned : Pinned := { name := "ytabnecicidkmhaa", sum := "641137fc1d40131b1dee959e32646ffa1d3c7b842a74603d1f6ae1d3a138d28e", checked := Try.checked }
namespace Rows
def none {H : Type} : Left H := { results := [], args := [] }

/-- 'dandelionlaw07.PathsReach': WHATEVER THE INPUT: true; the input reads as it did. -/
def pathsReachSpec : ChangeSpec := { name := "pathsReach", fn := fun _ => fun
  | [d1, d2, d3] => { results := [.lit (.bool true)], args := [d1, d2, d3] }
  | _ => none }
def pathsReachRow : OpenClaim := { program := "ytabnecicidkmhaa", sum := "641137fc1d40131b1dee959e32646ffa1d3c7b842a74603d1f6ae1d3a138d28e", func := "dandelion/dandelionlaw07.PathsReach", spec := "pathsReach", unfollowed := true, recurses := true, plainKeys := false, apart := false }
def PathsReachSaid : Prop := pathsReachRow.holds Try.pinned (OpenSpec.ofChange pathsReachSpec)

/-- ITS FALSE NEIGHBOUR: 'it returns false'. Refute it at one input. -/
def pathsReachWrong : ChangeSpec := { name := "pathsReach", fn := fun _ => fun
  | [d1, d2, d3] => { results := [.lit (.bool false)], args := [d1, d2, d3] }
  | _ => none }
def PathsReachWrongFalsely : Prop := pathsReachRow.holds Try.pinned (OpenSpec.ofChange pathsReachWrong)

/-- 'dandelionlaw07.PathsWays': WHATEVER THE INPUT: true; the input reads as it did. -/
def pathsWaysSpec : ChangeSpec := { name := "pathsWays", fn := fun _ => fun
  | [d1, d2, d3] => { results := [.lit (.bool true)], args := [d1, d2, d3] }
  | _ => none }
def pathsWaysRow : OpenClaim := { program := "ytabnecicidkmhaa", sum := "641137fc1d40131b1dee959e32646ffa1d3c7b842a74603d1f6ae1d3a138d28e", func := "dandelion/dandelionlaw07.PathsWays", spec := "pathsWays", unfollowed := true, recurses := true, plainKeys := false, apart := false }
def PathsWaysSaid : Prop := pathsWaysRow.holds Try.pinned (OpenSpec.ofChange pathsWaysSpec)

/-- ITS FALSE NEIGHBOUR: 'it returns false'. Refute it at one input. -/
def pathsWaysWrong : ChangeSpec := { name := "pathsWays", fn := fun _ => fun
  | [d1, d2, d3] => { results := [.lit (.bool false)], args := [d1, d2, d3] }
  | _ => none }
def PathsWaysWrongFalsely : Prop := pathsWaysRow.holds Try.pinned (OpenSpec.ofChange pathsWaysWrong)

/- THE SECOND FORM. 'bulk': how many values and letters a reading holds, each counted each time it is reached (what is shared counts as often as it is met; a slice's spare places count too). A statement '..UptoSaid' is the law's where the arguments, and the package variables that the reading takes, are together of bulk at most 1048576: NARROWER than '..Said'. Prove '..Said' where nothing that the law and all that it calls make is longer than what came in: it says more and counts as full. Else prove '..UptoSaid'. A law counts once. -/
mutual
def uptoBulk {H : Type} : DataW H → Nat
  | .lit (.string bytes) => bytes.length + 1
  | .lit _ => 1
  | .nil => 1
  | .ptr d => uptoBulk d + 1
  | .slice elems spare => uptoBulkAll elems + uptoBulkAll spare + 1
  | .agg parts => uptoBulkAll parts + 1
  | .iface _ d => uptoBulk d + 1
  | .map entries => uptoBulkEntries entries + 1
  | .held _ => 1
def uptoBulkAll {H : Type} : List (DataW H) → Nat
  | [] => 0
  | d :: r => uptoBulk d + uptoBulkAll r
def uptoBulkEntries {H : Type} : List (Lit × DataW H) → Nat
  | [] => 0
  | x :: r => uptoBulkEntry x + uptoBulkEntries r
def uptoBulkEntry {H : Type} : Lit × DataW H → Nat
  | (.string bytes, d) => bytes.length + uptoBulk d + 1
  | (_, d) => uptoBulk d + 1
 end
def uptoSmall : (H : Type) → List (DataW H) → Bool := fun _ ds => decide (uptoBulkAll ds ≤ 1048576)
def OpenSpec.upto (s : _root_.Go.ChangeSpec) : _root_.Go.OpenSpec := { _root_.Go.OpenSpec.ofChange s with cond := some uptoSmall }

/-- 'dandelionlaw07.PathsReach', WHERE WHAT IT READS IS OF BULK AT MOST 1048576: true; the input reads as it did. -/
def pathsReachUptoRow : OpenClaim := { program := "ytabnecicidkmhaa", sum := "641137fc1d40131b1dee959e32646ffa1d3c7b842a74603d1f6ae1d3a138d28e", func := "dandelion/dandelionlaw07.PathsReach", spec := "pathsReach", unfollowed := true, recurses := true, plainKeys := false, apart := false, narrowed := true }
def PathsReachUptoSaid : Prop := pathsReachUptoRow.holds Try.pinned (OpenSpec.upto pathsReachSpec)

/-- 'dandelionlaw07.PathsWays', WHERE WHAT IT READS IS OF BULK AT MOST 1048576: true; the input reads as it did. -/
def pathsWaysUptoRow : OpenClaim := { program := "ytabnecicidkmhaa", sum := "641137fc1d40131b1dee959e32646ffa1d3c7b842a74603d1f6ae1d3a138d28e", func := "dandelion/dandelionlaw07.PathsWays", spec := "pathsWays", unfollowed := true, recurses := true, plainKeys := false, apart := false, narrowed := true }
def PathsWaysUptoSaid : Prop := pathsWaysUptoRow.holds Try.pinned (OpenSpec.upto pathsWaysSpec)

end Rows
end Go.Proofs.Ytabnecicidkmhaa
