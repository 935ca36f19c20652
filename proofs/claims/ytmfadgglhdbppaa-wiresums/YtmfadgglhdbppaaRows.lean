/-
  No cell of these rows narrows 'for every input' (looked for: loops, veiled, ifaces, maps, wideKeys, modest, calm, conditions, laid).
  DERIVED. THE GIVEN ROWS OF THIS SEAT. 6 by the template 'for every input the law returns true; each argument reads behind the call as it read before'; 0 by the template 'total and deterministic' (their statements: YtmfadgglhdbppaaTotals.lean).
  GIVEN WITH THE SEED: the statements are not yours to turn. If you find one false, say at which input.
  Laid BY PROGRAM, IN A SANDBOX (cutbox-rows.mjs): the forced cells as the released guide's own fill.sh prints them over the translation cf4c6708eead54d5… (all of the seat's roots in one cut). By AI agents, Wed Nov 11 2026. No macro, syntax, notation, axiom, sorry.
-/
import Derived.Test.YtmfadgglhdbppaaChecked
import GoSem.Claim
import GoSem.ClaimJoined
import GoSem.ClaimMapViews
import Derived.JoinedTies
import Derived.KernelRfl
namespace Go.Proofs.Ytmfadgglhdbppaa
/- THE CELL 'sum', in the pinned program and in every row, IS THE sha256 OF THE DUMP (.gsa) THAT YtmfadgglhdbppaaProg.lean LOADS. Nothing in Lean hashes anything: it is a label: what it is worth is what the hold of that sum in a sandbox is worth. -/
noncomputable def Try.pinned : Pinned := { name := "ytmfadgglhdbppaa", sum := "cf4c6708eead54d5758d37ea0ceaad39215a06083beae027ff56a573d6585fc3", checked := Try.checked }
namespace Rows
def none {H : Type} : Left H := { results := [], args := [] }

/-- 'dandelionlaw02.WirePuts': WHATEVER THE INPUT: true; the input reads as it did. -/
def wirePutsSpec : ChangeSpec := { name := "wirePuts", fn := fun _ => fun
  | [d1, d2, d3] => { results := [.lit (.bool true)], args := [d1, d2, d3] }
  | _ => none }
def wirePutsRow : OpenClaim := { program := "ytmfadgglhdbppaa", sum := "cf4c6708eead54d5758d37ea0ceaad39215a06083beae027ff56a573d6585fc3", func := "dandelion/dandelionlaw02.WirePuts", spec := "wirePuts", apart := false }
def WirePutsSaid : Prop := wirePutsRow.holds Try.pinned (OpenSpec.ofChange wirePutsSpec)

/-- ITS FALSE NEIGHBOUR: 'it returns false'. Refute it at one input. -/
def wirePutsWrong : ChangeSpec := { name := "wirePuts", fn := fun _ => fun
  | [d1, d2, d3] => { results := [.lit (.bool false)], args := [d1, d2, d3] }
  | _ => none }
def WirePutsWrongFalsely : Prop := wirePutsRow.holds Try.pinned (OpenSpec.ofChange wirePutsWrong)

/-- 'dandelionlaw02.WireTakes': WHATEVER THE INPUT: true; the input reads as it did. -/
def wireTakesSpec : ChangeSpec := { name := "wireTakes", fn := fun _ => fun
  | [d1, d2, d3] => { results := [.lit (.bool true)], args := [d1, d2, d3] }
  | _ => none }
def wireTakesRow : OpenClaim := { program := "ytmfadgglhdbppaa", sum := "cf4c6708eead54d5758d37ea0ceaad39215a06083beae027ff56a573d6585fc3", func := "dandelion/dandelionlaw02.WireTakes", spec := "wireTakes", apart := false }
def WireTakesSaid : Prop := wireTakesRow.holds Try.pinned (OpenSpec.ofChange wireTakesSpec)

/-- ITS FALSE NEIGHBOUR: 'it returns false'. Refute it at one input. -/
def wireTakesWrong : ChangeSpec := { name := "wireTakes", fn := fun _ => fun
  | [d1, d2, d3] => { results := [.lit (.bool false)], args := [d1, d2, d3] }
  | _ => none }
def WireTakesWrongFalsely : Prop := wireTakesRow.holds Try.pinned (OpenSpec.ofChange wireTakesWrong)

/-- 'dandelionlaw02.WireVars': WHATEVER THE INPUT: true; the input reads as it did. -/
def wireVarsSpec : ChangeSpec := { name := "wireVars", fn := fun _ => fun
  | [d1, d2] => { results := [.lit (.bool true)], args := [d1, d2] }
  | _ => none }
def wireVarsRow : OpenClaim := { program := "ytmfadgglhdbppaa", sum := "cf4c6708eead54d5758d37ea0ceaad39215a06083beae027ff56a573d6585fc3", func := "dandelion/dandelionlaw02.WireVars", spec := "wireVars", apart := false }
def WireVarsSaid : Prop := wireVarsRow.holds Try.pinned (OpenSpec.ofChange wireVarsSpec)

/-- ITS FALSE NEIGHBOUR: 'it returns false'. Refute it at one input. -/
def wireVarsWrong : ChangeSpec := { name := "wireVars", fn := fun _ => fun
  | [d1, d2] => { results := [.lit (.bool false)], args := [d1, d2] }
  | _ => none }
def WireVarsWrongFalsely : Prop := wireVarsRow.holds Try.pinned (OpenSpec.ofChange wireVarsWrong)

/-- 'dandelionlaw02.WireSums': WHATEVER THE INPUT: true; the input reads as it did. -/
def wireSumsSpec : ChangeSpec := { name := "wireSums", fn := fun _ => fun
  | [d] => { results := [.lit (.bool true)], args := [d] }
  | _ => none }
def wireSumsRow : OpenClaim := { program := "ytmfadgglhdbppaa", sum := "cf4c6708eead54d5758d37ea0ceaad39215a06083beae027ff56a573d6585fc3", func := "dandelion/dandelionlaw02.WireSums", spec := "wireSums", apart := false }
def WireSumsSaid : Prop := wireSumsRow.holds Try.pinned (OpenSpec.ofChange wireSumsSpec)

/-- ITS FALSE NEIGHBOUR: 'it returns false'. Refute it at one input. -/
def wireSumsWrong : ChangeSpec := { name := "wireSums", fn := fun _ => fun
  | [d] => { results := [.lit (.bool false)], args := [d] }
  | _ => none }
def WireSumsWrongFalsely : Prop := wireSumsRow.holds Try.pinned (OpenSpec.ofChange wireSumsWrong)

/-- 'dandelionlaw02.WireHex': WHATEVER THE INPUT: true; the input reads as it did. -/
def wireHexSpec : ChangeSpec := { name := "wireHex", fn := fun _ => fun
  | [d] => { results := [.lit (.bool true)], args := [d] }
  | _ => none }
def wireHexRow : OpenClaim := { program := "ytmfadgglhdbppaa", sum := "cf4c6708eead54d5758d37ea0ceaad39215a06083beae027ff56a573d6585fc3", func := "dandelion/dandelionlaw02.WireHex", spec := "wireHex", inPlace := ["internal/bytealg.IndexByteString"], apart := false }
def WireHexSaid : Prop := wireHexRow.holds Try.pinned (OpenSpec.ofChange wireHexSpec)

/-- ITS FALSE NEIGHBOUR: 'it returns false'. Refute it at one input. -/
def wireHexWrong : ChangeSpec := { name := "wireHex", fn := fun _ => fun
  | [d] => { results := [.lit (.bool false)], args := [d] }
  | _ => none }
def WireHexWrongFalsely : Prop := wireHexRow.holds Try.pinned (OpenSpec.ofChange wireHexWrong)

/-- 'dandelionlaw02.WireBack': WHATEVER THE INPUT: true; the input reads as it did. -/
def wireBackSpec : ChangeSpec := { name := "wireBack", fn := fun _ => fun
  | [d1, d2, d3] => { results := [.lit (.bool true)], args := [d1, d2, d3] }
  | _ => none }
def wireBackRow : OpenClaim := { program := "ytmfadgglhdbppaa", sum := "cf4c6708eead54d5758d37ea0ceaad39215a06083beae027ff56a573d6585fc3", func := "dandelion/dandelionlaw02.WireBack", spec := "wireBack", inPlace := ["internal/bytealg.IndexByteString"], apart := false }
def WireBackSaid : Prop := wireBackRow.holds Try.pinned (OpenSpec.ofChange wireBackSpec)

/-- ITS FALSE NEIGHBOUR: 'it returns false'. Refute it at one input. -/
def wireBackWrong : ChangeSpec := { name := "wireBack", fn := fun _ => fun
  | [d1, d2, d3] => { results := [.lit (.bool false)], args := [d1, d2, d3] }
  | _ => none }
def WireBackWrongFalsely : Prop := wireBackRow.holds Try.pinned (OpenSpec.ofChange wireBackWrong)

/- THE SECOND FORM. 'bulk': how many values and letters a reading holds, each counted each time it is reached (what is shared counts as often as it is met; a slice's spare places count too). A statement '..UptoSaid' is the law's where the arguments, and the package variables that the reading takes, are together of bulk at most 1048576: NARROWER than '..Said'. Prove '..Said' where nothing that the law and all that it calls make is longer than what came in: it says more and counts as full. Else prove '..UptoSaid'. A law counts once. -/
mutual
def uptoBulk {H : Type} : DataW H → Nat
  | .lit (.string bytes) => bytes.length + 1
  | .lit _ => 1
  | .nil => 1
  | .ptr d => uptoBulk d + 1
  | .slice elems spare => uptoBulkAll elems + uptoBulkAll spare + 1
  | .agg parts => uptoBulkAll parts + 1
  | .iface _ d => uptoBulk d + 1
  | .map entries => uptoBulkEntries entries + 1
  | .held _ => 1
def uptoBulkAll {H : Type} : List (DataW H) → Nat
  | [] => 0
  | d :: r => uptoBulk d + uptoBulkAll r
def uptoBulkEntries {H : Type} : List (Lit × DataW H) → Nat
  | [] => 0
  | x :: r => uptoBulkEntry x + uptoBulkEntries r
def uptoBulkEntry {H : Type} : Lit × DataW H → Nat
  | (.string bytes, d) => bytes.length + uptoBulk d + 1
  | (_, d) => uptoBulk d + 1
 end
def uptoSmall : (H : Type) → List (DataW H) → Bool := fun _ ds => decide (uptoBulkAll ds ≤ 1048576)
def OpenSpec.upto (s : _root_.Go.ChangeSpec) : _root_.Go.OpenSpec := { _root_.Go.OpenSpec.ofChange s with cond := some uptoSmall }

/-- 'dandelionlaw02.WirePuts', WHERE WHAT IT READS IS OF BULK AT MOST 1048576: true; the input reads as it did. -/
def wirePutsUptoRow : OpenClaim := { program := "ytmfadgglhdbppaa", sum := "cf4c6708eead54d5758d37ea0ceaad39215a06083beae027ff56a573d6585fc3", func := "dandelion/dandelionlaw02.WirePuts", spec := "wirePuts", apart := false, narrowed := true }
def WirePutsUptoSaid : Prop := wirePutsUptoRow.holds Try.pinned (OpenSpec.upto wirePutsSpec)

/-- 'dandelionlaw02.WireTakes', WHERE WHAT IT READS IS OF BULK AT MOST 1048576: true; the input reads as it did. -/
def wireTakesUptoRow : OpenClaim := { program := "ytmfadgglhdbppaa", sum := "cf4c6708eead54d5758d37ea0ceaad39215a06083beae027ff56a573d6585fc3", func := "dandelion/dandelionlaw02.WireTakes", spec := "wireTakes", apart := false, narrowed := true }
def WireTakesUptoSaid : Prop := wireTakesUptoRow.holds Try.pinned (OpenSpec.upto wireTakesSpec)

/-- 'dandelionlaw02.WireVars', WHERE WHAT IT READS IS OF BULK AT MOST 1048576: true; the input reads as it did. -/
def wireVarsUptoRow : OpenClaim := { program := "ytmfadgglhdbppaa", sum := "cf4c6708eead54d5758d37ea0ceaad39215a06083beae027ff56a573d6585fc3", func := "dandelion/dandelionlaw02.WireVars", spec := "wireVars", apart := false, narrowed := true }
def WireVarsUptoSaid : Prop := wireVarsUptoRow.holds Try.pinned (OpenSpec.upto wireVarsSpec)

/-- 'dandelionlaw02.WireSums', WHERE WHAT IT READS IS OF BULK AT MOST 1048576: true; the input reads as it did. -/
def wireSumsUptoRow : OpenClaim := { program := "ytmfadgglhdbppaa", sum := "cf4c6708eead54d5758d37ea0ceaad39215a06083beae027ff56a573d6585fc3", func := "dandelion/dandelionlaw02.WireSums", spec := "wireSums", apart := false, narrowed := true }
def WireSumsUptoSaid : Prop := wireSumsUptoRow.holds Try.pinned (OpenSpec.upto wireSumsSpec)

/-- 'dandelionlaw02.WireHex', WHERE WHAT IT READS IS OF BULK AT MOST 1048576: true; the input reads as it did. -/
def wireHexUptoRow : OpenClaim := { program := "ytmfadgglhdbppaa", sum := "cf4c6708eead54d5758d37ea0ceaad39215a06083beae027ff56a573d6585fc3", func := "dandelion/dandelionlaw02.WireHex", spec := "wireHex", inPlace := ["internal/bytealg.IndexByteString"], apart := false, narrowed := true }
def WireHexUptoSaid : Prop := wireHexUptoRow.holds Try.pinned (OpenSpec.upto wireHexSpec)

/-- 'dandelionlaw02.WireBack', WHERE WHAT IT READS IS OF BULK AT MOST 1048576: true; the input reads as it did. -/
def wireBackUptoRow : OpenClaim := { program := "ytmfadgglhdbppaa", sum := "cf4c6708eead54d5758d37ea0ceaad39215a06083beae027ff56a573d6585fc3", func := "dandelion/dandelionlaw02.WireBack", spec := "wireBack", inPlace := ["internal/bytealg.IndexByteString"], apart := false, narrowed := true }
def WireBackUptoSaid : Prop := wireBackUptoRow.holds Try.pinned (OpenSpec.upto wireBackSpec)

end Rows
end Go.Proofs.Ytmfadgglhdbppaa
