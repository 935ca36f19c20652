/- wire.lay. -/
import Derived.Test.YtnhlonapbohaeaaK5
namespace Go.Proofs.Ytnhlonapbohaeaa.Wi
open Go.RowKit

/-- A number laid in n bytes. -/
def layN (v n : Nat) : List Int := (List.range n).map fun i => ((v / 2 ^ (8 * (n - 1 - i)) % 256 : Nat) : Int)

end Go.Proofs.Ytnhlonapbohaeaa.Wi
