/- wire.lay. -/
import Derived.Test.YtgpinecfmhenkaaDoorK5
namespace Go.Proofs.YtgpinecfmhenkaaDoor.Wi
open Go.RowKit

/-- A number laid in n bytes. -/
def layN (v n : Nat) : List Int := (List.range n).map fun i => ((v / 2 ^ (8 * (n - 1 - i)) % 256 : Nat) : Int)

end Go.Proofs.YtgpinecfmhenkaaDoor.Wi
