/- graph.Same, the document's Same. -/
import Derived.Test.YtclnhohfiimcdaaGD
namespace Go.Proofs.Ytclnhohfiimcdaa
open Go.RowKit

def sameG (ns ms : List Int) (es fs : List Ed) : Bool := decide (ns = ms) && decide (es = fs)
end Go.Proofs.Ytclnhohfiimcdaa
