/- graph.Same, the document's Same. -/
import Derived.Test.YtaldehgggilmdaaGD
namespace Go.Proofs.Ytaldehgggilmdaa
open Go.RowKit

def sameG (ns ms : List Int) (es fs : List Ed) : Bool := decide (ns = ms) && decide (es = fs)
end Go.Proofs.Ytaldehgggilmdaa
