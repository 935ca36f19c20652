/- graph.Same, the document's Same. -/
import Derived.Test.YtnhlonapbohaeabGD
namespace Go.Proofs.Ytnhlonapbohaeab
open Go.RowKit

def sameG (ns ms : List Int) (es fs : List Ed) : Bool := decide (ns = ms) && decide (es = fs)
end Go.Proofs.Ytnhlonapbohaeab
