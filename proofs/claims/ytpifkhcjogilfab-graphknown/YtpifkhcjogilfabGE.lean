/- graph.Same, the document's Same. -/
import Derived.Test.YtpifkhcjogilfabGD
namespace Go.Proofs.Ytpifkhcjogilfab
open Go.RowKit

def sameG (ns ms : List Int) (es fs : List Ed) : Bool := decide (ns = ms) && decide (es = fs)
end Go.Proofs.Ytpifkhcjogilfab
