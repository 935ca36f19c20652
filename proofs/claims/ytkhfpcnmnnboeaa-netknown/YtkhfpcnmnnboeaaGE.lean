/- graph.Same, the document's Same. -/
import Derived.Test.YtkhfpcnmnnboeaaGD
namespace Go.Proofs.Ytkhfpcnmnnboeaa
open Go.RowKit

def sameG (ns ms : List Int) (es fs : List Ed) : Bool := decide (ns = ms) && decide (es = fs)
end Go.Proofs.Ytkhfpcnmnnboeaa
