/- The walks of only, isBit. -/
import Derived.Test.YtgfmlonhjmdfjaaDoorW1
namespace Go.Proofs.YtgfmlonhjmdfjaaDoor
open Go.RowKit

end Go.Proofs.YtgfmlonhjmdfjaaDoor
