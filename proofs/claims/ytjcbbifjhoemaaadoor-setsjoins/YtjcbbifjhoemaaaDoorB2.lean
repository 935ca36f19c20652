/- bits.Bytes where it refuses. -/
import Derived.Test.YtjcbbifjhoemaaaDoorW7
namespace Go.Proofs.YtjcbbifjhoemaaaDoor
open Go.RowKit

end Go.Proofs.YtjcbbifjhoemaaaDoor
