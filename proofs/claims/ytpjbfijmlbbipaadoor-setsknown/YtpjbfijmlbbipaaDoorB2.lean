/- bits.Bytes where it refuses. -/
import Derived.Test.YtpjbfijmlbbipaaDoorW7
namespace Go.Proofs.YtpjbfijmlbbipaaDoor
open Go.RowKit

end Go.Proofs.YtpjbfijmlbbipaaDoor
