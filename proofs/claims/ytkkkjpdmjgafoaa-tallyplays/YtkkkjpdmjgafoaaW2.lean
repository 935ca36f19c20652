/- The walks of only, isBit. -/
import Derived.Test.YtkkkjpdmjgafoaaW1
namespace Go.Proofs.Ytkkkjpdmjgafoaa.Bi
open Go.RowKit

end Go.Proofs.Ytkkkjpdmjgafoaa.Bi
