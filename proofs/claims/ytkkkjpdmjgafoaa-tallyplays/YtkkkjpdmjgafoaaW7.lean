/- bits.highest, bits.Below: the walks. -/
import Derived.Test.YtkkkjpdmjgafoaaW6
namespace Go.Proofs.Ytkkkjpdmjgafoaa.Bi
open Go.RowKit

end Go.Proofs.Ytkkkjpdmjgafoaa.Bi
