/- The contracts of And, Or, AndNot, only, over one number a bit string. -/
import Derived.Test.YtkkkjpdmjgafoaaW2
import Derived.Test.YtkkkjpdmjgafoaaM1
namespace Go.Proofs.Ytkkkjpdmjgafoaa.Bi
open Go.RowKit

/-- A bit string as a value. -/
abbrev bs (N : Nat) : Value := .agg #[.int .u64 (wd N 0), .int .u64 (wd N 1), .int .u64 (wd N 2), .int .u64 (wd N 3)]

end Go.Proofs.Ytkkkjpdmjgafoaa.Bi
