/- The contracts of And, Or, AndNot, only, over one number a bit string. -/
import Derived.Test.YtgfmlonhjmdfjaaDoorW2
import Derived.Test.YtgfmlonhjmdfjaaDoorM1
namespace Go.Proofs.YtgfmlonhjmdfjaaDoor
open Go.RowKit

/-- A bit string as a value. -/
abbrev bs (N : Nat) : Value := .agg #[.int .u64 (wd N 0), .int .u64 (wd N 1), .int .u64 (wd N 2), .int .u64 (wd N 3)]

end Go.Proofs.YtgfmlonhjmdfjaaDoor
