/- header.within, inRange: a header as a value. -/
import Derived.Test.YtjcbbifjhoemaaaDoorH1
import Derived.Test.YtjcbbifjhoemaaaDoorW5
namespace Go.Proofs.YtjcbbifjhoemaaaDoor
open Go.RowKit

/-- A header as a value. -/
abbrev hd (W S E H O G I : Int) (N : Nat) : Value :=
  .agg #[.int .i64 W, .int .i64 S, .int .u32 E, .int .i64 H, .int .i64 O, .int .i64 G, .int .u32 I, .int .u64 (wd N 0), .int .u64 (wd N 1), .int .u64 (wd N 2), .int .u64 (wd N 3)]
/-- A number brought between two. -/
def within (n a b : Int) : Int := min (max n a) b

end Go.Proofs.YtjcbbifjhoemaaaDoor
