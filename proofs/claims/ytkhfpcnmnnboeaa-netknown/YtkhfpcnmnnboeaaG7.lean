/- adjsMayBe, recordMayBe. -/
import Derived.Test.YtkhfpcnmnnboeaaG6
namespace Go.Proofs.Ytkhfpcnmnnboeaa
open Go.RowKit

/-- A record's cells, its neighbours' slice at the end. -/
abbrev rcc (x : Rc × Value) : List Value := [.int .i64 x.1.origin, .int .u32 x.1.epoch, .int .u32 x.1.seq, .int .i64 x.1.claim, .bool x.1.ing, x.2]
abbrev recV (r : Rc) (va : Value) : Value := .agg #[.int .i64 r.origin, .int .u32 r.epoch, .int .u32 r.seq, .int .i64 r.claim, .bool r.ing, va]
end Go.Proofs.Ytkhfpcnmnnboeaa
