/- The law BitsPairs, walked. -/
import Derived.Test.YtjpnbjfomikhaaaDoorWK
import Derived.Test.YtjpnbjfomikhaaaDoorR2
namespace Go.Proofs.YtjpnbjfomikhaaaDoor
open Go.RowKit

theorem eq_same (X : Nat) (w : World) : (Op.equalIn 10000 24 (.agg #[.int .u64 (wd X 0), .int .u64 (wd X 1), .int .u64 (wd X 2), .int .u64 (wd X 3)]) (.agg #[.int .u64 (wd X 0), .int .u64 (wd X 1), .int .u64 (wd X 2), .int .u64 (wd X 3)])).run Tryd.prog w = Result.ok true w := by
  rw [eq_bits]; simp

end Go.Proofs.YtjpnbjfomikhaaaDoor
