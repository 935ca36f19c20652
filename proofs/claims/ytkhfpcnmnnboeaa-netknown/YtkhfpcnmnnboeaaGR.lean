/- has; a record more behind an own row. -/
import Derived.Test.YtkhfpcnmnnboeaaGF
import Derived.Test.YtkhfpcnmnnboeaaGQ
namespace Go.Proofs.Ytkhfpcnmnnboeaa
open Go.RowKit

theorem hasE_drop {es : List Ed} {k : Nat} {x y c a b : Int} (h : es[k]? = some (x, y, c)) : hasE (es.drop k) a b = ((decide (x = a) && decide (y = b)) || hasE (es.drop (k + 1)) a b) := by
  rw [drop_next h, hasE, List.any_cons]
  rfl
end Go.Proofs.Ytkhfpcnmnnboeaa
