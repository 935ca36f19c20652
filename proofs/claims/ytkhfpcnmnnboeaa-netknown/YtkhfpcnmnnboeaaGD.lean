/- Lists compared one by one: slices.Equal, SameInts, SameAdjs. -/
import Derived.Test.YtkhfpcnmnnboeaaGC
namespace Go.Proofs.Ytkhfpcnmnnboeaa
open Go.RowKit

theorem dropEq {α : Type} [DecidableEq α] {a b : List α} {k : Nat} {x y : α} (hx : a[k]? = some x) (hy : b[k]? = some y) : decide (a.drop k = b.drop k) = (decide (x = y) && decide (a.drop (k + 1) = b.drop (k + 1))) := by
  rw [drop_next hx, drop_next hy]
  by_cases h : x = y <;> simp [h]
end Go.Proofs.Ytkhfpcnmnnboeaa
