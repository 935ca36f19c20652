/- The document's MayRecord. -/
import Derived.Test.YtpifkhcjogilfabGS
namespace Go.Proofs.Ytpifkhcjogilfab
open Go.RowKit

def lastA (l : List (Int × Int)) : Nat → Int
  | 0 => 0
  | k + 1 => (l[k]?.getD (0, 0)).1
theorem rec_no1 {r : Rc} (h : isR r.origin = false) : recOk r = false := by simp [recOk, h]
theorem rec_rest {r : Rc} (h1 : isR r.origin = true) (h2 : 0 < r.epoch) (h3 : 0 < r.seq) (h4 : 0 ≤ r.claim) (h5 : r.claim ≤ 1024) (h6 : r.adjs.length ≤ 16) : recOk r = adjsOk r.origin 0 r.adjs := by simp [recOk, h1, h2, h3, h4, h5, h6]

end Go.Proofs.Ytpifkhcjogilfab
