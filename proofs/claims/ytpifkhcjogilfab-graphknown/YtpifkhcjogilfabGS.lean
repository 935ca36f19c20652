/- The document's Router, has, Check. -/
import Derived.Test.YtpifkhcjogilfabGF
import Derived.Test.YtpifkhcjogilfabGQ
namespace Go.Proofs.Ytpifkhcjogilfab
open Go.RowKit

def lastN (ns : List Int) : Nat → Int
  | 0 => 0
  | k + 1 => ns[k]?.getD 0
def lastE (es : List Ed) : Nat → Ed
  | 0 => (0, 0, 0)
  | k + 1 => es[k]?.getD (0, 0, 0)
def ckC (ns : List Int) (es : List Ed) : Int := if graphOk ns es = true then 0 else 2
theorem ckC_no {ns : List Int} {es : List Ed} (h : graphOk ns es = false) : ckC ns es = 2 := by unfold ckC; rw [h]; rfl
theorem ckC_yes {ns : List Int} {es : List Ed} (h : graphOk ns es = true) : ckC ns es = 0 := by unfold ckC; rw [h]; rfl
end Go.Proofs.Ytpifkhcjogilfab
