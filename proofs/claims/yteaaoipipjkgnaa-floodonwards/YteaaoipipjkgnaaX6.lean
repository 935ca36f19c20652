/- The law's works. -/
import Derived.Test.YteaaoipipjkgnaaX5
import Derived.Test.YteaaoipipjkgnaaGC
namespace Go.Proofs.Yteaaoipipjkgnaa
open Go.RowKit

def exR : Rc := ⟨1, 1, 2, 258, true, [(2, 5)]⟩
def exB : ByteArray := ⟨#[1, 0, 0, 0, 1, 0, 0, 0, 2, 1, 2, 1, 1, 2, 0, 5]⟩
theorem ex_en : enA exR = (exB, 0) := by
  have h : recOk exR = true := by decide
  unfold enA
  rw [h]
  show (encS exR, (0 : Int)) = (exB, 0)
  rw [show encS exR = exB from ext_data (by rw [encS_data]; rfl)]
theorem exR_b : RcB exR := ⟨by decide, by decide, by decide, by decide⟩
theorem ex_de : deA exB = (exR, 0) := by
  have h : recOk exR = true := by decide
  have he : encS exR = exB := ext_data (by rw [encS_data]; rfl)
  unfold deA
  rw [← he, enc_ok h exR_b, (rd_enc h exR_b).1]
  rfl
end Go.Proofs.Yteaaoipipjkgnaa
