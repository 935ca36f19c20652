/- works(): the law's three bits. -/
import Derived.Test.YtmdpbohepdblcaaDoorT1
import Derived.Test.YtmdpbohepdblcaaDoorB1
import Derived.Lib.QuietBelow
import Derived.BigQuiet
namespace Go.Proofs.YtmdpbohepdblcaaDoor
open Go.RowKit

theorem ofl_works : ofl [1, 10] = 513 := by decide
theorem lst_513 : lst 513 = [0, 9] := by decide +kernel
theorem cnt_513 : cntTo 256 513 = 2 := by decide +kernel
theorem txt_513 : (txt (lst 513)).toArray = #[49, 32, 49, 48] := by
  rw [lst_513]
  have e1 : num 0 = [49] := by unfold num; rw [Lib.decDigits]; rfl
  have e2 : num 9 = [49, 48] := by unfold num; rw [Lib.decDigits, Lib.decDigits]; rfl
  simp [txt, e1, e2, Lib.join, List.intercalate]
theorem bytes_513 : strOfNums ((List.range 2).map fun i => ((byteOf 513 i : Nat) : Int)) = ⟨#[1, 2]⟩ := by decide +kernel

end Go.Proofs.YtmdpbohepdblcaaDoor
