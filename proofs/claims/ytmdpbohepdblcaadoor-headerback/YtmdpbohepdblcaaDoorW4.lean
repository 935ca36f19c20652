/- bits.Count, bits.Lowest, bits.highest, bits.Below: the walks. -/
import Derived.Test.YtmdpbohepdblcaaDoorW3
import Derived.Test.YtmdpbohepdblcaaDoorC1
namespace Go.Proofs.YtmdpbohepdblcaaDoor
open Go.RowKit

theorem cnt256 (N : Nat) : cntTo 256 N = cntTo 64 (wd N 0) + cntTo 64 (wd N 1) + cntTo 64 (wd N 2) + cntTo 64 (wd N 3) := by
  have k : ∀ i, cntTo 64 (wd N i) = cntTo 64 (N / 2 ^ (64 * i)) := fun i => cntTo_mod 64 _
  rw [k, k, k, k, show 256 = 64 + (64 + (64 + 64)) from rfl]
  simp only [cntTo_add, Nat.div_div_eq_div_mul]
  have e : N / 2 ^ (64 * 0) = N := by simp
  rw [e]
  simp only [← Nat.pow_add, Nat.add_assoc]

end Go.Proofs.YtmdpbohepdblcaaDoor
