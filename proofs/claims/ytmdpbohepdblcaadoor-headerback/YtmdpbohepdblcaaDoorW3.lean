/- math/bits.OnesCount64: how many bits are set. -/
import Derived.Test.YtmdpbohepdblcaaDoorW1
import Derived.Test.YtmdpbohepdblcaaDoorM2
namespace Go.Proofs.YtmdpbohepdblcaaDoor
open Go.RowKit

theorem and_i64_127 (x : Nat) (h : x < 9223372036854775808) : bits .and .i64 (wrap64 (x : Int)) 127 = ((x % 128 : Nat) : Int) := by
  have e : wrap64 (x : Int) = (x : Int) := by unfold wrap64; omega
  rw [e]
  show IntKind.i64.wrap ((BitVec.ofInt 64 (x : Int) &&& BitVec.ofInt 64 ((127 : Nat) : Int)).toNat : Int) = _
  rw [BitVec.toNat_and, ofInt_u64 x (by omega), ofInt_u64 127 (by omega), show (127 : Nat) = 2 ^ 7 - 1 from rfl, Nat.and_two_pow_sub_one_eq_mod]
  rw [IntKind.wrap_i64]
  omega

end Go.Proofs.YtmdpbohepdblcaaDoor
