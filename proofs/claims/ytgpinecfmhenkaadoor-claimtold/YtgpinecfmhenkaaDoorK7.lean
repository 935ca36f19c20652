/- wire.Put, wire.Take, wire.PutVar. -/
import Derived.Test.YtgpinecfmhenkaaDoorK6
import Derived.Test.YtgpinecfmhenkaaDoorK4
namespace Go.Proofs.YtgpinecfmhenkaaDoor.Wi
open Go.RowKit

theorem layN_length (v n : Nat) : (layN v n).length = n := by unfold layN; simp
/-- The number in k bytes of b from a on. -/
def tk (b : ByteArray) (a : Nat) : Nat → Nat
  | 0 => 0
  | k + 1 => tk b a k * 256 + (b.data.toList.getD (a + k) 0).toNat
theorem tk_lt (b : ByteArray) (a k : Nat) : tk b a k < 256 ^ k := by
  induction k with
  | zero => show 0 < 1; decide
  | succ k ih =>
    have := (b.data.toList.getD (a + k) 0).toNat_lt
    simp only [tk]
    rw [Nat.pow_succ]
    omega
theorem byteAt (b : ByteArray) (i : Nat) (h : i < b.size) : b.data.toList.getD i 0 = b[i] := by
  rw [List.getD_eq_getElem?_getD, List.getElem?_eq_getElem (by simpa using h)]
  rfl
theorem or_byte (V c : Nat) (hV : V < 72057594037927936) (hc : c < 256) : bits .or .u64 ((V : Int) * 256) (c : Int) = ((V * 256 + c : Nat) : Int) := by
  rw [show (V : Int) * 256 = ((V * 256 : Nat) : Int) from by simp, u64_or_nat _ _ (by omega) (by omega), nat_join 8 _ _ (by omega) (by omega)]
end Go.Proofs.YtgpinecfmhenkaaDoor.Wi
