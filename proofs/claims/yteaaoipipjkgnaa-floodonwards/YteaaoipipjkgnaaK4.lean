/- wire.Sum. -/
import Derived.Test.YteaaoipipjkgnaaK3
namespace Go.Proofs.Yteaaoipipjkgnaa.Wi
open Go.RowKit

/-- The sum of the first k strings. -/
def sumF (ss : Nat → ByteArray) : Nat → Nat
  | 0 => 65535
  | k + 1 => crc (sumF ss k) (ss k).data.toList
theorem sumF_lt (ss : Nat → ByteArray) (k : Nat) : sumF ss k < 65536 := by
  induction k with
  | zero => show 65535 < 65536; decide
  | succ k ih => exact crc_lt ih _
theorem take_snoc (s : ByteArray) (k : Nat) (h : k < s.size) : s.data.toList.take (k + 1) = s.data.toList.take k ++ [s[k]] := by
  rw [List.take_succ_eq_append_getElem (by simpa using h)]; rfl
theorem crc_take (S : Nat) (s : ByteArray) (k : Nat) (h : k < s.size) : crc S (s.data.toList.take (k + 1)) = add1 (crc S (s.data.toList.take k)) s[k].toNat := by
  rw [take_snoc s k h, crc_append, crc_one]

end Go.Proofs.Yteaaoipipjkgnaa.Wi
