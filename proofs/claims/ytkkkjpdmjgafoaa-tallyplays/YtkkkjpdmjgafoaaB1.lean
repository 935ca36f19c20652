/- bits.Bytes: a bit string as bytes. -/
import Derived.Test.YtkkkjpdmjgafoaaW7
import Derived.Test.YtkkkjpdmjgafoaaW5
import Derived.Laws.BytesArg
import Derived.Deep.OwnRows
namespace Go.Proofs.Ytkkkjpdmjgafoaa.Bi
open Go.RowKit

/-- The byte i of a number. -/
def byteOf (N i : Nat) : Nat := N / 2 ^ (8 * i) % 256
theorem byte_word (N k : Nat) : wd N (k / 8) / 2 ^ (k % 8 * 8) % 256 = byteOf N k := by
  unfold wd byteOf
  apply Nat.eq_of_testBit_eq
  intro j
  rw [show (256 : Nat) = 2 ^ 8 from rfl]
  simp only [Nat.testBit_mod_two_pow, Nat.testBit_div_two_pow]
  by_cases hj : j < 8
  · have h1 : j + k % 8 * 8 < 64 := by omega
    have h2 : j + k % 8 * 8 + 64 * (k / 8) = j + 8 * k := by omega
    simp [hj, h1, h2]
  · simp [hj]
theorem infoByte : (Try.prog.info? 5).map (fun i => (i.zero, i.size, i.bytes)) = some (some (.int .u8 0), 1, 1) := by kernel_rfl

end Go.Proofs.Ytkkkjpdmjgafoaa.Bi
