/- dandelionref02.size, Put. -/
import Derived.Test.YtgaagggcilchbaaK7
namespace Go.Proofs.Ytgaagggcilchbaa
open Go.RowKit

theorem ext_bytes' {a b : ByteArray} (h : a.data.toList = b.data.toList) : a = b := by
  cases a; cases b; simp at h; simp [h]
theorem str_app (b : ByteArray) (l m : List Int) : b ++ strOfNums l ++ strOfNums m = b ++ strOfNums (l ++ m) := by
  apply ext_bytes'
  simp [strOfNums_data]
theorem str_nil (b : ByteArray) : b ++ strOfNums [] = b := by
  apply ext_bytes'
  simp [strOfNums_data]
theorem conv_one (W : World) (x : Int) (T : TypeId) : (convert 36 9 (.slice (some ⟨W.heap.size, 0, none⟩) 1 1)).run Try.prog (W.alloc (.cells #[.int .u8 x] T)) = .ok (.string (strOfNums [x])) (W.alloc (.cells #[.int .u8 x] T)) := by
  refine run_convert_bytes_arg _ 36 5 Try.underlying36 Try.underlying5 W.heap.size 0 1 1 [x] rfl (fun i hi => ?_) 9 Try.underlying9
  obtain rfl : i = 0 := by omega
  simp

/-- A number laid in n bytes, the highest first. -/
def layD (v : Nat) : Nat → List Int
  | 0 => []
  | m + 1 => ((v / 2 ^ (8 * m) % 256 : Nat) : Int) :: layD v m
theorem layD_len (v n : Nat) : (layD v n).length = n := by
  induction n with
  | zero => rfl
  | succ n ih => simp [layD, ih]
theorem layN_layD (v n : Nat) (hn : n = 1 ∨ n = 2 ∨ n = 4 ∨ n = 8) : layN v n = layD v n := by
  rcases hn with rfl | rfl | rfl | rfl <;> simp [layN, layD, List.range_succ]
end Go.Proofs.Ytgaagggcilchbaa
