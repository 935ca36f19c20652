/- wire.Open. -/
import Derived.Test.YtgaagggcilchbaaK10
import Derived.Test.YtgaagggcilchbaaShelf
namespace Go.Proofs.Ytgaagggcilchbaa
open Go.RowKit

set_option maxHeartbeats 400000 in
theorem clone_any (s : ByteArray) (hs : s.size ≤ 281474976710656) (w : World) :
    Calls Try.prog 21 #[.string s] w fun e w' => e = .returned (.string s) ∧ Below w.heap.size w w' := by
  go_enter Try.func21, Try.ntmps21
  go_wp2_with (go_at_call 24; refine (Try.stringslite_Clone s _ hs).mono ?_; rintro e w1 ⟨rfl, hb1⟩)
  go_ret
  exact ⟨rfl, hb1⟩
set_option maxHeartbeats 400000 in
theorem open_short (b : ByteArray) (hb : b.size < 2) (w : World) :
    Calls Try.prog 14 #[.string b] w fun e w' => e = .returned (.tuple #[.string ⟨#[]⟩, .int .i64 4]) ∧ w' = w := by
  go_enter Try.func14, Try.ntmps14
  go_wp2
  go_ret2
  exact ⟨rfl, rfl⟩
/-- Two strings, as the walk holds one against the other. -/
theorem str_ne {a b : ByteArray} (h : a ≠ b) : (a.toList == b.toList) = false := by
  rw [ByteArray.toList_eq, ByteArray.toList_eq]
  exact beq_eq_false_iff_ne.2 fun e => h (ext_bytes e)
theorem str_eq {a b : ByteArray} (h : a = b) : (a.toList == b.toList) = true := by
  rw [h]; exact beq_self_eq_true _
theorem ahead_size (b : ByteArray) : (b.extract 0 (b.size - 2)).size = b.size - 2 := by simp
theorem ahead_seal (m : ByteArray) : (sealS m).extract 0 ((sealS m).size - 2) = m := by
  apply ext_bytes
  rw [sealS_size, Nat.add_sub_cancel, ByteArray.data_extract, Array.toList_extract]
  have h2 : m.data.toList.length = m.size := by simp
  rw [sealS_data, List.extract_eq_take_drop, List.drop_zero, Nat.sub_zero]
  unfold sealed
  rw [List.take_append_of_le_length (by omega), List.take_of_length_le (by omega)]
set_option maxHeartbeats 400000 in
theorem open_sum (b : ByteArray) (h2 : 2 ≤ b.size) (hb : b.size ≤ 1000000000000000) (hne : sealS (b.extract 0 (b.size - 2)) ≠ b) (w : World) :
    Calls Try.prog 14 #[.string b] w fun e w' => e = .returned (.tuple #[.string ⟨#[]⟩, .int .i64 5]) ∧ Below w.heap.size w w' := by
  have hs : (b.extract 0 (b.size - 2)).size ≤ 1000000000000000 := by rw [ahead_size]; omega
  have hq := str_ne hne
  go_enter Try.func14, Try.ntmps14
  go_wp2_with (go_at_call 15; refine (seal_any _ hs _).mono ?_; rintro e w1 ⟨rfl, hb1⟩)
  go_ret2
  exact ⟨rfl, hb1⟩
set_option maxHeartbeats 400000 in
theorem open_ok' (b : ByteArray) (h2 : 2 ≤ b.size) (hb : b.size ≤ 200000000000000) (he : sealS (b.extract 0 (b.size - 2)) = b) (w : World) :
    Calls Try.prog 14 #[.string b] w fun e w' => e = .returned (.tuple #[.string (b.extract 0 (b.size - 2)), .int .i64 0]) ∧ Below w.heap.size w w' := by
  have hs : (b.extract 0 (b.size - 2)).size ≤ 1000000000000000 := by rw [ahead_size]; omega
  have hs2 : (b.extract 0 (b.size - 2)).size ≤ 281474976710656 := by rw [ahead_size]; omega
  have hq := str_eq he
  have HE := hidIn he
  clear he
  go_enter Try.func14, Try.ntmps14
  go_wp2_with (first
    | (go_at_call 15; refine (seal_any _ hs _).mono ?_; rintro e w1 ⟨rfl, hb1⟩)
    | (go_at_call 21; refine (clone_any _ hs2 _).mono ?_; rintro e w2 ⟨rfl, hb2⟩))
  go_ret2
  exact ⟨rfl, hb1.trans (hb2.mono hb1.size)⟩
theorem open_ok (m : ByteArray) (hb : m.size ≤ 199999999999990) (w : World) :
    Calls Try.prog 14 #[.string (sealS m)] w fun e w' => e = .returned (.tuple #[.string m, .int .i64 0]) ∧ Below w.heap.size w w' := by
  have hs := sealS_size m
  have ha := ahead_seal m
  refine (open_ok' (sealS m) (by omega) (by omega) (by rw [ha]) w).mono ?_
  rw [ha]
  exact fun _ _ h => h
end Go.Proofs.Ytgaagggcilchbaa
