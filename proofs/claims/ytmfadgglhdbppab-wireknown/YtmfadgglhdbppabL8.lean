/- The law WireKnown, walked. -/
import Derived.Test.YtmfadgglhdbppabK16
import Derived.Test.YtmfadgglhdbppabK14
import Derived.Test.YtmfadgglhdbppabK11
namespace Go.Proofs.Ytmfadgglhdbppab
open Go.RowKit

theorem kw0 (w : World) : Calls Try.prog 10 #[.string ⟨#[]⟩, .int .u64 258, .int .i64 1] w fun e w' => e = .returned (.tuple #[.string ⟨#[]⟩, .int .i64 3]) ∧ w' = w := by
  exact put_long ⟨#[]⟩ 258 1 (by decide) (by decide) (by decide) w
theorem kw1 (w : World) : Calls Try.prog 10 #[.string ⟨#[]⟩, .int .u64 1, .int .i64 3] w fun e w' => e = .returned (.tuple #[.string ⟨#[]⟩, .int .i64 2]) ∧ w' = w := by
  exact put_arg ⟨#[]⟩ 1 3 (by decide) (by decide) (by decide) (by decide) w
theorem kw2 (w : World) : Calls Try.prog 11 #[.string ⟨#[1, 2, 3]⟩, .int .i64 1, .int .i64 2] w fun e w' => e = .returned (.tuple #[.int .u64 515, .int .i64 0]) ∧ w' = w := by
  refine (take_ok ⟨#[1, 2, 3]⟩ 1 2 (by decide) (by decide) (by decide) w).mono ?_
  rintro e w' ⟨rfl, h⟩
  exact ⟨by kernel_rfl, h⟩
theorem kw3 (w : World) : Calls Try.prog 11 #[.string ⟨#[1]⟩, .int .i64 0, .int .i64 2] w fun e w' => e = .returned (.tuple #[.int .u64 0, .int .i64 4]) ∧ w' = w := by
  exact take_form ⟨#[1]⟩ 0 2 (by decide) (by decide) (by decide) w
theorem kw4 (w : World) : Calls Try.prog 11 #[.string ⟨#[1]⟩, .int .i64 (-1), .int .i64 1] w fun e w' => e = .returned (.tuple #[.int .u64 0, .int .i64 4]) ∧ w' = w := by
  exact take_form ⟨#[1]⟩ (-1) 1 (by decide) (by decide) (by decide) w
theorem kw5 (w : World) : Calls Try.prog 11 #[.string ⟨#[1]⟩, .int .i64 4611686018427387904, .int .i64 1] w fun e w' => e = .returned (.tuple #[.int .u64 0, .int .i64 4]) ∧ w' = w := by
  exact take_form ⟨#[1]⟩ 4611686018427387904 1 (by decide) (by decide) (by decide) w
theorem kw6 (w : World) : Calls Try.prog 12 #[.string ⟨#[255, 255, 255, 255, 255, 255, 255, 255, 255, 1]⟩, .int .i64 0] w fun e w' => e = .returned (.tuple #[.int .u64 18446744073709551615, .int .i64 10, .int .i64 0]) ∧ w' = w := by
  refine (takeVar_any ⟨#[255, 255, 255, 255, 255, 255, 255, 255, 255, 1]⟩ (by decide) 0 (by decide) w).mono ?_
  rintro e w' ⟨rfl, h⟩
  exact ⟨by kernel_rfl, h⟩
theorem kw7 (w : World) : Calls Try.prog 12 #[.string ⟨#[128, 0]⟩, .int .i64 0] w fun e w' => e = .returned (.tuple #[.int .u64 0, .int .i64 0, .int .i64 4]) ∧ w' = w := by
  refine (takeVar_any ⟨#[128, 0]⟩ (by decide) 0 (by decide) w).mono ?_
  rintro e w' ⟨rfl, h⟩
  exact ⟨by kernel_rfl, h⟩
theorem kw8 (w : World) : Calls Try.prog 12 #[.string ⟨#[128]⟩, .int .i64 0] w fun e w' => e = .returned (.tuple #[.int .u64 0, .int .i64 0, .int .i64 4]) ∧ w' = w := by
  refine (takeVar_any ⟨#[128]⟩ (by decide) 0 (by decide) w).mono ?_
  rintro e w' ⟨rfl, h⟩
  exact ⟨by kernel_rfl, h⟩
theorem kw9 (w : World) : Calls Try.prog 12 #[.string ⟨#[255, 255, 255, 255, 255, 255, 255, 255, 255, 255, 1]⟩, .int .i64 0] w fun e w' => e = .returned (.tuple #[.int .u64 0, .int .i64 0, .int .i64 4]) ∧ w' = w := by
  refine (takeVar_any ⟨#[255, 255, 255, 255, 255, 255, 255, 255, 255, 255, 1]⟩ (by decide) 0 (by decide) w).mono ?_
  rintro e w' ⟨rfl, h⟩
  exact ⟨by kernel_rfl, h⟩
theorem kw10 (w : World) : Calls Try.prog 12 #[.string ⟨#[255, 255, 255, 255, 255, 255, 255, 255, 255, 2]⟩, .int .i64 0] w fun e w' => e = .returned (.tuple #[.int .u64 0, .int .i64 0, .int .i64 4]) ∧ w' = w := by
  refine (takeVar_any ⟨#[255, 255, 255, 255, 255, 255, 255, 255, 255, 2]⟩ (by decide) 0 (by decide) w).mono ?_
  rintro e w' ⟨rfl, h⟩
  exact ⟨by kernel_rfl, h⟩
theorem pv_most : (⟨#[]⟩ : ByteArray).data.toList ++ (strOfNums (pvL 18446744073709551615)).data.toList = (⟨#[255, 255, 255, 255, 255, 255, 255, 255, 255, 1]⟩ : ByteArray).data.toList := by
  rw [pvL_hi (by decide), pvL_hi (by decide), pvL_hi (by decide), pvL_hi (by decide), pvL_hi (by decide), pvL_hi (by decide), pvL_hi (by decide), pvL_hi (by decide), pvL_hi (by decide), pvL_lo (by decide)]
  decide +kernel
theorem pv_zero : (⟨#[]⟩ : ByteArray).data.toList ++ (strOfNums (pvL 0)).data.toList = (⟨#[0]⟩ : ByteArray).data.toList := by
  rw [pvL_lo (by decide)]
  decide +kernel
theorem kw11 (w : World) : Calls Try.prog 13 #[.string ⟨#[]⟩, .int .u64 18446744073709551615] w fun e w' => e = .returned (.string ⟨#[255, 255, 255, 255, 255, 255, 255, 255, 255, 1]⟩) ∧ Below w.heap.size w w' := by
  refine (putVar_any ⟨#[]⟩ 18446744073709551615 (by decide) (by decide) w).mono ?_
  rintro e w' ⟨rfl, h⟩
  exact ⟨congrArg (fun s => Ending.returned (Value.string s)) (ext_bytes (show ((⟨#[]⟩ : ByteArray) ++ strOfNums (pvL 18446744073709551615)).data.toList = _ from by rw [app_toList]; exact pv_most)), h⟩
theorem kw12 (w : World) : Calls Try.prog 13 #[.string ⟨#[]⟩, .int .u64 0] w fun e w' => e = .returned (.string ⟨#[0]⟩) ∧ Below w.heap.size w w' := by
  refine (putVar_any ⟨#[]⟩ 0 (by decide) (by decide) w).mono ?_
  rintro e w' ⟨rfl, h⟩
  exact ⟨congrArg (fun s => Ending.returned (Value.string s)) (ext_bytes (show ((⟨#[]⟩ : ByteArray) ++ strOfNums (pvL 0)).data.toList = _ from by rw [app_toList]; exact pv_zero)), h⟩
theorem kw13 (w : World) : Calls Try.prog 9 #[.string ⟨#[255, 255]⟩] w fun e w' => e = .returned (.tuple #[.string ⟨#[]⟩, .int .i64 0]) ∧ Below w.heap.size w w' := by
  have e : (⟨#[255, 255]⟩ : ByteArray) = sealS ⟨#[]⟩ := by decide +kernel
  rw [e]
  exact open_ok ⟨#[]⟩ (by decide) w
theorem kw14 (w : World) : Calls Try.prog 9 #[.string ⟨#[255]⟩] w fun e w' => e = .returned (.tuple #[.string ⟨#[]⟩, .int .i64 4]) ∧ w' = w := by
  exact open_short ⟨#[255]⟩ (by decide) w
theorem kw15 (w : World) : Calls Try.prog 9 #[.string ⟨#[0, 255, 255]⟩] w fun e w' => e = .returned (.tuple #[.string ⟨#[]⟩, .int .i64 5]) ∧ Below w.heap.size w w' := by
  exact open_sum ⟨#[0, 255, 255]⟩ (by decide) (by decide) (by decide +kernel) w
theorem kw16 (w : World) : Calls Try.prog 14 #[.string ⟨#[54, 49, 55, 97]⟩] w fun e w' => e = .returned (.tuple #[.string ⟨#[97, 122]⟩, .int .i64 0]) ∧ Below w.heap.size w w' := by
  refine (unhex_even ⟨#[54, 49, 55, 97]⟩ 2 (by decide) (by decide) w).mono ?_
  rintro e w' ⟨rfl, h⟩
  exact ⟨by kernel_rfl, h⟩
theorem kw17 (w : World) : Calls Try.prog 14 #[.string ⟨#[54]⟩] w fun e w' => e = .returned (.tuple #[.string ⟨#[]⟩, .int .i64 4]) ∧ Below w.heap.size w w' := by
  exact unhex_odd ⟨#[54]⟩ (by decide) (by decide) w
theorem kw18 (w : World) : Calls Try.prog 14 #[.string ⟨#[54, 65]⟩] w fun e w' => e = .returned (.tuple #[.string ⟨#[]⟩, .int .i64 4]) ∧ Below w.heap.size w w' := by
  refine (unhex_even ⟨#[54, 65]⟩ 1 (by decide) (by decide) w).mono ?_
  rintro e w' ⟨rfl, h⟩
  exact ⟨by kernel_rfl, h⟩
theorem kw19 (w : World) : Calls Try.prog 6 #[] w fun e w' => e = .returned (.bool true) ∧ Below w.heap.size w w' := by
  exact works_any w
theorem kw20 (w : World) : Calls Try.prog 7 #[.slice none 0 0] w fun e w' => e = .returned (.int .u16 65535) ∧ w' = w := by
  exact sum_nil w
theorem kw21 (w : World) : Calls Try.prog 8 #[.string ⟨#[]⟩] w fun e w' => e = .returned (.string ⟨#[255, 255]⟩) ∧ Below w.heap.size w w' := by
  refine (seal_any ⟨#[]⟩ (by decide) w).mono ?_
  rintro e w' ⟨rfl, h⟩
  exact ⟨by kernel_rfl, h⟩
theorem kw22 (w : World) : Calls Try.prog 15 #[.string ⟨#[97, 122]⟩] w fun e w' => e = .returned (.string ⟨#[54, 49, 55, 97]⟩) ∧ Below w.heap.size w w' := by
  refine (hex_any ⟨#[97, 122]⟩ (by decide) w).mono ?_
  rintro e w' ⟨rfl, h⟩
  exact ⟨by kernel_rfl, h⟩

set_option maxRecDepth 100000 in
set_option maxHeartbeats 4000000 in
theorem known_walk (w : World) : Calls Try.prog 5 #[] w fun e w' => e = .returned (.bool true) ∧ Below w.heap.size w w' := by
  go_enter Try.func5, Try.ntmps5
  have B := Below.refl w.heap.size w
  go_wp2_with fail
  refine (kw0 _).mono ?_
  rintro e w1 ⟨rfl, rfl⟩
  go_wp2_with fail
  refine (kw1 _).mono ?_
  rintro e w1 ⟨rfl, rfl⟩
  go_wp2_with fail
  refine (kw2 _).mono ?_
  rintro e w1 ⟨rfl, rfl⟩
  go_wp2_with fail
  refine (kw3 _).mono ?_
  rintro e w1 ⟨rfl, rfl⟩
  go_wp2_with fail
  refine (kw4 _).mono ?_
  rintro e w1 ⟨rfl, rfl⟩
  go_wp2_with fail
  refine (kw5 _).mono ?_
  rintro e w1 ⟨rfl, rfl⟩
  go_wp2_with fail
  refine (kw6 _).mono ?_
  rintro e w1 ⟨rfl, rfl⟩
  go_wp2_with fail
  refine (kw7 _).mono ?_
  rintro e w1 ⟨rfl, rfl⟩
  go_wp2_with fail
  refine (kw8 _).mono ?_
  rintro e w1 ⟨rfl, rfl⟩
  go_wp2_with fail
  refine (kw9 _).mono ?_
  rintro e w1 ⟨rfl, rfl⟩
  go_wp2_with fail
  refine (kw10 _).mono ?_
  rintro e w1 ⟨rfl, rfl⟩
  go_wp2_with fail
  refine (kw11 _).mono ?_
  rintro e w1 ⟨rfl, b1⟩
  replace B := B.trans (b1.mono B.size)
  clear b1
  go_wp2_with fail
  refine (kw12 _).mono ?_
  rintro e w1 ⟨rfl, b1⟩
  replace B := B.trans (b1.mono B.size)
  clear b1
  go_wp2_with fail
  refine (kw13 _).mono ?_
  rintro e w1 ⟨rfl, b1⟩
  replace B := B.trans (b1.mono B.size)
  clear b1
  go_wp2_with fail
  refine (kw14 _).mono ?_
  rintro e w1 ⟨rfl, rfl⟩
  go_wp2_with fail
  refine (kw15 _).mono ?_
  rintro e w1 ⟨rfl, b1⟩
  replace B := B.trans (b1.mono B.size)
  clear b1
  go_wp2_with fail
  refine (kw16 _).mono ?_
  rintro e w1 ⟨rfl, b1⟩
  replace B := B.trans (b1.mono B.size)
  clear b1
  go_wp2_with fail
  refine (kw17 _).mono ?_
  rintro e w1 ⟨rfl, b1⟩
  replace B := B.trans (b1.mono B.size)
  clear b1
  go_wp2_with fail
  refine (kw18 _).mono ?_
  rintro e w1 ⟨rfl, b1⟩
  replace B := B.trans (b1.mono B.size)
  clear b1
  go_wp2_with fail
  refine (kw19 _).mono ?_
  rintro e w1 ⟨rfl, b1⟩
  replace B := B.trans (b1.mono B.size)
  clear b1
  go_wp2_with fail
  refine (kw20 _).mono ?_
  rintro e w1 ⟨rfl, rfl⟩
  go_wp2_with fail
  refine (kw21 _).mono ?_
  rintro e w1 ⟨rfl, b1⟩
  replace B := B.trans (b1.mono B.size)
  clear b1
  go_wp2_with fail
  refine (kw22 _).mono ?_
  rintro e w1 ⟨rfl, b1⟩
  replace B := B.trans (b1.mono B.size)
  clear b1
  go_wp2_with fail
  go_ret
  exact ⟨rfl, B⟩
end Go.Proofs.Ytmfadgglhdbppab
