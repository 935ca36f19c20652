/- dandelionlaw02.works. -/
import Derived.Test.YtgaagggcilchbaaK7
import Derived.Test.YtgaagggcilchbaaK8
namespace Go.Proofs.Ytgaagggcilchbaa
open Go.RowKit

theorem put_w (w : World) : Calls Try.prog 10 #[.string ⟨#[97]⟩, .int .u64 258, .int .i64 2] w fun e w' => e = .returned (.tuple #[.string ⟨#[97, 1, 2]⟩, .int .i64 0]) ∧ Below w.heap.size w w' := by
  refine (put_ok2 ⟨#[97]⟩ 258 (by decide) (by decide) (by decide) w).mono ?_
  rintro e w' ⟨rfl, hb⟩
  exact ⟨by rw [show (⟨#[97]⟩ : ByteArray) ++ strOfNums (layN 258 2) = ⟨#[97, 1, 2]⟩ from by decide], hb⟩
theorem take_w (w : World) : Calls Try.prog 11 #[.string ⟨#[97, 1, 2]⟩, .int .i64 1, .int .i64 2] w fun e w' => e = .returned (.tuple #[.int .u64 258, .int .i64 0]) ∧ w' = w := by
  refine (take_ok ⟨#[97, 1, 2]⟩ 1 2 (by decide) (by decide) (by decide) w).mono ?_
  rintro e w' ⟨rfl, hb⟩
  exact ⟨by rw [show tk ⟨#[97, 1, 2]⟩ 1 2 = 258 from by decide]; rfl, hb⟩
theorem putVar_w (w : World) : Calls Try.prog 12 #[.string ⟨#[]⟩, .int .u64 300] w fun e w' => e = .returned (.string ⟨#[172, 2]⟩) ∧ Below w.heap.size w w' := by
  refine (putVar_any ⟨#[]⟩ 300 (by decide) (by decide) w).mono ?_
  rintro e w' ⟨rfl, hb⟩
  refine ⟨?_, hb⟩
  rw [pvL_hi (by decide), pvL_lo (by decide)]
  rfl
theorem sum_w (b cap : Nat) (w : World) (hc : w.cell? ⟨b, 0, none⟩ = some (.string ⟨#[49, 50, 51, 52, 53, 54, 55, 56, 57]⟩)) :
    Calls Try.prog 18 #[.slice (some ⟨b, 0, none⟩) 1 cap] w fun e w' => e = .returned (.int .u16 10673) ∧ w' = w := by
  refine (sum_any (fun _ => ⟨#[49, 50, 51, 52, 53, 54, 55, 56, 57]⟩) 1 b 0 cap (by decide) (fun _ _ => by decide) w (fun i hi => ?_)).mono ?_
  · obtain rfl : i = 0 := by omega
    exact hc
  · rintro e w' ⟨rfl, hb⟩
    exact ⟨ret_int (by kernel_rfl), hb⟩

set_option maxHeartbeats 400000 in
theorem works_any (w : World) : Calls Try.prog 9 #[] w fun e w' => e = .returned (.bool true) ∧ Below w.heap.size w w' := by
  go_enter Try.func9, Try.ntmps9
  go_wp2_with (first
    | (go_at_call 10; refine (put_w _).mono ?_; rintro e w1 ⟨rfl, hb1⟩)
    | (go_at_call 11; refine (take_w _).mono ?_; rintro e w2 ⟨rfl, rfl⟩)
    | (go_at_call 18; refine (sum_w _ _ _ ?_).mono ?_; (simp); rintro e w3 ⟨rfl, rfl⟩)
    | (go_at_call 12; refine (putVar_w _).mono ?_; rintro e w4 ⟨rfl, hb4⟩))
  go_ret
  have h1 := hb1.size
  exact ⟨rfl, (hb1.alloc h1 _).trans (hb4.mono (by simp; omega))⟩
end Go.Proofs.Ytgaagggcilchbaa
