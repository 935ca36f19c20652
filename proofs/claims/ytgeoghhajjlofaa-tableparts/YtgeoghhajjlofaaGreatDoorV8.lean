/- slices.Compare. -/
import Derived.Test.YtgeoghhajjlofaaGreatDoorV7
namespace Go.Proofs.YtgeoghhajjlofaaGreatDoor
open Go.RowKit

/-- Which list is ahead: by the first place at which they are unlike; a beginning is ahead. -/
def cmpL : List Int → List Int → Int
  | [], [] => 0
  | [], _ :: _ => -1
  | _ :: _, [] => 1
  | a :: l, b :: m => if a < b then -1 else if b < a then 1 else cmpL l m
theorem isNaN_any (x : Int) (w : World) : Calls Tryz.prog 109 #[.int .i64 x] w fun e w' => e = .returned (.bool false) ∧ w' = w := by
  go_enter Tryz.func109, Tryz.ntmps109
  go_wp2
  go_ret
  exact ⟨by simp, rfl⟩
theorem cmpI_any (x y : Int) (w : World) : Calls Tryz.prog 70 #[.int .i64 x, .int .i64 y] w fun e w' => e = .returned (.int .i64 (if x < y then -1 else if y < x then 1 else 0)) ∧ w' = w := by
  by_cases h1 : x < y
  · go_enter Tryz.func70, Tryz.ntmps70
    go_wp2_with (go_at_call 109; refine (isNaN_any _ _).mono ?_; rintro e w1 ⟨rfl, hw1⟩; rw [hw1]; clear hw1 w1)
    go_ret
    exact ⟨rfl, rfl⟩
  · by_cases h2 : y < x
    · go_enter Tryz.func70, Tryz.ntmps70
      go_wp2_with (go_at_call 109; refine (isNaN_any _ _).mono ?_; rintro e w1 ⟨rfl, hw1⟩; rw [hw1]; clear hw1 w1)
      go_ret
      exact ⟨rfl, rfl⟩
    · go_enter Tryz.func70, Tryz.ntmps70
      go_wp2_with (go_at_call 109; refine (isNaN_any _ _).mono ?_; rintro e w1 ⟨rfl, hw1⟩; rw [hw1]; clear hw1 w1)
      go_ret
      exact ⟨rfl, rfl⟩
end Go.Proofs.YtgeoghhajjlofaaGreatDoor
