/- bits.Bytes where it refuses. -/
import Derived.Test.YtgfmlonhjmdfjaaDoorW7
namespace Go.Proofs.YtgfmlonhjmdfjaaDoor
open Go.RowKit

set_option maxHeartbeats 400000 in
theorem bytes_arg (N : Nat) (width : Int) (h : width < 8 ∨ 256 < width ∨ width % 8 ≠ 0) (w : World) :
    Calls Tryd.prog 43 #[bs N, .int .i64 width] w fun e w' => e = .returned (.tuple #[.string ⟨#[]⟩, .int .i64 2]) ∧ Below w.heap.size w w' := by
  unfold bs
  by_cases h0 : width < 8
  · have h0' : decide (width < 8) = true := by simpa using h0
    clear h
    go_enter Tryd.func43, Tryd.ntmps43
    go_wp2
    go_ret2
    exact ⟨rfl, by go_grown⟩
  · have h0' : 8 ≤ width := by omega
    by_cases h1 : 256 < width
    · have h1' : decide (256 < width) = true := by simpa using h1
      clear h
      go_enter Tryd.func43, Tryd.ntmps43
      go_wp2
      go_ret2
      exact ⟨rfl, by go_grown⟩
    · have h1' : width ≤ 256 := by omega
      have h2 : width % 8 ≠ 0 := by omega
      have h3 : (width % 8 != 0) = true := by simpa using h2
      clear h h0 h1
      go_enter Tryd.func43, Tryd.ntmps43
      go_wp2
      go_ret2
      exact ⟨rfl, by go_grown⟩

set_option maxHeartbeats 400000 in
theorem bytes_long (N n : Nat) (hN : N < 2 ^ 256) (h1 : 1 ≤ n) (h2 : n ≤ 32) (hb : 8 * n < bl N) (w : World) :
    Calls Tryd.prog 43 #[bs N, .int .i64 (8 * (n : Int))] w fun e w' => e = .returned (.tuple #[.string ⟨#[]⟩, .int .i64 3]) ∧ Below w.heap.size w w' := by
  unfold bs
  go_enter Tryd.func43, Tryd.ntmps43
  go_wp2_with (go_at_call 20; refine (below_no N hN (8 * (n : Int)) (by omega) _).mono ?_; rintro e w1 ⟨rfl, hb1⟩)
  go_ret2
  exact ⟨rfl, Below.trans ((Below.refl _ w).alloc (Nat.le_refl _) _) (hb1.mono (by simp))⟩
end Go.Proofs.YtgfmlonhjmdfjaaDoor
