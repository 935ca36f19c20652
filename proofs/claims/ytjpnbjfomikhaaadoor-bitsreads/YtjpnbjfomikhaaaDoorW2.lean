/- The walks of only, isBit. -/
import Derived.Test.YtjpnbjfomikhaaaDoorW1
namespace Go.Proofs.YtjpnbjfomikhaaaDoor
open Go.RowKit

set_option maxHeartbeats 400000 in
theorem isBit_yes (n : Int) (h1 : 1 ≤ n) (h2 : n ≤ 256) (w : World) :
    Calls Tryd.prog 26 #[.int .i64 n] w fun e w' => e = .returned (.bool true) ∧ w' = w := by
  go_enter Tryd.func26, Tryd.ntmps26
  go_wp2
  go_ret
  exact ⟨rfl, rfl⟩

set_option maxHeartbeats 400000 in
theorem isBit_no (n : Int) (h : n < 1 ∨ 256 < n) (w : World) :
    Calls Tryd.prog 26 #[.int .i64 n] w fun e w' => e = .returned (.bool false) ∧ w' = w := by
  by_cases h1 : n < 1
  · go_enter Tryd.func26, Tryd.ntmps26
    go_wp2
    go_ret
    exact ⟨rfl, rfl⟩
  · have h2 : 256 < n := by omega
    have h3 : 1 ≤ n := by omega
    have h4 : decide (n ≤ 256) = false := by simp; omega
    clear h h1
    go_enter Tryd.func26, Tryd.ntmps26
    go_wp2
    go_ret
    exact ⟨rfl, rfl⟩

set_option maxHeartbeats 400000 in
theorem only_walk0 (m : Nat) (q : m / 64 = 0) (w : World) :
    Calls Tryd.prog 28 #[.int .i64 ((m : Int) + 1)] w fun e w' => e = .returned (.agg #[.int .u64 (IntKind.u64.wrap (2 ^ (m % 64))), .int .u64 0, .int .u64 0, .int .u64 0]) ∧ Below w.heap.size w w' := by
  have hb : m < 256 := by omega
  go_enter Tryd.func28, Tryd.ntmps28
  go_wp2
  go_returns
  exact ⟨rfl, by go_grown⟩

set_option maxHeartbeats 400000 in
theorem only_walk1 (m : Nat) (q : m / 64 = 1) (w : World) :
    Calls Tryd.prog 28 #[.int .i64 ((m : Int) + 1)] w fun e w' => e = .returned (.agg #[.int .u64 0, .int .u64 (IntKind.u64.wrap (2 ^ (m % 64))), .int .u64 0, .int .u64 0]) ∧ Below w.heap.size w w' := by
  have hb : m < 256 := by omega
  go_enter Tryd.func28, Tryd.ntmps28
  go_wp2
  go_returns
  exact ⟨rfl, by go_grown⟩

set_option maxHeartbeats 400000 in
theorem only_walk2 (m : Nat) (q : m / 64 = 2) (w : World) :
    Calls Tryd.prog 28 #[.int .i64 ((m : Int) + 1)] w fun e w' => e = .returned (.agg #[.int .u64 0, .int .u64 0, .int .u64 (IntKind.u64.wrap (2 ^ (m % 64))), .int .u64 0]) ∧ Below w.heap.size w w' := by
  have hb : m < 256 := by omega
  go_enter Tryd.func28, Tryd.ntmps28
  go_wp2
  go_returns
  exact ⟨rfl, by go_grown⟩

set_option maxHeartbeats 400000 in
theorem only_walk3 (m : Nat) (q : m / 64 = 3) (w : World) :
    Calls Tryd.prog 28 #[.int .i64 ((m : Int) + 1)] w fun e w' => e = .returned (.agg #[.int .u64 0, .int .u64 0, .int .u64 0, .int .u64 (IntKind.u64.wrap (2 ^ (m % 64)))]) ∧ Below w.heap.size w w' := by
  have hb : m < 256 := by omega
  go_enter Tryd.func28, Tryd.ntmps28
  go_wp2
  go_returns
  exact ⟨rfl, by go_grown⟩

end Go.Proofs.YtjpnbjfomikhaaaDoor
