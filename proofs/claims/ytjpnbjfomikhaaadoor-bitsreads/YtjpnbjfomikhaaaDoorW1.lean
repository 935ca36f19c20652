/- The walks of And, Or, AndNot, only: what each call hands back, in whatever world; what was there stands as it stood. -/
import Derived.Test.YtjpnbjfomikhaaaDoorRows
import Derived.WalkKit
import Derived.WalkSpells
import Derived.WalkLawsBesides
import Derived.Handy
namespace Go.Proofs.YtjpnbjfomikhaaaDoor
open Go.RowKit

theorem ix0 (x0 x1 x2 x3 : Value) (w : World) : (Instr.index 24 (.agg #[x0, x1, x2, x3]) (.int .i64 0)).run Tryd.prog w = .ok x0 w := by kernel_rfl
theorem ix1 (x0 x1 x2 x3 : Value) (w : World) : (Instr.index 24 (.agg #[x0, x1, x2, x3]) (.int .i64 1)).run Tryd.prog w = .ok x1 w := by kernel_rfl
theorem ix2 (x0 x1 x2 x3 : Value) (w : World) : (Instr.index 24 (.agg #[x0, x1, x2, x3]) (.int .i64 2)).run Tryd.prog w = .ok x2 w := by kernel_rfl
theorem ix3 (x0 x1 x2 x3 : Value) (w : World) : (Instr.index 24 (.agg #[x0, x1, x2, x3]) (.int .i64 3)).run Tryd.prog w = .ok x3 w := by kernel_rfl


set_option maxHeartbeats 400000 in
theorem and_walk (x0 x1 x2 x3 y0 y1 y2 y3 : Int) (w : World) :
    Calls Tryd.prog 27 #[.agg #[.int .u64 x0, .int .u64 x1, .int .u64 x2, .int .u64 x3], .agg #[.int .u64 y0, .int .u64 y1, .int .u64 y2, .int .u64 y3]] w fun e w' =>
      e = .returned (.agg #[.int .u64 (bits .and .u64 x0 y0), .int .u64 (bits .and .u64 x1 y1), .int .u64 (bits .and .u64 x2 y2), .int .u64 (bits .and .u64 x3 y3)]) ∧ Below w.heap.size w w' := by
  have i0 := ix0 (.int .u64 y0) (.int .u64 y1) (.int .u64 y2) (.int .u64 y3)
  have i1 := ix1 (.int .u64 y0) (.int .u64 y1) (.int .u64 y2) (.int .u64 y3)
  have i2 := ix2 (.int .u64 y0) (.int .u64 y1) (.int .u64 y2) (.int .u64 y3)
  have i3 := ix3 (.int .u64 y0) (.int .u64 y1) (.int .u64 y2) (.int .u64 y3)
  go_enter Tryd.func27, Tryd.ntmps27
  go_wp2
  go_rounds 5
  go_returns
  exact ⟨rfl, by go_grown⟩

set_option maxHeartbeats 400000 in
theorem or_walk (x0 x1 x2 x3 y0 y1 y2 y3 : Int) (w : World) :
    Calls Tryd.prog 36 #[.agg #[.int .u64 x0, .int .u64 x1, .int .u64 x2, .int .u64 x3], .agg #[.int .u64 y0, .int .u64 y1, .int .u64 y2, .int .u64 y3]] w fun e w' =>
      e = .returned (.agg #[.int .u64 (bits .or .u64 x0 y0), .int .u64 (bits .or .u64 x1 y1), .int .u64 (bits .or .u64 x2 y2), .int .u64 (bits .or .u64 x3 y3)]) ∧ Below w.heap.size w w' := by
  have i0 := ix0 (.int .u64 y0) (.int .u64 y1) (.int .u64 y2) (.int .u64 y3)
  have i1 := ix1 (.int .u64 y0) (.int .u64 y1) (.int .u64 y2) (.int .u64 y3)
  have i2 := ix2 (.int .u64 y0) (.int .u64 y1) (.int .u64 y2) (.int .u64 y3)
  have i3 := ix3 (.int .u64 y0) (.int .u64 y1) (.int .u64 y2) (.int .u64 y3)
  go_enter Tryd.func36, Tryd.ntmps36
  go_wp2
  go_rounds 5
  go_returns
  exact ⟨rfl, by go_grown⟩

set_option maxHeartbeats 400000 in
theorem andNot_walk (x0 x1 x2 x3 y0 y1 y2 y3 : Int) (w : World) :
    Calls Tryd.prog 38 #[.agg #[.int .u64 x0, .int .u64 x1, .int .u64 x2, .int .u64 x3], .agg #[.int .u64 y0, .int .u64 y1, .int .u64 y2, .int .u64 y3]] w fun e w' =>
      e = .returned (.agg #[.int .u64 (bits .andNot .u64 x0 y0), .int .u64 (bits .andNot .u64 x1 y1), .int .u64 (bits .andNot .u64 x2 y2), .int .u64 (bits .andNot .u64 x3 y3)]) ∧ Below w.heap.size w w' := by
  have i0 := ix0 (.int .u64 y0) (.int .u64 y1) (.int .u64 y2) (.int .u64 y3)
  have i1 := ix1 (.int .u64 y0) (.int .u64 y1) (.int .u64 y2) (.int .u64 y3)
  have i2 := ix2 (.int .u64 y0) (.int .u64 y1) (.int .u64 y2) (.int .u64 y3)
  have i3 := ix3 (.int .u64 y0) (.int .u64 y1) (.int .u64 y2) (.int .u64 y3)
  go_enter Tryd.func38, Tryd.ntmps38
  go_wp2
  go_rounds 5
  go_returns
  exact ⟨rfl, by go_grown⟩

end Go.Proofs.YtjpnbjfomikhaaaDoor
