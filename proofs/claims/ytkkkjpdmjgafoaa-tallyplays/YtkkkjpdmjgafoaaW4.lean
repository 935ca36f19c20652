/- bits.Count, bits.Lowest, bits.highest, bits.Below: the walks. -/
import Derived.Test.YtkkkjpdmjgafoaaW3
import Derived.Test.YtkkkjpdmjgafoaaC1
namespace Go.Proofs.Ytkkkjpdmjgafoaa.Bi
open Go.RowKit

theorem cnt256 (N : Nat) : cntTo 256 N = cntTo 64 (wd N 0) + cntTo 64 (wd N 1) + cntTo 64 (wd N 2) + cntTo 64 (wd N 3) := by
  have k : ∀ i, cntTo 64 (wd N i) = cntTo 64 (N / 2 ^ (64 * i)) := fun i => cntTo_mod 64 _
  rw [k, k, k, k, show 256 = 64 + (64 + (64 + 64)) from rfl]
  simp only [cntTo_add, Nat.div_div_eq_div_mul]
  have e : N / 2 ^ (64 * 0) = N := by simp
  rw [e]
  simp only [← Nat.pow_add, Nat.add_assoc]

set_option maxHeartbeats 400000 in
theorem count_any (N : Nat) (w : World) :
    Calls Try.prog 24 #[bs N] w fun e w' => e = .returned (.int .i64 (cntTo 256 N)) ∧ Below w.heap.size w w' := by
  rw [cnt256]
  have l0 := cntTo_le 64 (wd N 0)
  have l1 := cntTo_le 64 (wd N 1)
  have l2 := cntTo_le 64 (wd N 2)
  have l3 := cntTo_le 64 (wd N 3)
  have i0 := ix0 (.int .u64 (wd N 0)) (.int .u64 (wd N 1)) (.int .u64 (wd N 2)) (.int .u64 (wd N 3))
  have i1 := ix1 (.int .u64 (wd N 0)) (.int .u64 (wd N 1)) (.int .u64 (wd N 2)) (.int .u64 (wd N 3))
  have i2 := ix2 (.int .u64 (wd N 0)) (.int .u64 (wd N 1)) (.int .u64 (wd N 2)) (.int .u64 (wd N 3))
  have i3 := ix3 (.int .u64 (wd N 0)) (.int .u64 (wd N 1)) (.int .u64 (wd N 2)) (.int .u64 (wd N 3))
  unfold bs
  go_enter Try.func24, Try.ntmps24
  go_wp2
  refine wp_loop_rounds 5 ?_
  repeat any_goals (rw [rounds_succ]; go_wp2_with (go_at_call 31; refine (ones_any _ (wd_lt _ _) _).mono ?_; rintro e w' ⟨rfl, rfl⟩))
  go_ret
  refine ⟨?_, by go_grown⟩
  simp
end Go.Proofs.Ytkkkjpdmjgafoaa.Bi
