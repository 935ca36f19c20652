/- The law BitsPairs, walked. -/
import Derived.Test.YtghjjfgeminkgaaDoorWK
import Derived.Test.YtghjjfgeminkgaaDoorR2
namespace Go.Proofs.YtghjjfgeminkgaaDoor
open Go.RowKit

theorem eq_same (X : Nat) (w : World) : (Op.equalIn 10000 24 (.agg #[.int .u64 (wd X 0), .int .u64 (wd X 1), .int .u64 (wd X 2), .int .u64 (wd X 3)]) (.agg #[.int .u64 (wd X 0), .int .u64 (wd X 1), .int .u64 (wd X 2), .int .u64 (wd X 3)])).run Tryd.prog w = Result.ok true w := by
  rw [eq_bits]; simp

set_option maxRecDepth 100000 in
set_option maxHeartbeats 1000000 in
theorem pairs_walk (N M : Nat) (hN : N < 2 ^ 256) (hM : M < 2 ^ 256) (w : World) (ht : Tabs w) :
    Calls Tryd.prog 4 #[bs N, bs M] w fun e w' => e = .returned (.bool true) ∧ Below w.heap.size w w' := by
  have e1 := eq_same (N &&& M)
  have e2 := eq_same (N ||| M)
  have e3 := eq_same (wo N M)
  unfold bs
  go_enter Tryd.func4, Tryd.ntmps4
  go_wp2
  generalize hV : (w.alloc _).alloc _ = V
  have bV : Below w.heap.size w V := by rw [← hV]; go_grown
  have nV : HasBs V w.heap.size N := by rw [← hV]; exact (hasBs_new w N).alloc _
  have mV : HasBs V (w.heap.size + 1) M := by
    have := hasBs_new (w.alloc (.cells #[.int .u64 (wd N 0), .int .u64 (wd N 1), .int .u64 (wd N 2), .int .u64 (wd N 3)] 24)) M
    rw [hV] at this
    simpa using this
  have tV : Tabs V := ht.keep bV
  clear hV
  have k0 := cell_regrown nV.c0
  have k1 := cell_regrown nV.c1
  have k2 := cell_regrown nV.c2
  have k3 := cell_regrown nV.c3
  have m0 := cell_regrown mV.c0
  have m1 := cell_regrown mV.c1
  have m2 := cell_regrown mV.c2
  have m3 := cell_regrown mV.c3
  refine wp_region_quiet_below (by kernel_rfl) (by kernel_rfl) ?_
  repeat (go_big_quiet_step (first
    | (go_at_call 28; exact Calls.regrown_of (and_any N M _))
    | (go_at_call 29; exact Calls.regrown_of (rAnd_any N M hN _))
    | (go_at_call 30; exact Calls.regrown_of (or_any N M _))
    | (go_at_call 31; exact Calls.regrown_of (rOr_any N M hN hM _))
    | (go_at_call 32; exact Calls.regrown_of (wo_any N M _))
    | (go_at_call 33; exact Calls.regrown_of (rAndNot_any N M hN _))
    | (go_at_call 27; exact Calls.regrown_of (works_any _ (tV.keep (below_regrown V _ _))))))
  refine wpQuiet_nil ?_
  intro _ hw'
  obtain ⟨⟨dq, osq⟩, hw''⟩ := hw'
  subst hw''
  go_wp2
  go_ret
  exact ⟨rfl, bV.trans ((below_regrown V dq osq).mono bV.size)⟩
end Go.Proofs.YtghjjfgeminkgaaDoor
