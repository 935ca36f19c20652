/- The contracts of And, Or, AndNot, only, over one number a bit string. -/
import Derived.Test.YtjpnbjfomikhaaaDoorW2
import Derived.Test.YtjpnbjfomikhaaaDoorM1
namespace Go.Proofs.YtjpnbjfomikhaaaDoor
open Go.RowKit

/-- A bit string as a value. -/
abbrev bs (N : Nat) : Value := .agg #[.int .u64 (wd N 0), .int .u64 (wd N 1), .int .u64 (wd N 2), .int .u64 (wd N 3)]

theorem and_any (N M : Nat) (w : World) : Calls Tryd.prog 27 #[bs N, bs M] w fun e w' => e = .returned (bs (N &&& M)) ∧ Below w.heap.size w w' := by
  refine (and_walk _ _ _ _ _ _ _ _ w).mono ?_
  rintro e w' ⟨rfl, hb⟩
  refine ⟨?_, hb⟩
  simp only [bs, bits_and]
theorem or_any (N M : Nat) (w : World) : Calls Tryd.prog 36 #[bs N, bs M] w fun e w' => e = .returned (bs (N ||| M)) ∧ Below w.heap.size w w' := by
  refine (or_walk _ _ _ _ _ _ _ _ w).mono ?_
  rintro e w' ⟨rfl, hb⟩
  refine ⟨?_, hb⟩
  simp only [bs, bits_or]
theorem wo_any (N M : Nat) (w : World) : Calls Tryd.prog 38 #[bs N, bs M] w fun e w' => e = .returned (bs (wo N M)) ∧ Below w.heap.size w w' := by
  refine (andNot_walk _ _ _ _ _ _ _ _ w).mono ?_
  rintro e w' ⟨rfl, hb⟩
  refine ⟨?_, hb⟩
  simp only [bs, bits_wo]
theorem only_any (m : Nat) (h : m < 256) (w : World) : Calls Tryd.prog 28 #[.int .i64 ((m : Int) + 1)] w fun e w' => e = .returned (bs (2 ^ m)) ∧ Below w.heap.size w w' := by
  have hc : m / 64 = 0 ∨ m / 64 = 1 ∨ m / 64 = 2 ∨ m / 64 = 3 := by omega
  rcases hc with q | q | q | q
  · refine (only_walk0 m q w).mono ?_
    rintro e w' ⟨rfl, hb⟩
    refine ⟨?_, hb⟩
    simp [bs, wd_pow, q, wrap_pow]
  · refine (only_walk1 m q w).mono ?_
    rintro e w' ⟨rfl, hb⟩
    refine ⟨?_, hb⟩
    simp [bs, wd_pow, q, wrap_pow]
  · refine (only_walk2 m q w).mono ?_
    rintro e w' ⟨rfl, hb⟩
    refine ⟨?_, hb⟩
    simp [bs, wd_pow, q, wrap_pow]
  · refine (only_walk3 m q w).mono ?_
    rintro e w' ⟨rfl, hb⟩
    refine ⟨?_, hb⟩
    simp [bs, wd_pow, q, wrap_pow]
end Go.Proofs.YtjpnbjfomikhaaaDoor
