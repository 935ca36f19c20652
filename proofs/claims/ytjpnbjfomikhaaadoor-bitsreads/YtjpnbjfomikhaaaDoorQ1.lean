/- Two bit strings compared. -/
import Derived.Test.YtjpnbjfomikhaaaDoorC1
import Derived.ChangeKeysEq
namespace Go.Proofs.YtjpnbjfomikhaaaDoor
open Go.RowKit
theorem infoU : (Tryd.prog.info? 22).map (·.size) = some 1 := by kernel_rfl
theorem cellsU : Tryd.prog.cellsOf 22 = 1 := by kernel_rfl
theorem partU0 (x0 x1 x2 x3 : Value) (w : World) : (part 22 #[x0, x1, x2, x3] (0 * 1)).run Tryd.prog w = .ok x0 w := by kernel_rfl
theorem partU1 (x0 x1 x2 x3 : Value) (w : World) : (part 22 #[x0, x1, x2, x3] (1 * 1)).run Tryd.prog w = .ok x1 w := by kernel_rfl
theorem partU2 (x0 x1 x2 x3 : Value) (w : World) : (part 22 #[x0, x1, x2, x3] (2 * 1)).run Tryd.prog w = .ok x2 w := by kernel_rfl
theorem partU3 (x0 x1 x2 x3 : Value) (w : World) : (part 22 #[x0, x1, x2, x3] (3 * 1)).run Tryd.prog w = .ok x3 w := by kernel_rfl
theorem range4 : List.range 4 = [0, 1, 2, 3] := rfl
theorem eqInt (x y : Int) (w : World) : (Op.equalIn 9999 22 (.int .u64 x) (.int .u64 y)).run Tryd.prog w = .ok (x == y) w := run_equalIn_int w 9998 _ _ _ x y Tryd.underlying22

/-- '==' of two bit strings, as the model reckons it. -/
theorem eq_bits (x0 x1 x2 x3 y0 y1 y2 y3 : Int) (w : World) :
   (Op.equalIn 10000 24 (.agg #[.int .u64 x0, .int .u64 x1, .int .u64 x2, .int .u64 x3]) (.agg #[.int .u64 y0, .int .u64 y1, .int .u64 y2, .int .u64 y3])).run Tryd.prog w = Result.ok (x0 == y0 && (x1 == y1 && (x2 == y2 && x3 == y3))) w := by
  obtain ⟨i, hi⟩ : ∃ i, Tryd.prog.info? 22 = some i := by
    have := infoU
    cases h : Tryd.prog.info? 22 with
    | none => rw [h] at this; cases this
    | some i => exact ⟨i, rfl⟩
  rw [run_equalIn_array w 9999 _ _ Tryd.underlying24 hi, cellsU, range4]
  simp only [Op.eqItems, Sem.run_bind, Sem.run_ite, Sem.run_pure, partU0, partU1, partU2, partU3, Result.andThen_ok, eqInt]
  cases x0 == y0 <;> cases x1 == y1 <;> cases x2 == y2 <;> cases x3 == y3 <;> rfl
/-- Of two numbers' bit strings. -/
theorem eq_bs (N M : Nat) (hN : N < 2 ^ 256) (hM : M < 2 ^ 256) (w : World) : (Op.equalIn 10000 24 (bs N) (bs M)).run Tryd.prog w = Result.ok (N == M) w := by
  rw [eq_bits]
  congr 1
  rw [Bool.eq_iff_iff]
  simp only [Bool.and_eq_true, beq_iff_eq]
  constructor
  · rintro ⟨h0, h1, h2, h3⟩
    exact ext_wd hN hM (by omega) (by omega) (by omega) (by omega)
  · rintro rfl
    exact ⟨rfl, rfl, rfl, rfl⟩
theorem eq_zero (N : Nat) (hN : N < 2 ^ 256) (w : World) : (Op.equalIn 10000 24 (bs N) (.agg #[.int .u64 0, .int .u64 0, .int .u64 0, .int .u64 0])).run Tryd.prog w = Result.ok (N == 0) w := by
  have := eq_bs N 0 hN (by decide) w
  simp only [bs, wd_zero] at this ⊢
  exact this
end Go.Proofs.YtjpnbjfomikhaaaDoor
