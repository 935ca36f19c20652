/- Two headers compared. -/
import Derived.Test.YtjcbbifjhoemaaaDoorH2
import Derived.Test.YtjcbbifjhoemaaaDoorQ1
import Derived.Laws.StructEq
namespace Go.Proofs.YtjcbbifjhoemaaaDoor
open Go.RowKit

theorem eqI (d : Nat) (x y : Int) (w : World) : (Op.equalIn (d + 1) 3 (.int .i64 x) (.int .i64 y)).run Tryd.prog w = .ok (x == y) w := run_equalIn_int w d _ _ _ x y Tryd.underlying3
theorem eqE (d : Nat) (x y : Int) (w : World) : (Op.equalIn (d + 1) 82 (.int .u32 x) (.int .u32 y)).run Tryd.prog w = .ok (x == y) w := run_equalIn_int w d _ _ _ x y Tryd.underlying82
theorem eqU (d : Nat) (x y : Int) (w : World) : (Op.equalIn (d + 1) 33 (.int .u64 x) (.int .u64 y)).run Tryd.prog w = .ok (x == y) w := run_equalIn_int w d _ _ _ x y Tryd.underlying33
theorem eq_bits9 (x0 x1 x2 x3 y0 y1 y2 y3 : Int) (w : World) :
   (Op.equalIn 9999 35 (.agg #[.int .u64 x0, .int .u64 x1, .int .u64 x2, .int .u64 x3]) (.agg #[.int .u64 y0, .int .u64 y1, .int .u64 y2, .int .u64 y3])).run Tryd.prog w = Result.ok (x0 == y0 && (x1 == y1 && (x2 == y2 && x3 == y3))) w := by
  obtain ⟨i, hi⟩ : ∃ i, Tryd.prog.info? 33 = some i := by
    have := infoU
    cases h : Tryd.prog.info? 33 with
    | none => rw [h] at this; cases this
    | some i => exact ⟨i, rfl⟩
  rw [run_equalIn_array w 9998 _ _ Tryd.underlying35 hi, cellsU, range4]
  simp only [Op.eqItems, Sem.run_bind, Sem.run_ite, Sem.run_pure, partU0, partU1, partU2, partU3, Result.andThen_ok, eqU 9997]
  cases x0 == y0 <;> cases x1 == y1 <;> cases x2 == y2 <;> cases x3 == y3 <;> rfl
theorem eq_bs9 (N M : Nat) (hN : N < 2 ^ 256) (hM : M < 2 ^ 256) (w : World) : (Op.equalIn 9999 35 (bs N) (bs M)).run Tryd.prog w = Result.ok (N == M) w := by
  rw [eq_bits9]
  congr 1
  rw [Bool.eq_iff_iff]
  simp only [Bool.and_eq_true, beq_iff_eq]
  constructor
  · rintro ⟨h0, h1, h2, h3⟩
    exact ext_wd hN hM (by omega) (by omega) (by omega) (by omega)
  · rintro rfl
    exact ⟨rfl, rfl, rfl, rfl⟩

theorem hpart {x0 x1 x2 x3 x4 x5 x6 x7 x8 x9 xa : Value} (w : World) :
    (part 3 #[x0, x1, x2, x3, x4, x5, x6, x7, x8, x9, xa] 0).run Tryd.prog w = .ok x0 w ∧ (part 3 #[x0, x1, x2, x3, x4, x5, x6, x7, x8, x9, xa] 1).run Tryd.prog w = .ok x1 w ∧
    (part 82 #[x0, x1, x2, x3, x4, x5, x6, x7, x8, x9, xa] 2).run Tryd.prog w = .ok x2 w ∧ (part 3 #[x0, x1, x2, x3, x4, x5, x6, x7, x8, x9, xa] 3).run Tryd.prog w = .ok x3 w ∧
    (part 3 #[x0, x1, x2, x3, x4, x5, x6, x7, x8, x9, xa] 4).run Tryd.prog w = .ok x4 w ∧ (part 3 #[x0, x1, x2, x3, x4, x5, x6, x7, x8, x9, xa] 5).run Tryd.prog w = .ok x5 w ∧
    (part 82 #[x0, x1, x2, x3, x4, x5, x6, x7, x8, x9, xa] 6).run Tryd.prog w = .ok x6 w ∧ (part 35 #[x0, x1, x2, x3, x4, x5, x6, x7, x8, x9, xa] 7).run Tryd.prog w = .ok (.agg #[x7, x8, x9, xa]) w :=
  ⟨by kernel_rfl, by kernel_rfl, by kernel_rfl, by kernel_rfl, by kernel_rfl, by kernel_rfl, by kernel_rfl, by kernel_rfl⟩

theorem eqFields_cons (d : Nat) (xs ys : Array Value) (f : Field) (fs : List Field) (a b : Value) (r : Bool) (w : World) (hn : (f.name == "_") = false) (hx : (part f.type xs f.offset).run Tryd.prog w = .ok a w) (hy : (part f.type ys f.offset).run Tryd.prog w = .ok b w)
    (he : (Op.equalIn d f.type a b).run Tryd.prog w = .ok r w) : (Op.eqFields d xs ys (f :: fs)).run Tryd.prog w = if r = true then (Op.eqFields d xs ys fs).run Tryd.prog w else .ok false w := by
  have hn' : f.name ≠ "_" := by intro e; rw [e] at hn; simp at hn
  simp only [Op.eqFields, hn', ne_eq, not_false_eq_true, if_true, Sem.run_bind, hx, hy, he, Result.andThen_ok, Sem.run_ite, Sem.run_pure]
  cases r <;> simp

end Go.Proofs.YtjcbbifjhoemaaaDoor
