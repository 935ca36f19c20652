/- Two headers compared. -/
import Derived.Test.YtgfmlonhjmdfjaaDoorH2
import Derived.Test.YtgfmlonhjmdfjaaDoorQ1
import Derived.Laws.StructEq
namespace Go.Proofs.YtgfmlonhjmdfjaaDoor
open Go.RowKit

theorem eqI (d : Nat) (x y : Int) (w : World) : (Op.equalIn (d + 1) 3 (.int .i64 x) (.int .i64 y)).run Tryd.prog w = .ok (x == y) w := run_equalIn_int w d _ _ _ x y Tryd.underlying3
theorem eqE (d : Nat) (x y : Int) (w : World) : (Op.equalIn (d + 1) 22 (.int .u32 x) (.int .u32 y)).run Tryd.prog w = .ok (x == y) w := run_equalIn_int w d _ _ _ x y Tryd.underlying22
theorem eqU (d : Nat) (x y : Int) (w : World) : (Op.equalIn (d + 1) 23 (.int .u64 x) (.int .u64 y)).run Tryd.prog w = .ok (x == y) w := run_equalIn_int w d _ _ _ x y Tryd.underlying23
theorem eq_bits9 (x0 x1 x2 x3 y0 y1 y2 y3 : Int) (w : World) :
   (Op.equalIn 9999 25 (.agg #[.int .u64 x0, .int .u64 x1, .int .u64 x2, .int .u64 x3]) (.agg #[.int .u64 y0, .int .u64 y1, .int .u64 y2, .int .u64 y3])).run Tryd.prog w = Result.ok (x0 == y0 && (x1 == y1 && (x2 == y2 && x3 == y3))) w := by
  obtain ⟨i, hi⟩ : ∃ i, Tryd.prog.info? 23 = some i := by
    have := infoU
    cases h : Tryd.prog.info? 23 with
    | none => rw [h] at this; cases this
    | some i => exact ⟨i, rfl⟩
  rw [run_equalIn_array w 9998 _ _ Tryd.underlying25 hi, cellsU, range4]
  simp only [Op.eqItems, Sem.run_bind, Sem.run_ite, Sem.run_pure, partU0, partU1, partU2, partU3, Result.andThen_ok, eqU 9997]
  cases x0 == y0 <;> cases x1 == y1 <;> cases x2 == y2 <;> cases x3 == y3 <;> rfl
theorem eq_bs9 (N M : Nat) (hN : N < 2 ^ 256) (hM : M < 2 ^ 256) (w : World) : (Op.equalIn 9999 25 (bs N) (bs M)).run Tryd.prog w = Result.ok (N == M) w := by
  rw [eq_bits9]
  congr 1
  rw [Bool.eq_iff_iff]
  simp only [Bool.and_eq_true, beq_iff_eq]
  constructor
  · rintro ⟨h0, h1, h2, h3⟩
    exact ext_wd hN hM (by omega) (by omega) (by omega) (by omega)
  · rintro rfl
    exact ⟨rfl, rfl, rfl, rfl⟩

theorem hfields : (Tryd.prog.fieldsOf 27).toList.map (fun f => (f.name == "_", f.type, f.offset)) = [(false, 3, 0), (false, 3, 1), (false, 22, 2), (false, 3, 3), (false, 3, 4), (false, 3, 5), (false, 22, 6), (false, 25, 7)] := by kernel_rfl
theorem hunder : Tryd.prog.underlying 27 = some (.struct (Tryd.prog.fieldsOf 27)) := by kernel_rfl
theorem hstood : Tryd.prog.stoodInHeld 27 = false := by kernel_rfl
theorem hpart {x0 x1 x2 x3 x4 x5 x6 x7 x8 x9 xa : Value} (w : World) :
    (part 3 #[x0, x1, x2, x3, x4, x5, x6, x7, x8, x9, xa] 0).run Tryd.prog w = .ok x0 w ∧ (part 3 #[x0, x1, x2, x3, x4, x5, x6, x7, x8, x9, xa] 1).run Tryd.prog w = .ok x1 w ∧
    (part 22 #[x0, x1, x2, x3, x4, x5, x6, x7, x8, x9, xa] 2).run Tryd.prog w = .ok x2 w ∧ (part 3 #[x0, x1, x2, x3, x4, x5, x6, x7, x8, x9, xa] 3).run Tryd.prog w = .ok x3 w ∧
    (part 3 #[x0, x1, x2, x3, x4, x5, x6, x7, x8, x9, xa] 4).run Tryd.prog w = .ok x4 w ∧ (part 3 #[x0, x1, x2, x3, x4, x5, x6, x7, x8, x9, xa] 5).run Tryd.prog w = .ok x5 w ∧
    (part 22 #[x0, x1, x2, x3, x4, x5, x6, x7, x8, x9, xa] 6).run Tryd.prog w = .ok x6 w ∧ (part 25 #[x0, x1, x2, x3, x4, x5, x6, x7, x8, x9, xa] 7).run Tryd.prog w = .ok (.agg #[x7, x8, x9, xa]) w :=
  ⟨by kernel_rfl, by kernel_rfl, by kernel_rfl, by kernel_rfl, by kernel_rfl, by kernel_rfl, by kernel_rfl, by kernel_rfl⟩

theorem eqFields_cons (d : Nat) (xs ys : Array Value) (f : Field) (fs : List Field) (a b : Value) (r : Bool) (w : World) (hn : (f.name == "_") = false) (hx : (part f.type xs f.offset).run Tryd.prog w = .ok a w) (hy : (part f.type ys f.offset).run Tryd.prog w = .ok b w)
    (he : (Op.equalIn d f.type a b).run Tryd.prog w = .ok r w) : (Op.eqFields d xs ys (f :: fs)).run Tryd.prog w = if r = true then (Op.eqFields d xs ys fs).run Tryd.prog w else .ok false w := by
  have hn' : f.name ≠ "_" := by intro e; rw [e] at hn; simp at hn
  simp only [Op.eqFields, hn', ne_eq, not_false_eq_true, if_true, Sem.run_bind, hx, hy, he, Result.andThen_ok, Sem.run_ite, Sem.run_pure]
  cases r <;> simp

/-- '==' of two headers. -/
theorem eq_hd (W S E H O G I W' S' E' H' O' G' I' : Int) (N N' : Nat) (hN : N < 2 ^ 256) (hN' : N' < 2 ^ 256) (w : World) :
    (Op.equalIn 10000 27 (hd W S E H O G I N) (hd W' S' E' H' O' G' I' N')).run Tryd.prog w = Result.ok (W == W' && (S == S' && (E == E' && (H == H' && (O == O' && (G == G' && (I == I' && N == N'))))))) w := by
  rw [run_equalIn_struct w 9999 _ _ _ hunder hstood]
  have hf := hfields
  generalize (Tryd.prog.fieldsOf 27).toList = fs at hf
  obtain ⟨p0, p1, p2, p3, p4, p5, p6, p7⟩ := @hpart (.int .i64 W) (.int .i64 S) (.int .u32 E) (.int .i64 H) (.int .i64 O) (.int .i64 G) (.int .u32 I) (.int .u64 (wd N 0)) (.int .u64 (wd N 1)) (.int .u64 (wd N 2)) (.int .u64 (wd N 3)) w
  obtain ⟨q0, q1, q2, q3, q4, q5, q6, q7⟩ := @hpart (.int .i64 W') (.int .i64 S') (.int .u32 E') (.int .i64 H') (.int .i64 O') (.int .i64 G') (.int .u32 I') (.int .u64 (wd N' 0)) (.int .u64 (wd N' 1)) (.int .u64 (wd N' 2)) (.int .u64 (wd N' 3)) w
  have e9 := eq_bs9 N N' hN hN' w
  obtain ⟨f0, r0, rfl, h0, hf⟩ := List.map_eq_cons_iff.1 hf
  obtain ⟨f1, r1, rfl, h1, hf⟩ := List.map_eq_cons_iff.1 hf
  obtain ⟨f2, r2, rfl, h2, hf⟩ := List.map_eq_cons_iff.1 hf
  obtain ⟨f3, r3, rfl, h3, hf⟩ := List.map_eq_cons_iff.1 hf
  obtain ⟨f4, r4, rfl, h4, hf⟩ := List.map_eq_cons_iff.1 hf
  obtain ⟨f5, r5, rfl, h5, hf⟩ := List.map_eq_cons_iff.1 hf
  obtain ⟨f6, r6, rfl, h6, hf⟩ := List.map_eq_cons_iff.1 hf
  obtain ⟨f7, r7, rfl, h7, hf⟩ := List.map_eq_cons_iff.1 hf
  obtain rfl := List.map_eq_nil_iff.1 hf
  simp only [Prod.mk.injEq] at h0
  obtain ⟨n0, t0, o0⟩ := h0
  simp only [Prod.mk.injEq] at h1
  obtain ⟨n1, t1, o1⟩ := h1
  simp only [Prod.mk.injEq] at h2
  obtain ⟨n2, t2, o2⟩ := h2
  simp only [Prod.mk.injEq] at h3
  obtain ⟨n3, t3, o3⟩ := h3
  simp only [Prod.mk.injEq] at h4
  obtain ⟨n4, t4, o4⟩ := h4
  simp only [Prod.mk.injEq] at h5
  obtain ⟨n5, t5, o5⟩ := h5
  simp only [Prod.mk.injEq] at h6
  obtain ⟨n6, t6, o6⟩ := h6
  simp only [Prod.mk.injEq] at h7
  obtain ⟨n7, t7, o7⟩ := h7
  rw [eqFields_cons 9999 _ _ f0 _ _ _ _ w n0 (by rw [t0, o0]; exact p0) (by rw [t0, o0]; exact q0) (by rw [t0]; exact eqI 9998 _ _ w)]
  rw [eqFields_cons 9999 _ _ f1 _ _ _ _ w n1 (by rw [t1, o1]; exact p1) (by rw [t1, o1]; exact q1) (by rw [t1]; exact eqI 9998 _ _ w)]
  rw [eqFields_cons 9999 _ _ f2 _ _ _ _ w n2 (by rw [t2, o2]; exact p2) (by rw [t2, o2]; exact q2) (by rw [t2]; exact eqE 9998 _ _ w)]
  rw [eqFields_cons 9999 _ _ f3 _ _ _ _ w n3 (by rw [t3, o3]; exact p3) (by rw [t3, o3]; exact q3) (by rw [t3]; exact eqI 9998 _ _ w)]
  rw [eqFields_cons 9999 _ _ f4 _ _ _ _ w n4 (by rw [t4, o4]; exact p4) (by rw [t4, o4]; exact q4) (by rw [t4]; exact eqI 9998 _ _ w)]
  rw [eqFields_cons 9999 _ _ f5 _ _ _ _ w n5 (by rw [t5, o5]; exact p5) (by rw [t5, o5]; exact q5) (by rw [t5]; exact eqI 9998 _ _ w)]
  rw [eqFields_cons 9999 _ _ f6 _ _ _ _ w n6 (by rw [t6, o6]; exact p6) (by rw [t6, o6]; exact q6) (by rw [t6]; exact eqE 9998 _ _ w)]
  rw [eqFields_cons 9999 _ _ f7 _ _ _ _ w n7 (by rw [t7, o7]; exact p7) (by rw [t7, o7]; exact q7) (by rw [t7]; exact e9)]
  simp only [Op.eqFields, Sem.run_pure]
  cases W == W' <;> cases S == S' <;> cases E == E' <;> cases H == H' <;> cases O == O' <;> cases G == G' <;> cases I == I' <;> cases N == N' <;> rfl
end Go.Proofs.YtgfmlonhjmdfjaaDoor
