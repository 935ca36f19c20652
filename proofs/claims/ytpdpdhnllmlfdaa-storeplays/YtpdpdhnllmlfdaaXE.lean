/- slices.Equal of neighbours; stamps compared; record.Same. -/
import Derived.Test.YtpdpdhnllmlfdaaX6
import Derived.Test.YtpdpdhnllmlfdaaGD
namespace Go.Proofs.Ytpdpdhnllmlfdaa
open Go.RowKit

theorem eqU (d : Nat) (x y : Int) (w : World) : (Op.equalIn (d + 1) 25 (.int .u32 x) (.int .u32 y)).run Try.prog w = .ok (x == y) w := run_equalIn_int w d _ _ _ x y Try.underlying25
theorem partS {x0 x1 x2 : Value} (w : World) : (part 3 #[x0, x1, x2] 0).run Try.prog w = .ok x0 w ∧ (part 25 #[x0, x1, x2] 1).run Try.prog w = .ok x1 w ∧ (part 25 #[x0, x1, x2] 2).run Try.prog w = .ok x2 w :=
  ⟨by kernel_rfl, by kernel_rfl, by kernel_rfl⟩
theorem stampFields : (Try.prog.fieldsOf 71).toList.map (fun f => (f.name == "_", f.type, f.offset)) = [(false, 3, 0), (false, 25, 1), (false, 25, 2)] := by kernel_rfl
theorem stampUnder : Try.prog.underlying 71 = some (.struct (Try.prog.fieldsOf 71)) := by kernel_rfl
theorem stampStood : Try.prog.stoodInHeld 71 = false := by kernel_rfl
theorem eq_stamp (a0 a1 a2 b0 b1 b2 : Int) (w : World) : (Op.equalIn 10000 71 (.agg #[.int .i64 a0, .int .u32 a1, .int .u32 a2]) (.agg #[.int .i64 b0, .int .u32 b1, .int .u32 b2])).run Try.prog w = Result.ok (a0 == b0 && a1 == b1 && a2 == b2) w := by
  rw [run_equalIn_struct w 9999 _ _ _ stampUnder stampStood]
  have hf := stampFields
  generalize (Try.prog.fieldsOf 71).toList = fs at hf
  obtain ⟨p0, p1, p2⟩ := @partS (.int .i64 a0) (.int .u32 a1) (.int .u32 a2) w
  obtain ⟨q0, q1, q2⟩ := @partS (.int .i64 b0) (.int .u32 b1) (.int .u32 b2) w
  obtain ⟨f0, r0, rfl, h0, hf⟩ := List.map_eq_cons_iff.1 hf
  obtain ⟨f1, r1, rfl, h1, hf⟩ := List.map_eq_cons_iff.1 hf
  obtain ⟨f2, r2, rfl, h2, hf⟩ := List.map_eq_cons_iff.1 hf
  obtain rfl := List.map_eq_nil_iff.1 hf
  simp only [Prod.mk.injEq] at h0
  obtain ⟨n0, t0, o0⟩ := h0
  simp only [Prod.mk.injEq] at h1
  obtain ⟨n1, t1, o1⟩ := h1
  simp only [Prod.mk.injEq] at h2
  obtain ⟨n2, t2, o2⟩ := h2
  rw [eqFields_cons 9999 _ _ f0 [f1, f2] (.int .i64 a0) (.int .i64 b0) (a0 == b0) w n0 (by rw [t0, o0]; exact p0) (by rw [t0, o0]; exact q0) (by rw [t0]; exact eqI 9998 a0 b0 w)]
  rw [eqFields_cons 9999 _ _ f1 [f2] (.int .u32 a1) (.int .u32 b1) (a1 == b1) w n1 (by rw [t1, o1]; exact p1) (by rw [t1, o1]; exact q1) (by rw [t1]; exact eqU 9998 a1 b1 w)]
  rw [eqFields_cons 9999 _ _ f2 [] (.int .u32 a2) (.int .u32 b2) (a2 == b2) w n2 (by rw [t2, o2]; exact p2) (by rw [t2, o2]; exact q2) (by rw [t2]; exact eqU 9998 a2 b2 w)]
  cases a0 == b0 <;> cases a1 == b1 <;> cases a2 == b2 <;> simp [Op.eqFields]
theorem stamp_lit (o e q c : Int) (i : Bool) (a : Option Addr) (n cap : Nat) (w : World) : Calls Try.prog 31 #[.agg #[.int .i64 o, .int .u32 e, .int .u32 q, .int .i64 c, .bool i, .slice a n cap]] w fun r w' => r = .returned (.agg #[.int .i64 o, .int .u32 e, .int .u32 q]) ∧ Below w.heap.size w w' := stamp_any ⟨o, e, q, c, i, []⟩ a n cap w
/-- Are two records the same? -/
def sameB (r s : Rc) : Bool := (r.origin == s.origin && r.epoch == s.epoch && r.seq == s.seq) && ((r.claim == s.claim) && ((r.ing == s.ing) && decide (r.adjs = s.adjs)))
end Go.Proofs.Ytpdpdhnllmlfdaa
