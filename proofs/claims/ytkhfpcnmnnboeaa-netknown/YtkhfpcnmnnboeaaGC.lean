/- Structs compared; rec, three, works. -/
import Derived.Test.YtkhfpcnmnnboeaaGB
import Derived.Laws.StructEq
namespace Go.Proofs.Ytkhfpcnmnnboeaa
open Go.RowKit

theorem eqI (d : Nat) (x y : Int) (w : World) : (Op.equalIn (d + 1) 3 (.int .i64 x) (.int .i64 y)).run Try.prog w = .ok (x == y) w := run_equalIn_int w d _ _ _ x y Try.underlying3
theorem eqFields_cons (d : Nat) (xs ys : Array Value) (f : Field) (fs : List Field) (a b : Value) (r : Bool) (w : World) (hn : (f.name == "_") = false) (hx : (part f.type xs f.offset).run Try.prog w = .ok a w) (hy : (part f.type ys f.offset).run Try.prog w = .ok b w)
    (he : (Op.equalIn d f.type a b).run Try.prog w = .ok r w) : (Op.eqFields d xs ys (f :: fs)).run Try.prog w = if r = true then (Op.eqFields d xs ys fs).run Try.prog w else .ok false w := by
  have hn' : f.name ≠ "_" := by intro e; rw [e] at hn; simp at hn
  simp only [Op.eqFields, hn', ne_eq, not_false_eq_true, if_true, Sem.run_bind, hx, hy, he, Result.andThen_ok, Sem.run_ite, Sem.run_pure]
  cases r <;> simp
theorem part2 {x0 x1 : Value} (w : World) : (part 3 #[x0, x1] 0).run Try.prog w = .ok x0 w ∧ (part 3 #[x0, x1] 1).run Try.prog w = .ok x1 w :=
  ⟨by kernel_rfl, by kernel_rfl⟩
theorem part3 {x0 x1 x2 : Value} (w : World) : (part 3 #[x0, x1, x2] 0).run Try.prog w = .ok x0 w ∧ (part 3 #[x0, x1, x2] 1).run Try.prog w = .ok x1 w ∧ (part 3 #[x0, x1, x2] 2).run Try.prog w = .ok x2 w :=
  ⟨by kernel_rfl, by kernel_rfl, by kernel_rfl⟩
theorem edgeFields : (Try.prog.fieldsOf 64).toList.map (fun f => (f.name == "_", f.type, f.offset)) = [(false, 3, 0), (false, 3, 1), (false, 3, 2)] := by kernel_rfl
theorem edgeUnder : Try.prog.underlying 64 = some (.struct (Try.prog.fieldsOf 64)) := by kernel_rfl
theorem edgeStood : Try.prog.stoodInHeld 64 = false := by kernel_rfl
theorem eq_edge (a0 a1 a2 b0 b1 b2 : Int) (w : World) : (Op.equalIn 10000 64 (.agg #[.int .i64 a0, .int .i64 a1, .int .i64 a2]) (.agg #[.int .i64 b0, .int .i64 b1, .int .i64 b2])).run Try.prog w = Result.ok (a0 == b0 && a1 == b1 && a2 == b2) w := by
  rw [run_equalIn_struct w 9999 _ _ _ edgeUnder edgeStood]
  have hf := edgeFields
  generalize (Try.prog.fieldsOf 64).toList = fs at hf
  obtain ⟨p0, p1, p2⟩ := @part3 (.int .i64 a0) (.int .i64 a1) (.int .i64 a2) w
  obtain ⟨q0, q1, q2⟩ := @part3 (.int .i64 b0) (.int .i64 b1) (.int .i64 b2) w
  obtain ⟨f0, r0, rfl, h0, hf⟩ := List.map_eq_cons_iff.1 hf
  obtain ⟨f1, r1, rfl, h1, hf⟩ := List.map_eq_cons_iff.1 hf
  obtain ⟨f2, r2, rfl, h2, hf⟩ := List.map_eq_cons_iff.1 hf
  obtain rfl := List.map_eq_nil_iff.1 hf
  simp only [Prod.mk.injEq] at h0
  obtain ⟨n0, t0, o0⟩ := h0
  simp only [Prod.mk.injEq] at h1
  obtain ⟨n1, t1, o1⟩ := h1
  simp only [Prod.mk.injEq] at h2
  obtain ⟨n2, t2, o2⟩ := h2
  rw [eqFields_cons 9999 _ _ f0 [f1, f2] (.int .i64 a0) (.int .i64 b0) (a0 == b0) w n0 (by rw [t0, o0]; exact p0) (by rw [t0, o0]; exact q0) (by rw [t0]; exact eqI 9998 a0 b0 w)]
  rw [eqFields_cons 9999 _ _ f1 [f2] (.int .i64 a1) (.int .i64 b1) (a1 == b1) w n1 (by rw [t1, o1]; exact p1) (by rw [t1, o1]; exact q1) (by rw [t1]; exact eqI 9998 a1 b1 w)]
  rw [eqFields_cons 9999 _ _ f2 [] (.int .i64 a2) (.int .i64 b2) (a2 == b2) w n2 (by rw [t2, o2]; exact p2) (by rw [t2, o2]; exact q2) (by rw [t2]; exact eqI 9998 a2 b2 w)]
  cases a0 == b0 <;> cases a1 == b1 <;> cases a2 == b2 <;> simp [Op.eqFields]
theorem adjFields : (Try.prog.fieldsOf 68).toList.map (fun f => (f.name == "_", f.type, f.offset)) = [(false, 3, 0), (false, 3, 1)] := by kernel_rfl
theorem adjUnder : Try.prog.underlying 68 = some (.struct (Try.prog.fieldsOf 68)) := by kernel_rfl
theorem adjStood : Try.prog.stoodInHeld 68 = false := by kernel_rfl
theorem eq_adj (a0 a1 b0 b1 : Int) (w : World) : (Op.equalIn 10000 68 (.agg #[.int .i64 a0, .int .i64 a1]) (.agg #[.int .i64 b0, .int .i64 b1])).run Try.prog w = Result.ok (a0 == b0 && a1 == b1) w := by
  rw [run_equalIn_struct w 9999 _ _ _ adjUnder adjStood]
  have hf := adjFields
  generalize (Try.prog.fieldsOf 68).toList = fs at hf
  obtain ⟨p0, p1⟩ := @part2 (.int .i64 a0) (.int .i64 a1) w
  obtain ⟨q0, q1⟩ := @part2 (.int .i64 b0) (.int .i64 b1) w
  obtain ⟨f0, r0, rfl, h0, hf⟩ := List.map_eq_cons_iff.1 hf
  obtain ⟨f1, r1, rfl, h1, hf⟩ := List.map_eq_cons_iff.1 hf
  obtain rfl := List.map_eq_nil_iff.1 hf
  simp only [Prod.mk.injEq] at h0
  obtain ⟨n0, t0, o0⟩ := h0
  simp only [Prod.mk.injEq] at h1
  obtain ⟨n1, t1, o1⟩ := h1
  rw [eqFields_cons 9999 _ _ f0 [f1] (.int .i64 a0) (.int .i64 b0) (a0 == b0) w n0 (by rw [t0, o0]; exact p0) (by rw [t0, o0]; exact q0) (by rw [t0]; exact eqI 9998 a0 b0 w)]
  rw [eqFields_cons 9999 _ _ f1 [] (.int .i64 a1) (.int .i64 b1) (a1 == b1) w n1 (by rw [t1, o1]; exact p1) (by rw [t1, o1]; exact q1) (by rw [t1]; exact eqI 9998 a1 b1 w)]
  cases a0 == b0 <;> cases a1 == b1 <;> simp [Op.eqFields]
theorem linkFields : (Try.prog.fieldsOf 52).toList.map (fun f => (f.name == "_", f.type, f.offset)) = [(false, 3, 0), (false, 3, 1), (false, 3, 2)] := by kernel_rfl
theorem linkUnder : Try.prog.underlying 52 = some (.struct (Try.prog.fieldsOf 52)) := by kernel_rfl
theorem linkStood : Try.prog.stoodInHeld 52 = false := by kernel_rfl
theorem eq_link (a0 a1 a2 b0 b1 b2 : Int) (w : World) : (Op.equalIn 10000 52 (.agg #[.int .i64 a0, .int .i64 a1, .int .i64 a2]) (.agg #[.int .i64 b0, .int .i64 b1, .int .i64 b2])).run Try.prog w = Result.ok (a0 == b0 && a1 == b1 && a2 == b2) w := by
  rw [run_equalIn_struct w 9999 _ _ _ linkUnder linkStood]
  have hf := linkFields
  generalize (Try.prog.fieldsOf 52).toList = fs at hf
  obtain ⟨p0, p1, p2⟩ := @part3 (.int .i64 a0) (.int .i64 a1) (.int .i64 a2) w
  obtain ⟨q0, q1, q2⟩ := @part3 (.int .i64 b0) (.int .i64 b1) (.int .i64 b2) w
  obtain ⟨f0, r0, rfl, h0, hf⟩ := List.map_eq_cons_iff.1 hf
  obtain ⟨f1, r1, rfl, h1, hf⟩ := List.map_eq_cons_iff.1 hf
  obtain ⟨f2, r2, rfl, h2, hf⟩ := List.map_eq_cons_iff.1 hf
  obtain rfl := List.map_eq_nil_iff.1 hf
  simp only [Prod.mk.injEq] at h0
  obtain ⟨n0, t0, o0⟩ := h0
  simp only [Prod.mk.injEq] at h1
  obtain ⟨n1, t1, o1⟩ := h1
  simp only [Prod.mk.injEq] at h2
  obtain ⟨n2, t2, o2⟩ := h2
  rw [eqFields_cons 9999 _ _ f0 [f1, f2] (.int .i64 a0) (.int .i64 b0) (a0 == b0) w n0 (by rw [t0, o0]; exact p0) (by rw [t0, o0]; exact q0) (by rw [t0]; exact eqI 9998 a0 b0 w)]
  rw [eqFields_cons 9999 _ _ f1 [f2] (.int .i64 a1) (.int .i64 b1) (a1 == b1) w n1 (by rw [t1, o1]; exact p1) (by rw [t1, o1]; exact q1) (by rw [t1]; exact eqI 9998 a1 b1 w)]
  rw [eqFields_cons 9999 _ _ f2 [] (.int .i64 a2) (.int .i64 b2) (a2 == b2) w n2 (by rw [t2, o2]; exact p2) (by rw [t2, o2]; exact q2) (by rw [t2]; exact eqI 9998 a2 b2 w)]
  cases a0 == b0 <;> cases a1 == b1 <;> cases a2 == b2 <;> simp [Op.eqFields]

theorem slAt_block {α : Type} {cs : α → List Value} {sz : Nat} (hc : ∀ x, (cs x).length = sz) {w : World} {b : Nat} {T : TypeId} {l : List α} (h : w.heap[b]? = some (.cells (fl cs l).toArray T)) (hn : l.length ≤ 1000) : SlAt cs sz w (.slice (some ⟨b, 0, none⟩) l.length l.length) l := by
  refine ⟨_, _, rfl, by omega, Nat.le_refl _, fun _ => ⟨b, 0, rfl, block_lt h, fun j x hx i v hv => ?_⟩⟩
  have hi : i < sz := by have := (List.getElem?_eq_some_iff.1 hv).1; rwa [hc] at this
  rw [Nat.zero_add, cell_of_row w b _ _ T _ h, List.getElem?_toArray, fl_get hc l j i x hx hi, hv]
theorem slAt_nil {α : Type} (cs : α → List Value) (sz : Nat) (w : World) : SlAt cs sz w (.slice none 0 0) [] := ⟨none, 0, rfl, by simp, by simp, fun h => by simp at h⟩
/-- The three records. -/
def threeR : List Rc := [⟨1, 1, 1, 0, false, [(2, 5)]⟩, ⟨2, 1, 1, 0, false, [(1, 7), (3, 1)]⟩, ⟨3, 1, 1, 0, false, []⟩]
theorem three_ok : bothOk no1 threeR = true := by decide
theorem three_n : bothN threeR = [1, 2, 3] := by decide
theorem three_e : bothE threeR = [(1, 2, 5), (2, 1, 7)] := by decide
theorem three_g : (graphOk [1, 2, 3] [(1, 2, 5), (2, 1, 7)] && hasN [1, 2, 3] 1) = true := by decide
theorem three_p {f : Nat → Bool} (h : IsPart [(1, 2, 5), (2, 1, 7)] 1 f) : markedL f = [1, 2] := by
  have k : IsPart [(1, 2, 5), (2, 1, 7)] 1 (mk1 (mk1 no1 1) 2) := by
    refine isPart_of (ns := [1, 2]) (by simp) (by simp) (fun i hi => ?_) (by decide) (by decide)
    rcases mk1_iff.1 hi with rfl | hi
    · exact (Rch.refl _ _).step (e := (1, 2, 5)) (by simp)
    · rcases mk1_iff.1 hi with rfl | hi
      · exact Rch.refl _ _
      · simp [no1] at hi
  rw [h.same k]
  decide
theorem grAt_of_rows {w : World} {base : Nat} {u v : Value} {ns : List Int} {es : List Ed} (hu : w.ownsRow base 3 1 u ns.length (fl ic ns)) (hv : w.ownsRow base 64 3 v es.length (fl ec es)) : GrAt w u v ns es :=
  ⟨slAt_of_row (cs := ic) (fun _ => rfl) hu rfl, slAt_of_row (cs := ec) (fun _ => rfl) hv rfl⟩
end Go.Proofs.Ytkhfpcnmnnboeaa
