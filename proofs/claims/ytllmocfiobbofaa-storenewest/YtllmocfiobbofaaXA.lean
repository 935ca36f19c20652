/- Records and stamps as arguments. -/
import Derived.Test.YtllmocfiobbofaaX1
import Derived.Test.YtllmocfiobbofaaGH
namespace Go.Proofs.Ytllmocfiobbofaa
open Go.ChangeShapes Go.WideShapes Go.ChangeAt Go.RowKit

section
variable {H : Type} {enc : TypeId × Value → H} {W : World}
theorem six {α : Type} {cs : Array α} (h : cs.size = 6) : ∃ c0 c1 c2 c3 c4 c5, cs = #[c0, c1, c2, c3, c4, c5] := by
  obtain ⟨l⟩ := cs
  match l, h with
  | [a, b, c, d, e, f], _ => exact ⟨a, b, c, d, e, f, rfl⟩
theorem bAdj : Try.prog.bytesOf 78 = 16 := by kernel_rfl
theorem cStamp : Try.prog.cellsOf 72 = 3 := by kernel_rfl
theorem stampF : Try.prog.underlying 72 = some (.struct #[(Try.prog.fieldsOf 72)[0]!, (Try.prog.fieldsOf 72)[1]!, (Try.prog.fieldsOf 72)[2]!]) := by kernel_rfl
theorem stampF' : ((Try.prog.fieldsOf 72)[0]!).type = 3 ∧ ((Try.prog.fieldsOf 72)[1]!).type = 25 ∧ ((Try.prog.fieldsOf 72)[2]!).type = 25 := ⟨by kernel_rfl, by kernel_rfl, by kernel_rfl⟩
set_option maxRecDepth 100000 in
/-- A stamp as an argument. -/
theorem stamp_arg {r : Reach} {b0 : Nat} {v : Value} {d : DataW H} {p : List MemPlace} (hv : Value.okWide Try.prog W r b0 72 v) (h : DataW.Trod enc Try.prog W 0 (fun _ => true) true 72 v d p) :
    ∃ o e q : Int, v = stV o e q ∧ (0 ≤ e ∧ e < 4294967296) ∧ (0 ≤ q ∧ q < 4294967296) := by
  obtain ⟨v0, v1, v2, y0, y1, y2, m, rfl, _, _, h0, h1, h2⟩ := Joins.open_agg3 stampF (by kernel_rfl) cStamp hv h
  rw [stampF'.1] at h0
  rw [stampF'.2.1] at h1
  rw [stampF'.2.2] at h2
  obtain ⟨o, ho, _⟩ := DataW.trod_int Try.underlying3 h0
  obtain ⟨e, he, _, we⟩ := DataW.trod_int Try.underlying25 h1
  obtain ⟨q, hq, _, wq⟩ := DataW.trod_int Try.underlying25 h2
  simp at ho he hq
  have b1 := bounds_u32 we
  have b2 := bounds_u32 wq
  exact ⟨o, e, q, by rw [ho, he, hq], by omega, by omega⟩
set_option maxRecDepth 100000 in
/-- A record as an argument. -/
theorem rec_arg {r : Reach} {b0 : Nat} {v : Value} {d : DataW H} {p : List MemPlace} (hv : Value.okWide Try.prog W r b0 28 v) (h : DataW.Trod enc Try.prog W 0 (fun _ => true) true 28 v d p) (hw : ∀ n ∈ d.weights Try.prog 28, n ≤ reachBytes) :
    ∃ (y : Rc) (va : Value), v = recV y va ∧ SlAt ac 2 W va y.adjs ∧ NilOk va ∧ RcB y ∧ (y.adjs.length + 1) * 16 ≤ 140737488355328 := by
  obtain ⟨cs, rfl, hsz⟩ := okWide_struct recF hv
  rw [cRec] at hsz
  obtain ⟨v0, v1, v2, v3, v4, v5, rfl⟩ := six hsz
  obtain ⟨fuel, hf⟩ := h
  obtain ⟨xs, k, _, hx, hlen, hxl, hfd⟩ := DataW.trod_struct recF hf
  match xs, hxl with
  | [z0, z1, z2, z3, z4, z5], _ =>
    have g0 := hfd 0 ((Try.prog.fieldsOf 28)[0]!) rfl
    have g1 := hfd 1 ((Try.prog.fieldsOf 28)[1]!) rfl
    have g2 := hfd 2 ((Try.prog.fieldsOf 28)[2]!) rfl
    have g3 := hfd 3 ((Try.prog.fieldsOf 28)[3]!) rfl
    have g4 := hfd 4 ((Try.prog.fieldsOf 28)[4]!) rfl
    have g5 := hfd 5 ((Try.prog.fieldsOf 28)[5]!) rfl
    rw [(recF' 0 (by omega)).1, (recF' 0 (by omega)).2] at g0
    rw [(recF' 1 (by omega)).1, (recF' 1 (by omega)).2] at g1
    rw [(recF' 2 (by omega)).1, (recF' 2 (by omega)).2] at g2
    rw [(recF' 3 (by omega)).1, (recF' 3 (by omega)).2] at g3
    rw [(recF' 4 (by omega)).1, (recF' 4 (by omega)).2] at g4
    rw [(recF' 5 (by omega)).1, (recF' 5 (by omega)).2] at g5
    simp [cInt, cU32, cBool, cAdjs, Value.cells] at g0 g1 g2 g3 g4 g5
    obtain ⟨o, ho, _⟩ := DataW.trod_int Try.underlying3 g0
    obtain ⟨e, he, _, wfe⟩ := DataW.trod_int Try.underlying25 g1
    obtain ⟨s, hs, _, wfs⟩ := DataW.trod_int Try.underlying25 g2
    obtain ⟨c, hc, _⟩ := DataW.trod_int Try.underlying3 g3
    obtain ⟨b, hb, _⟩ := DataW.trod_bool Try.underlying4 g4
    obtain ⟨l, hl, hn, _, hll⟩ := open_sl (0, 0) (cs := ac) (sz := 2) (fun _ => rfl) (by omega) Try.underlying26 cAdj (fun n cs' x h => adj_cells h) g5
    simp at ho he hs hc hb
    have b1 := bounds_u32 wfe
    have b2 := bounds_u32 wfs
    refine ⟨⟨o, e, s, c, b, l⟩, v5, by simp [ho, he, hs, hc, hb], hl, hn, ⟨by show 0 ≤ e; omega, by show e < _; omega, by show 0 ≤ s; omega, by show s < _; omega⟩, ?_⟩
    simp only [Prod.mk.injEq] at hx
    have hd := hx.1
    refine slice_weight (d := z5.1) Try.underlying26 bAdj (by omega) (fun n hn => hw n ?_) (by rcases hll with rfl | h; exact .inl rfl; exact .inr h)
    rw [hd]
    simp only [DataW.weights, recF, List.map_cons, List.map_nil, DataW.weightsEach, (recF' 0 (by omega)).1, (recF' 1 (by omega)).1, (recF' 2 (by omega)).1, (recF' 3 (by omega)).1, (recF' 4 (by omega)).1, (recF' 5 (by omega)).1, List.append_nil, List.mem_append]
    simp [hn]
end
end Go.Proofs.Ytllmocfiobbofaa
