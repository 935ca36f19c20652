/- Bytes, claims, as arguments. -/
import Derived.Test.YtnhlonapbohaeaaU3
namespace Go.Proofs.Ytnhlonapbohaeaa
open Go.ChangeShapes Go.WideShapes Go.ChangeAt Go.RowKit

abbrev uc8 (x : Int) : List Value := [.int .u8 x]
section
variable {H : Type} {enc : TypeId × Value → H} {W : World}
theorem ccU8 : Try.prog.cellsOf 5 = 1 := by kernel_rfl
theorem bcU8 : Try.prog.bytesOf 5 = 1 := by kernel_rfl
theorem ccClaim : Try.prog.cellsOf 33 = 2 := by kernel_rfl
theorem ccInts : Try.prog.cellsOf 30 = 1 := by kernel_rfl
theorem bcClaim : Try.prog.bytesOf 33 = 32 := by kernel_rfl
theorem u8_cells {n : Nat} {cs' : List Value} {x : DataW H × List MemPlace} (h : DataW.trod enc Try.prog W 0 (fun _ => true) true n 5 cs' = some x) : ∃ y : Int, cs' = uc8 y ∧ 0 ≤ y ∧ y ≤ 255 := by
  obtain ⟨o, ho, _, w0⟩ := DataW.trod_int Try.underlying5 h
  exact ⟨o, ho, bounds_u8 w0⟩
set_option maxRecDepth 100000 in
theorem u8s_arg {a : Option Addr} {len cap : Nat} {d : DataW H} {p : List MemPlace} (h : DataW.Trod enc Try.prog W 0 (fun _ => true) true 38 (.slice a len cap) d p) (hw : ∀ n ∈ d.weights Try.prog 38, n ≤ reachBytes) :
    ∃ ls, SlAt uc8 1 W (.slice a len cap) ls ∧ (∀ y ∈ ls, 0 ≤ y ∧ y ≤ 255) ∧ NilOk (.slice a len cap) ∧ (ls.length + 1) * 1 ≤ 140737488355328 := by
  obtain ⟨fuel, hf⟩ := h
  obtain ⟨ns, hn1, hn2, hG, hn3⟩ := open_sl 0 (cs := uc8) (sz := 1) (fun _ => rfl) (by omega) Try.underlying38 ccU8 (fun n cs' x h => u8_cells h) (by simpa [Value.cells] using hf)
  exact ⟨ns, hn1, hG, hn2, slice_weight Try.underlying38 bcU8 (by omega) hw (by rcases hn3 with rfl | h; exact .inl rfl; exact .inr h)⟩
theorem clmF : Try.prog.underlying 33 = some (.struct #[(Try.prog.fieldsOf 33)[0]!, (Try.prog.fieldsOf 33)[1]!]) := by kernel_rfl
theorem clmF' : (((Try.prog.fieldsOf 33)[0]!).type = 3 ∧ ((Try.prog.fieldsOf 33)[0]!).offset = 0) ∧ ((Try.prog.fieldsOf 33)[1]!).type = 30 ∧ ((Try.prog.fieldsOf 33)[1]!).offset = 1 := ⟨⟨by kernel_rfl, by kernel_rfl⟩, by kernel_rfl, by kernel_rfl⟩
set_option maxRecDepth 100000 in
theorem clm_cells {n : Nat} {cs' : List Value} {x : DataW H × List MemPlace} (h : DataW.trod enc Try.prog W 0 (fun _ => true) true n 33 cs' = some x) : ∃ y : Int × List Int × Value, cs' = clc y ∧ ((Lit.int .i64 y.1).wf = true ∧ ∀ z ∈ y.2.1, (Lit.int .i64 z).wf = true) ∧ SlAt ic 1 W y.2.2 y.2.1 ∧ NilOk y.2.2 := by
  obtain ⟨y0, y1, k, _, hlen, h0, h1⟩ := trod_struct2 clmF h
  obtain ⟨⟨a0, b0⟩, a1, b1⟩ := clmF'
  rw [ccClaim] at hlen
  match cs', hlen with
  | [v0, v1], _ =>
    rw [a0, b0, cInt] at h0
    rw [a1, b1, ccInts] at h1
    obtain ⟨p, hp, _, wp⟩ := DataW.trod_int Try.underlying3 h0
    simp at hp
    simp at h1
    obtain ⟨l, hl, hn, hg, _⟩ := open_sl 0 (cs := ic) (sz := 1) (G := fun y => (Lit.int .i64 y).wf = true) (fun _ => rfl) (by omega) Try.underlying30 cInt (fun n cs' x h => by
      obtain ⟨q, hq, _, wq⟩ := DataW.trod_int Try.underlying3 h
      exact ⟨q, hq, wq⟩) h1
    exact ⟨(p, l, v1), by rw [hp], ⟨wp, hg⟩, hl, hn⟩
set_option maxRecDepth 100000 in
theorem clms_arg {a : Option Addr} {len cap : Nat} {d : DataW H} {p : List MemPlace} (h : DataW.Trod enc Try.prog W 0 (fun _ => true) true 23 (.slice a len cap) d p) (hw : ∀ n ∈ d.weights Try.prog 23, n ≤ reachBytes) :
    ∃ ls, ClsAt W (.slice a len cap) ls ∧ (∀ y ∈ ls, (Lit.int .i64 y.1).wf = true ∧ ∀ z ∈ y.2.1, (Lit.int .i64 z).wf = true) ∧ NilOk (.slice a len cap) ∧ (ls.length + 1) * 32 ≤ 140737488355328 := by
  obtain ⟨fuel, hf⟩ := h
  obtain ⟨ns, hn1, hn2, hG, hn3⟩ := open_sl (0, [], nilS) (cs := clc) (sz := 2) (fun _ => rfl) (by omega) Try.underlying23 ccClaim (fun n cs' x h => clm_cells h) (by simpa [Value.cells] using hf)
  exact ⟨ns, ⟨hn1, fun x hx => (hG x hx).2⟩, fun y hy => (hG y hy).1, hn2, slice_weight Try.underlying23 bcClaim (by omega) hw (by rcases hn3 with rfl | h; exact .inl rfl; exact .inr h)⟩
end
end Go.Proofs.Ytnhlonapbohaeaa
