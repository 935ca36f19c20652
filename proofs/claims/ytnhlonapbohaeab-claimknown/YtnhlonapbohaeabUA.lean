/- Bytes, claims, as arguments. -/
import Derived.Test.YtnhlonapbohaeabU3
namespace Go.Proofs.Ytnhlonapbohaeab
open Go.ChangeShapes Go.WideShapes Go.ChangeAt Go.RowKit

abbrev uc8 (x : Int) : List Value := [.int .u8 x]
section
variable {H : Type} {enc : TypeId × Value → H} {W : World}
theorem ccU8 : Try.prog.cellsOf 5 = 1 := by kernel_rfl
theorem bcU8 : Try.prog.bytesOf 5 = 1 := by kernel_rfl
theorem ccClaim : Try.prog.cellsOf 24 = 2 := by kernel_rfl
theorem ccInts : Try.prog.cellsOf 22 = 1 := by kernel_rfl
theorem bcClaim : Try.prog.bytesOf 24 = 32 := by kernel_rfl
theorem u8_cells {n : Nat} {cs' : List Value} {x : DataW H × List MemPlace} (h : DataW.trod enc Try.prog W 0 (fun _ => true) true n 5 cs' = some x) : ∃ y : Int, cs' = uc8 y ∧ 0 ≤ y ∧ y ≤ 255 := by
  obtain ⟨o, ho, _, w0⟩ := DataW.trod_int Try.underlying5 h
  exact ⟨o, ho, bounds_u8 w0⟩
theorem clmF : Try.prog.underlying 24 = some (.struct #[(Try.prog.fieldsOf 24)[0]!, (Try.prog.fieldsOf 24)[1]!]) := by kernel_rfl
theorem clmF' : (((Try.prog.fieldsOf 24)[0]!).type = 3 ∧ ((Try.prog.fieldsOf 24)[0]!).offset = 0) ∧ ((Try.prog.fieldsOf 24)[1]!).type = 22 ∧ ((Try.prog.fieldsOf 24)[1]!).offset = 1 := ⟨⟨by kernel_rfl, by kernel_rfl⟩, by kernel_rfl, by kernel_rfl⟩
set_option maxRecDepth 100000 in
theorem clm_cells {n : Nat} {cs' : List Value} {x : DataW H × List MemPlace} (h : DataW.trod enc Try.prog W 0 (fun _ => true) true n 24 cs' = some x) : ∃ y : Int × List Int × Value, cs' = clc y ∧ ((Lit.int .i64 y.1).wf = true ∧ ∀ z ∈ y.2.1, (Lit.int .i64 z).wf = true) ∧ SlAt ic 1 W y.2.2 y.2.1 ∧ NilOk y.2.2 := by
  obtain ⟨y0, y1, k, _, hlen, h0, h1⟩ := trod_struct2 clmF h
  obtain ⟨⟨a0, b0⟩, a1, b1⟩ := clmF'
  rw [ccClaim] at hlen
  match cs', hlen with
  | [v0, v1], _ =>
    rw [a0, b0, cInt] at h0
    rw [a1, b1, ccInts] at h1
    obtain ⟨p, hp, _, wp⟩ := DataW.trod_int Try.underlying3 h0
    simp at hp
    simp at h1
    obtain ⟨l, hl, hn, hg, _⟩ := open_sl 0 (cs := ic) (sz := 1) (G := fun y => (Lit.int .i64 y).wf = true) (fun _ => rfl) (by omega) Try.underlying22 cInt (fun n cs' x h => by
      obtain ⟨q, hq, _, wq⟩ := DataW.trod_int Try.underlying3 h
      exact ⟨q, hq, wq⟩) h1
    exact ⟨(p, l, v1), by rw [hp], ⟨wp, hg⟩, hl, hn⟩
set_option maxRecDepth 100000 in
theorem clms_arg {a : Option Addr} {len cap : Nat} {d : DataW H} {p : List MemPlace} (h : DataW.Trod enc Try.prog W 0 (fun _ => true) true 25 (.slice a len cap) d p) (hw : ∀ n ∈ d.weights Try.prog 25, n ≤ reachBytes) :
    ∃ ls, ClsAt W (.slice a len cap) ls ∧ (∀ y ∈ ls, (Lit.int .i64 y.1).wf = true ∧ ∀ z ∈ y.2.1, (Lit.int .i64 z).wf = true) ∧ NilOk (.slice a len cap) ∧ (ls.length + 1) * 32 ≤ 140737488355328 := by
  obtain ⟨fuel, hf⟩ := h
  obtain ⟨ns, hn1, hn2, hG, hn3⟩ := open_sl (0, [], nilS) (cs := clc) (sz := 2) (fun _ => rfl) (by omega) Try.underlying25 ccClaim (fun n cs' x h => clm_cells h) (by simpa [Value.cells] using hf)
  exact ⟨ns, ⟨hn1, fun x hx => (hG x hx).2⟩, fun y hy => (hG y hy).1, hn2, slice_weight Try.underlying25 bcClaim (by omega) hw (by rcases hn3 with rfl | h; exact .inl rfl; exact .inr h)⟩
end
end Go.Proofs.Ytnhlonapbohaeab
