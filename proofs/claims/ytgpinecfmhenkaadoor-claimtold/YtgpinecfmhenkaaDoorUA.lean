/- Bytes, claims, as arguments. -/
import Derived.Test.YtgpinecfmhenkaaDoorU3
namespace Go.Proofs.YtgpinecfmhenkaaDoor
open Go.ChangeShapes Go.WideShapes Go.ChangeAt Go.RowKit

abbrev uc8 (x : Int) : List Value := [.int .u8 x]
section
variable {H : Type} {enc : TypeId × Value → H} {W : World}
theorem ccU8 : Tryd.prog.cellsOf 5 = 1 := by kernel_rfl
theorem bcU8 : Tryd.prog.bytesOf 5 = 1 := by kernel_rfl
theorem ccClaim : Tryd.prog.cellsOf 31 = 2 := by kernel_rfl
theorem ccInts : Tryd.prog.cellsOf 29 = 1 := by kernel_rfl
theorem bcClaim : Tryd.prog.bytesOf 31 = 32 := by kernel_rfl
theorem u8_cells {n : Nat} {cs' : List Value} {x : DataW H × List MemPlace} (h : DataW.trod enc Tryd.prog W 0 (fun _ => true) true n 5 cs' = some x) : ∃ y : Int, cs' = uc8 y ∧ 0 ≤ y ∧ y ≤ 255 := by
  obtain ⟨o, ho, _, w0⟩ := DataW.trod_int Tryd.underlying5 h
  exact ⟨o, ho, bounds_u8 w0⟩
set_option maxRecDepth 100000 in
theorem u8s_arg {a : Option Addr} {len cap : Nat} {d : DataW H} {p : List MemPlace} (h : DataW.Trod enc Tryd.prog W 0 (fun _ => true) true 41 (.slice a len cap) d p) (hw : ∀ n ∈ d.weights Tryd.prog 41, n ≤ reachBytes) :
    ∃ ls, SlAt uc8 1 W (.slice a len cap) ls ∧ (∀ y ∈ ls, 0 ≤ y ∧ y ≤ 255) ∧ NilOk (.slice a len cap) ∧ (ls.length + 1) * 1 ≤ 140737488355328 := by
  obtain ⟨fuel, hf⟩ := h
  obtain ⟨ns, hn1, hn2, hG, hn3⟩ := open_sl 0 (cs := uc8) (sz := 1) (fun _ => rfl) (by omega) Tryd.underlying41 ccU8 (fun n cs' x h => u8_cells h) (by simpa [Value.cells] using hf)
  exact ⟨ns, hn1, hG, hn2, slice_weight Tryd.underlying41 bcU8 (by omega) hw (by rcases hn3 with rfl | h; exact .inl rfl; exact .inr h)⟩
theorem clmF : Tryd.prog.underlying 31 = some (.struct #[(Tryd.prog.fieldsOf 31)[0]!, (Tryd.prog.fieldsOf 31)[1]!]) := by kernel_rfl
theorem clmF' : (((Tryd.prog.fieldsOf 31)[0]!).type = 3 ∧ ((Tryd.prog.fieldsOf 31)[0]!).offset = 0) ∧ ((Tryd.prog.fieldsOf 31)[1]!).type = 29 ∧ ((Tryd.prog.fieldsOf 31)[1]!).offset = 1 := ⟨⟨by kernel_rfl, by kernel_rfl⟩, by kernel_rfl, by kernel_rfl⟩
set_option maxRecDepth 100000 in
theorem clm_cells {n : Nat} {cs' : List Value} {x : DataW H × List MemPlace} (h : DataW.trod enc Tryd.prog W 0 (fun _ => true) true n 31 cs' = some x) : ∃ y : Int × List Int × Value, cs' = clc y ∧ ((Lit.int .i64 y.1).wf = true ∧ ∀ z ∈ y.2.1, (Lit.int .i64 z).wf = true) ∧ SlAt ic 1 W y.2.2 y.2.1 ∧ NilOk y.2.2 := by
  obtain ⟨y0, y1, k, _, hlen, h0, h1⟩ := trod_struct2 clmF h
  obtain ⟨⟨a0, b0⟩, a1, b1⟩ := clmF'
  rw [ccClaim] at hlen
  match cs', hlen with
  | [v0, v1], _ =>
    rw [a0, b0, cInt] at h0
    rw [a1, b1, ccInts] at h1
    obtain ⟨p, hp, _, wp⟩ := DataW.trod_int Tryd.underlying3 h0
    simp at hp
    simp at h1
    obtain ⟨l, hl, hn, hg, _⟩ := open_sl 0 (cs := ic) (sz := 1) (G := fun y => (Lit.int .i64 y).wf = true) (fun _ => rfl) (by omega) Tryd.underlying29 cInt (fun n cs' x h => by
      obtain ⟨q, hq, _, wq⟩ := DataW.trod_int Tryd.underlying3 h
      exact ⟨q, hq, wq⟩) h1
    exact ⟨(p, l, v1), by rw [hp], ⟨wp, hg⟩, hl, hn⟩
set_option maxRecDepth 100000 in
theorem clms_arg {a : Option Addr} {len cap : Nat} {d : DataW H} {p : List MemPlace} (h : DataW.Trod enc Tryd.prog W 0 (fun _ => true) true 22 (.slice a len cap) d p) (hw : ∀ n ∈ d.weights Tryd.prog 22, n ≤ reachBytes) :
    ∃ ls, ClsAt W (.slice a len cap) ls ∧ (∀ y ∈ ls, (Lit.int .i64 y.1).wf = true ∧ ∀ z ∈ y.2.1, (Lit.int .i64 z).wf = true) ∧ NilOk (.slice a len cap) ∧ (ls.length + 1) * 32 ≤ 140737488355328 := by
  obtain ⟨fuel, hf⟩ := h
  obtain ⟨ns, hn1, hn2, hG, hn3⟩ := open_sl (0, [], nilS) (cs := clc) (sz := 2) (fun _ => rfl) (by omega) Tryd.underlying22 ccClaim (fun n cs' x h => clm_cells h) (by simpa [Value.cells] using hf)
  exact ⟨ns, ⟨hn1, fun x hx => (hG x hx).2⟩, fun y hy => (hG y hy).1, hn2, slice_weight Tryd.underlying22 bcClaim (by omega) hw (by rcases hn3 with rfl | h; exact .inl rfl; exact .inr h)⟩
end
end Go.Proofs.YtgpinecfmhenkaaDoor
