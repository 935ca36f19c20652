/- Steps of the calendar, as an argument. -/
import Derived.Test.YtaldehgggilmdaaCA
import Derived.Laws.IdiomArrays
namespace Go.Proofs.Ytaldehgggilmdaa
open Go.ChangeShapes Go.WideShapes Go.ChangeAt Go.RowKit

abbrev dwC (d : (Int × Int) × Int × ByteArray) : List Value := [.int .i64 d.1.1, .int .u64 d.1.2, .int .i64 d.2.1, .string d.2.2]
section
variable {H : Type} {enc : TypeId × Value → H} {W : World}
theorem cDo : Try.prog.cellsOf 33 = 4 := by kernel_rfl
theorem bDo : Try.prog.bytesOf 33 = 40 := by kernel_rfl
theorem cInd : Try.prog.cellsOf 3 = 1 := by kernel_rfl
theorem cStd : Try.prog.cellsOf 9 = 1 := by kernel_rfl
theorem DoF : Try.prog.underlying 33 = some (.struct #[(Try.prog.fieldsOf 33)[0]!, (Try.prog.fieldsOf 33)[1]!, (Try.prog.fieldsOf 33)[2]!, (Try.prog.fieldsOf 33)[3]!]) := by kernel_rfl
theorem DoF0 : ((Try.prog.fieldsOf 33)[0]!).type = 3 ∧ ((Try.prog.fieldsOf 33)[0]!).offset = 0 := ⟨by kernel_rfl, by kernel_rfl⟩
theorem DoF1 : ((Try.prog.fieldsOf 33)[1]!).type = 31 ∧ ((Try.prog.fieldsOf 33)[1]!).offset = 1 := ⟨by kernel_rfl, by kernel_rfl⟩
theorem DoF2 : ((Try.prog.fieldsOf 33)[2]!).type = 3 ∧ ((Try.prog.fieldsOf 33)[2]!).offset = 2 := ⟨by kernel_rfl, by kernel_rfl⟩
theorem DoF3 : ((Try.prog.fieldsOf 33)[3]!).type = 9 ∧ ((Try.prog.fieldsOf 33)[3]!).offset = 3 := ⟨by kernel_rfl, by kernel_rfl⟩
set_option maxRecDepth 100000 in
theorem do_cells {n : Nat} {cs' : List Value} {x : DataW H × List MemPlace} (h : DataW.trod enc Try.prog W 0 (fun _ => true) true n 33 cs' = some x) : ∃ y : (Int × Int) × Int × ByteArray, cs' = dwC y ∧ (Lit.int .i64 y.2.1).wf = true := by
  obtain ⟨xs, k, _, _, hlen, hxl, hf⟩ := DataW.trod_struct DoF h
  rw [cDo] at hlen
  match cs', hlen with
  | [v0, v1, v2, v3], _ =>
    match xs, hxl with
    | [z0, z1, z2, z3], _ =>
      have g0 := hf 0 ((Try.prog.fieldsOf 33)[0]!) rfl
      rw [DoF0.1, DoF0.2] at g0
      simp [cInd] at g0
      have g1 := hf 1 ((Try.prog.fieldsOf 33)[1]!) rfl
      rw [DoF1.1, DoF1.2] at g1
      simp [cU64t] at g1
      have g2 := hf 2 ((Try.prog.fieldsOf 33)[2]!) rfl
      rw [DoF2.1, DoF2.2] at g2
      simp [cInd] at g2
      have g3 := hf 3 ((Try.prog.fieldsOf 33)[3]!) rfl
      rw [DoF3.1, DoF3.2] at g3
      simp [cStd] at g3
      obtain ⟨a, ha, _, _⟩ := DataW.trod_int Try.underlying3 g0
      obtain ⟨b, hb, _, _⟩ := DataW.trod_int Try.underlying31 g1
      obtain ⟨c, hc, _, wc⟩ := DataW.trod_int Try.underlying3 g2
      obtain ⟨s, hs, _⟩ := DataW.trod_string Try.underlying9 g3
      simp at ha hb hc hs
      exact ⟨((a, b), c, s), by simp only [ha, hb, hc, hs], wc⟩
set_option maxRecDepth 100000 in
theorem dos_arg {a : Option Addr} {len cap : Nat} {d : DataW H} {p : List MemPlace} (h : DataW.Trod enc Try.prog W 0 (fun _ => true) true 22 (.slice a len cap) d p) (hw : ∀ n ∈ d.weights Try.prog 22, n ≤ reachBytes) :
    ∃ ls, SlAt dwC 4 W (.slice a len cap) ls ∧ (∀ y ∈ ls, (Lit.int .i64 y.2.1).wf = true) ∧ NilOk (.slice a len cap) ∧ (ls.length + 1) * 40 ≤ 140737488355328 := by
  obtain ⟨fuel, hf⟩ := h
  obtain ⟨ns, hn1, hn2, hG, hn3⟩ := open_sl ((0, 0), 0, ⟨#[]⟩) (cs := dwC) (sz := 4) (fun _ => rfl) (by omega) Try.underlying22 cDo (fun n cs' x h => do_cells h) (by simpa [Value.cells] using hf)
  exact ⟨ns, hn1, hG, hn2, slice_weight Try.underlying22 bDo (by omega) hw (by rcases hn3 with rfl | h; exact .inl rfl; exact .inr h)⟩
end
end Go.Proofs.Ytaldehgggilmdaa
