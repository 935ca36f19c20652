/- Small numbers of four, stamps, as arguments. -/
import Derived.Test.YtllmocfiobbofaaN8
import Derived.Test.YtllmocfiobbofaaXA
namespace Go.Proofs.Ytllmocfiobbofaa
open Go.ChangeShapes Go.WideShapes Go.ChangeAt Go.RowKit

section
variable {H : Type} {enc : TypeId × Value → H} {W : World}
theorem cU8' : Try.prog.cellsOf 5 = 1 := by kernel_rfl
theorem cTe : Try.prog.cellsOf 69 = 4 := by kernel_rfl
theorem bTe : Try.prog.bytesOf 69 = 4 := by kernel_rfl
theorem bSt : Try.prog.bytesOf 72 = 16 := by kernel_rfl
theorem teF : Try.prog.underlying 69 = some (.struct #[(Try.prog.fieldsOf 69)[0]!, (Try.prog.fieldsOf 69)[1]!, (Try.prog.fieldsOf 69)[2]!, (Try.prog.fieldsOf 69)[3]!]) := by kernel_rfl
theorem teF' (i : Nat) (hi : i < 4) : ((Try.prog.fieldsOf 69)[i]!).type = 5 ∧ ((Try.prog.fieldsOf 69)[i]!).offset = i := by
  match i, hi with
  | 0, _ => exact ⟨by kernel_rfl, by kernel_rfl⟩
  | 1, _ => exact ⟨by kernel_rfl, by kernel_rfl⟩
  | 2, _ => exact ⟨by kernel_rfl, by kernel_rfl⟩
  | 3, _ => exact ⟨by kernel_rfl, by kernel_rfl⟩
set_option maxRecDepth 100000 in
theorem te_cells {n : Nat} {cs' : List Value} {x : DataW H × List MemPlace} (h : DataW.trod enc Try.prog W 0 (fun _ => true) true n 69 cs' = some x) : ∃ y : Te, cs' = te4 y ∧ (0 ≤ y.1 ∧ y.1 ≤ 255) ∧ (0 ≤ y.2.1 ∧ y.2.1 ≤ 255) ∧ (0 ≤ y.2.2.1 ∧ y.2.2.1 ≤ 255) ∧ 0 ≤ y.2.2.2 ∧ y.2.2.2 ≤ 255 := by
  obtain ⟨xs, k, _, _, hlen, hxl, hf⟩ := DataW.trod_struct teF h
  rw [cTe] at hlen
  match cs', hlen with
  | [v0, v1, v2, v3], _ =>
    match xs, hxl with
    | [z0, z1, z2, z3], _ =>
      have g0 := hf 0 ((Try.prog.fieldsOf 69)[0]!) rfl
      have g1 := hf 1 ((Try.prog.fieldsOf 69)[1]!) rfl
      have g2 := hf 2 ((Try.prog.fieldsOf 69)[2]!) rfl
      have g3 := hf 3 ((Try.prog.fieldsOf 69)[3]!) rfl
      rw [(teF' 0 (by omega)).1, (teF' 0 (by omega)).2] at g0
      rw [(teF' 1 (by omega)).1, (teF' 1 (by omega)).2] at g1
      rw [(teF' 2 (by omega)).1, (teF' 2 (by omega)).2] at g2
      rw [(teF' 3 (by omega)).1, (teF' 3 (by omega)).2] at g3
      simp [cU8'] at g0 g1 g2 g3
      obtain ⟨o, ho, _, w0⟩ := DataW.trod_int Try.underlying5 g0
      obtain ⟨e, he, _, w1⟩ := DataW.trod_int Try.underlying5 g1
      obtain ⟨s, hs, _, w2⟩ := DataW.trod_int Try.underlying5 g2
      obtain ⟨c, hc, _, w3⟩ := DataW.trod_int Try.underlying5 g3
      simp at ho he hs hc
      exact ⟨(o, e, s, c), by simp [te4, ho, he, hs, hc], bounds_u8 w0, bounds_u8 w1, bounds_u8 w2, bounds_u8 w3⟩
set_option maxRecDepth 100000 in
theorem te_arg {a : Option Addr} {len cap : Nat} {d : DataW H} {p : List MemPlace} (h : DataW.Trod enc Try.prog W 0 (fun _ => true) true 65 (.slice a len cap) d p) (hw : ∀ n ∈ d.weights Try.prog 65, n ≤ reachBytes) :
    ∃ ls, SlAt te4 4 W (.slice a len cap) ls ∧ TeB ls ∧ NilOk (.slice a len cap) ∧ (ls.length + 1) * 4 ≤ 140737488355328 := by
  obtain ⟨fuel, hf⟩ := h
  obtain ⟨ns, hn1, hn2, hG, hn3⟩ := open_sl (0, 0, 0, 0) (cs := te4) (sz := 4) (fun _ => rfl) (by omega) Try.underlying65 cTe (fun n cs' x h => te_cells h) (by simpa [Value.cells] using hf)
  exact ⟨ns, hn1, hG, hn2, slice_weight Try.underlying65 bTe (by omega) hw (by rcases hn3 with rfl | h; exact .inl rfl; exact .inr h)⟩
theorem stF2 : (((Try.prog.fieldsOf 72)[0]!).type = 3 ∧ ((Try.prog.fieldsOf 72)[0]!).offset = 0) ∧ (((Try.prog.fieldsOf 72)[1]!).type = 25 ∧ ((Try.prog.fieldsOf 72)[1]!).offset = 1) ∧ ((Try.prog.fieldsOf 72)[2]!).type = 25 ∧ ((Try.prog.fieldsOf 72)[2]!).offset = 2 := ⟨⟨by kernel_rfl, by kernel_rfl⟩, ⟨by kernel_rfl, by kernel_rfl⟩, by kernel_rfl, by kernel_rfl⟩
set_option maxRecDepth 100000 in
theorem st_cells {n : Nat} {cs' : List Value} {x : DataW H × List MemPlace} (h : DataW.trod enc Try.prog W 0 (fun _ => true) true n 72 cs' = some x) : ∃ y : Ed, cs' = sc3 y ∧ 0 ≤ y.2.1 ∧ 0 ≤ y.2.2 := by
  obtain ⟨y0, y1, y2, k, _, hlen, h0, h1, h2⟩ := Deep.trod_struct3 stampF h
  obtain ⟨⟨a0, b0⟩, ⟨a1, b1⟩, a2, b2⟩ := stF2
  rw [cStamp] at hlen
  match cs', hlen with
  | [v0, v1, v2], _ =>
    rw [a0, b0, cInt] at h0
    rw [a1, b1, cU32] at h1
    rw [a2, b2, cU32] at h2
    obtain ⟨p, hp, _, wp⟩ := DataW.trod_int Try.underlying3 h0
    obtain ⟨q, hq, _, wq⟩ := DataW.trod_int Try.underlying25 h1
    obtain ⟨r, hr, _, wr⟩ := DataW.trod_int Try.underlying25 h2
    simp at hp hq hr
    exact ⟨(p, q, r), by rw [hp, hq, hr], (bounds_u32 wq).1, (bounds_u32 wr).1⟩
set_option maxRecDepth 100000 in
theorem st_arg {a : Option Addr} {len cap : Nat} {d : DataW H} {p : List MemPlace} (h : DataW.Trod enc Try.prog W 0 (fun _ => true) true 39 (.slice a len cap) d p) (hw : ∀ n ∈ d.weights Try.prog 39, n ≤ reachBytes) :
    ∃ ls, SlAt sc3 3 W (.slice a len cap) ls ∧ (∀ y ∈ ls, 0 ≤ y.2.1 ∧ 0 ≤ y.2.2) ∧ NilOk (.slice a len cap) ∧ (ls.length + 1) * 16 ≤ 140737488355328 := by
  obtain ⟨fuel, hf⟩ := h
  obtain ⟨ns, hn1, hn2, hG, hn3⟩ := open_sl (0, 0, 0) (cs := sc3) (sz := 3) (fun _ => rfl) (by omega) Try.underlying39 cStamp (fun n cs' x h => st_cells h) (by simpa [Value.cells] using hf)
  exact ⟨ns, hn1, hG, hn2, slice_weight Try.underlying39 bSt (by omega) hw (by rcases hn3 with rfl | h; exact .inl rfl; exact .inr h)⟩
end
end Go.Proofs.Ytllmocfiobbofaa
