/- Turns, pairs of small numbers, as arguments. -/
import Derived.Test.YtkkgbcoclfpicaaFO3
import Derived.Test.YtkkgbcoclfpicaaGH
namespace Go.Proofs.Ytkkgbcoclfpicaa.Fa
open Go.ChangeShapes Go.WideShapes Go.ChangeAt Go.RowKit

section
variable {H : Type} {enc : TypeId × Value → H} {W : World}
theorem cEl : Try.prog.cellsOf 5 = 1 := by kernel_rfl
theorem trod_array2 {t e : TypeId} {fuel : Nat} {c0 c1 : Value} {x : DataW H × List MemPlace} (ht : Try.prog.underlying t = some (.array 2 e)) (hce : Try.prog.cellsOf e = 1)
    (h : DataW.trod enc Try.prog W 0 (fun _ => true) true fuel t [c0, c1] = some x) :
    ∃ y0 y1 n, DataW.trod enc Try.prog W 0 (fun _ => true) true n e [c0] = some y0 ∧ DataW.trod enc Try.prog W 0 (fun _ => true) true n e [c1] = some y1 := by
  cases fuel with
  | zero => simp [DataW.trod] at h
  | succ n =>
    unfold DataW.trod at h
    rw [ht] at h
    have r2 : List.range 2 = [0, 1] := rfl
    simp [r2, hce] at h
    obtain ⟨_, h⟩ := h
    cases h0 : DataW.trod enc Try.prog W 0 (fun _ => true) true n e [c0] with
    | none => simp [h0] at h
    | some y0 =>
      cases h1 : DataW.trod enc Try.prog W 0 (fun _ => true) true n e [c1] with
      | none => simp [h0, h1] at h
      | some y1 => exact ⟨y0, y1, n, h0, h1⟩
theorem trod_len {t e : TypeId} {fuel : Nat} {cs : List Value} {x : DataW H × List MemPlace} (h : DataW.trod enc Try.prog W 0 (fun _ => true) true fuel t cs = some x) (ht : Try.prog.underlying t = some (.array 2 e)) : cs.length = Try.prog.cellsOf t := by
  cases fuel with
  | zero => simp [DataW.trod] at h
  | succ n =>
    unfold DataW.trod at h
    rw [ht] at h
    by_cases hc : cs.length = Try.prog.cellsOf t
    · exact hc
    · simp [hc] at h
theorem cTu : Try.prog.cellsOf 76 = 5 := by kernel_rfl
theorem bTu : Try.prog.bytesOf 76 = 5 := by kernel_rfl
theorem TuF : Try.prog.underlying 76 = some (.struct #[(Try.prog.fieldsOf 76)[0]!, (Try.prog.fieldsOf 76)[1]!, (Try.prog.fieldsOf 76)[2]!, (Try.prog.fieldsOf 76)[3]!, (Try.prog.fieldsOf 76)[4]!]) := by kernel_rfl
theorem TuF0 : ((Try.prog.fieldsOf 76)[0]!).type = 5 ∧ ((Try.prog.fieldsOf 76)[0]!).offset = 0 := ⟨by kernel_rfl, by kernel_rfl⟩
theorem TuF1 : ((Try.prog.fieldsOf 76)[1]!).type = 5 ∧ ((Try.prog.fieldsOf 76)[1]!).offset = 1 := ⟨by kernel_rfl, by kernel_rfl⟩
theorem TuF2 : ((Try.prog.fieldsOf 76)[2]!).type = 5 ∧ ((Try.prog.fieldsOf 76)[2]!).offset = 2 := ⟨by kernel_rfl, by kernel_rfl⟩
theorem TuF3 : ((Try.prog.fieldsOf 76)[3]!).type = 5 ∧ ((Try.prog.fieldsOf 76)[3]!).offset = 3 := ⟨by kernel_rfl, by kernel_rfl⟩
theorem TuF4 : ((Try.prog.fieldsOf 76)[4]!).type = 5 ∧ ((Try.prog.fieldsOf 76)[4]!).offset = 4 := ⟨by kernel_rfl, by kernel_rfl⟩
set_option maxRecDepth 100000 in
theorem Tu_cells {n : Nat} {cs' : List Value} {x : DataW H × List MemPlace} (h : DataW.trod enc Try.prog W 0 (fun _ => true) true n 76 cs' = some x) : ∃ y : Tu, cs' = tuC y ∧ Tu8 y := by
  obtain ⟨xs, k, _, _, hlen, hxl, hf⟩ := DataW.trod_struct TuF h
  rw [cTu] at hlen
  match cs', hlen with
  | [v0, v1, v2, v3, v4], _ =>
    match xs, hxl with
    | [z0, z1, z2, z3, z4], _ =>
      have g0 := hf 0 ((Try.prog.fieldsOf 76)[0]!) rfl
      rw [TuF0.1, TuF0.2] at g0
      simp [cEl] at g0
      have g1 := hf 1 ((Try.prog.fieldsOf 76)[1]!) rfl
      rw [TuF1.1, TuF1.2] at g1
      simp [cEl] at g1
      have g2 := hf 2 ((Try.prog.fieldsOf 76)[2]!) rfl
      rw [TuF2.1, TuF2.2] at g2
      simp [cEl] at g2
      have g3 := hf 3 ((Try.prog.fieldsOf 76)[3]!) rfl
      rw [TuF3.1, TuF3.2] at g3
      simp [cEl] at g3
      have g4 := hf 4 ((Try.prog.fieldsOf 76)[4]!) rfl
      rw [TuF4.1, TuF4.2] at g4
      simp [cEl] at g4
      obtain ⟨p0, hp0, _, w0⟩ := DataW.trod_int Try.underlying5 g0
      have e0 := bounds_u8 w0
      obtain ⟨p1, hp1, _, w1⟩ := DataW.trod_int Try.underlying5 g1
      have e1 := bounds_u8 w1
      obtain ⟨p2, hp2, _, w2⟩ := DataW.trod_int Try.underlying5 g2
      have e2 := bounds_u8 w2
      obtain ⟨p3, hp3, _, w3⟩ := DataW.trod_int Try.underlying5 g3
      have e3 := bounds_u8 w3
      obtain ⟨p4, hp4, _, w4⟩ := DataW.trod_int Try.underlying5 g4
      have e4 := bounds_u8 w4
      obtain ⟨p0, rfl⟩ := Int.eq_ofNat_of_zero_le e0.1
      obtain ⟨p1, rfl⟩ := Int.eq_ofNat_of_zero_le e1.1
      obtain ⟨p2, rfl⟩ := Int.eq_ofNat_of_zero_le e2.1
      obtain ⟨p3, rfl⟩ := Int.eq_ofNat_of_zero_le e3.1
      obtain ⟨p4, rfl⟩ := Int.eq_ofNat_of_zero_le e4.1
      simp at hp0 hp1 hp2 hp3 hp4
      exact ⟨(p0, p1, p2, p3, p4), by simp only [hp0, hp1, hp2, hp3, hp4], by unfold Tu8; simp only; omega⟩
theorem cU2 : Try.prog.cellsOf 53 = 2 := by kernel_rfl
theorem bU2 : Try.prog.bytesOf 53 = 2 := by kernel_rfl
set_option maxRecDepth 100000 in
theorem U2_cells {n : Nat} {cs' : List Value} {x : DataW H × List MemPlace} (h : DataW.trod enc Try.prog W 0 (fun _ => true) true n 53 cs' = some x) : ∃ y : Nat × Nat, cs' = u2C y ∧ y.1 < 256 ∧ y.2 < 256 := by
  have hlen : cs'.length = 2 := by rw [← cU2]; exact trod_len h Try.underlying53
  match cs', hlen with
  | [v0, v1], _ =>
    obtain ⟨y0, y1, k, h0, h1⟩ := trod_array2 Try.underlying53 cEl h
    obtain ⟨p0, hp0, _, w0⟩ := DataW.trod_int Try.underlying5 h0
    have e0 := bounds_u8 w0
    obtain ⟨p1, hp1, _, w1⟩ := DataW.trod_int Try.underlying5 h1
    have e1 := bounds_u8 w1
    obtain ⟨p0, rfl⟩ := Int.eq_ofNat_of_zero_le e0.1
    obtain ⟨p1, rfl⟩ := Int.eq_ofNat_of_zero_le e1.1
    simp at hp0 hp1
    exact ⟨(p0, p1), by simp only [hp0, hp1], by simp only; omega⟩
set_option maxRecDepth 100000 in
theorem turns_arg {a : Option Addr} {len cap : Nat} {d : DataW H} {p : List MemPlace} (h : DataW.Trod enc Try.prog W 0 (fun _ => true) true 49 (.slice a len cap) d p) (hw : ∀ n ∈ d.weights Try.prog 49, n ≤ reachBytes) :
    ∃ ls, SlAt tuC 5 W (.slice a len cap) ls ∧ (∀ y ∈ ls, Tu8 y) ∧ NilOk (.slice a len cap) ∧ (ls.length + 1) * 5 ≤ 140737488355328 := by
  obtain ⟨fuel, hf⟩ := h
  obtain ⟨ns, hn1, hn2, hG, hn3⟩ := open_sl (0, 0, 0, 0, 0) (cs := tuC) (sz := 5) (fun _ => rfl) (by omega) Try.underlying49 cTu (fun n cs' x h => Tu_cells h) (by simpa [Value.cells] using hf)
  exact ⟨ns, hn1, hG, hn2, slice_weight Try.underlying49 bTu (by omega) hw (by rcases hn3 with rfl | h; exact .inl rfl; exact .inr h)⟩
set_option maxRecDepth 100000 in
theorem u2s_arg {a : Option Addr} {len cap : Nat} {d : DataW H} {p : List MemPlace} (h : DataW.Trod enc Try.prog W 0 (fun _ => true) true 50 (.slice a len cap) d p) (hw : ∀ n ∈ d.weights Try.prog 50, n ≤ reachBytes) :
    ∃ ls, SlAt u2C 2 W (.slice a len cap) ls ∧ (∀ y ∈ ls, y.1 < 256 ∧ y.2 < 256) ∧ NilOk (.slice a len cap) ∧ (ls.length + 1) * 2 ≤ 140737488355328 := by
  obtain ⟨fuel, hf⟩ := h
  obtain ⟨ns, hn1, hn2, hG, hn3⟩ := open_sl (0, 0) (cs := u2C) (sz := 2) (fun _ => rfl) (by omega) Try.underlying50 cU2 (fun n cs' x h => U2_cells h) (by simpa [Value.cells] using hf)
  exact ⟨ns, hn1, hG, hn2, slice_weight Try.underlying50 bU2 (by omega) hw (by rcases hn3 with rfl | h; exact .inl rfl; exact .inr h)⟩
end
end Go.Proofs.Ytkkgbcoclfpicaa.Fa
