/- Rules, pairs of numbers, as arguments. -/
import Derived.Test.YtkkgbcoclfpicaaFP5
import Derived.Test.YtkkgbcoclfpicaaGH
namespace Go.Proofs.Ytkkgbcoclfpicaa.Fa
open Go.ChangeShapes Go.WideShapes Go.ChangeAt Go.RowKit

section
variable {H : Type} {enc : TypeId × Value → H} {W : World}
theorem cEl : Try.prog.cellsOf 3 = 1 := by kernel_rfl
theorem trod_array2 {t e : TypeId} {fuel : Nat} {c0 c1 : Value} {x : DataW H × List MemPlace} (ht : Try.prog.underlying t = some (.array 2 e)) (hce : Try.prog.cellsOf e = 1)
    (h : DataW.trod enc Try.prog W 0 (fun _ => true) true fuel t [c0, c1] = some x) :
    ∃ y0 y1 n, DataW.trod enc Try.prog W 0 (fun _ => true) true n e [c0] = some y0 ∧ DataW.trod enc Try.prog W 0 (fun _ => true) true n e [c1] = some y1 := by
  cases fuel with
  | zero => simp [DataW.trod] at h
  | succ n =>
    unfold DataW.trod at h
    rw [ht] at h
    have r2 : List.range 2 = [0, 1] := rfl
    simp [r2, hce] at h
    obtain ⟨_, h⟩ := h
    cases h0 : DataW.trod enc Try.prog W 0 (fun _ => true) true n e [c0] with
    | none => simp [h0] at h
    | some y0 =>
      cases h1 : DataW.trod enc Try.prog W 0 (fun _ => true) true n e [c1] with
      | none => simp [h0, h1] at h
      | some y1 => exact ⟨y0, y1, n, h0, h1⟩
theorem trod_len {t e : TypeId} {fuel : Nat} {cs : List Value} {x : DataW H × List MemPlace} (h : DataW.trod enc Try.prog W 0 (fun _ => true) true fuel t cs = some x) (ht : Try.prog.underlying t = some (.array 2 e)) : cs.length = Try.prog.cellsOf t := by
  cases fuel with
  | zero => simp [DataW.trod] at h
  | succ n =>
    unfold DataW.trod at h
    rw [ht] at h
    by_cases hc : cs.length = Try.prog.cellsOf t
    · exact hc
    · simp [hc] at h
theorem cRr : Try.prog.cellsOf 32 = 5 := by kernel_rfl
theorem bRr : Try.prog.bytesOf 32 = 40 := by kernel_rfl
theorem RrF : Try.prog.underlying 32 = some (.struct #[(Try.prog.fieldsOf 32)[0]!, (Try.prog.fieldsOf 32)[1]!, (Try.prog.fieldsOf 32)[2]!, (Try.prog.fieldsOf 32)[3]!, (Try.prog.fieldsOf 32)[4]!]) := by kernel_rfl
theorem RrF0 : ((Try.prog.fieldsOf 32)[0]!).type = 3 ∧ ((Try.prog.fieldsOf 32)[0]!).offset = 0 := ⟨by kernel_rfl, by kernel_rfl⟩
theorem RrF1 : ((Try.prog.fieldsOf 32)[1]!).type = 3 ∧ ((Try.prog.fieldsOf 32)[1]!).offset = 1 := ⟨by kernel_rfl, by kernel_rfl⟩
theorem RrF2 : ((Try.prog.fieldsOf 32)[2]!).type = 3 ∧ ((Try.prog.fieldsOf 32)[2]!).offset = 2 := ⟨by kernel_rfl, by kernel_rfl⟩
theorem RrF3 : ((Try.prog.fieldsOf 32)[3]!).type = 3 ∧ ((Try.prog.fieldsOf 32)[3]!).offset = 3 := ⟨by kernel_rfl, by kernel_rfl⟩
theorem RrF4 : ((Try.prog.fieldsOf 32)[4]!).type = 3 ∧ ((Try.prog.fieldsOf 32)[4]!).offset = 4 := ⟨by kernel_rfl, by kernel_rfl⟩
set_option maxRecDepth 100000 in
theorem Rr_cells {n : Nat} {cs' : List Value} {x : DataW H × List MemPlace} (h : DataW.trod enc Try.prog W 0 (fun _ => true) true n 32 cs' = some x) : ∃ y : Ru, cs' = ruC y ∧ Ru64 y := by
  obtain ⟨xs, k, _, _, hlen, hxl, hf⟩ := DataW.trod_struct RrF h
  rw [cRr] at hlen
  match cs', hlen with
  | [v0, v1, v2, v3, v4], _ =>
    match xs, hxl with
    | [z0, z1, z2, z3, z4], _ =>
      have g0 := hf 0 ((Try.prog.fieldsOf 32)[0]!) rfl
      rw [RrF0.1, RrF0.2] at g0
      simp [cEl] at g0
      have g1 := hf 1 ((Try.prog.fieldsOf 32)[1]!) rfl
      rw [RrF1.1, RrF1.2] at g1
      simp [cEl] at g1
      have g2 := hf 2 ((Try.prog.fieldsOf 32)[2]!) rfl
      rw [RrF2.1, RrF2.2] at g2
      simp [cEl] at g2
      have g3 := hf 3 ((Try.prog.fieldsOf 32)[3]!) rfl
      rw [RrF3.1, RrF3.2] at g3
      simp [cEl] at g3
      have g4 := hf 4 ((Try.prog.fieldsOf 32)[4]!) rfl
      rw [RrF4.1, RrF4.2] at g4
      simp [cEl] at g4
      obtain ⟨p0, hp0, _, w0⟩ := DataW.trod_int Try.underlying3 g0
      have e0 := bounds_i64 w0
      obtain ⟨p1, hp1, _, w1⟩ := DataW.trod_int Try.underlying3 g1
      have e1 := bounds_i64 w1
      obtain ⟨p2, hp2, _, w2⟩ := DataW.trod_int Try.underlying3 g2
      have e2 := bounds_i64 w2
      obtain ⟨p3, hp3, _, w3⟩ := DataW.trod_int Try.underlying3 g3
      have e3 := bounds_i64 w3
      obtain ⟨p4, hp4, _, w4⟩ := DataW.trod_int Try.underlying3 g4
      have e4 := bounds_i64 w4
      simp at hp0 hp1 hp2 hp3 hp4
      exact ⟨(p0, p1, p2, p3, p4), by simp only [hp0, hp1, hp2, hp3, hp4], e0, e1, e2, e3, e4⟩
theorem cI2 : Try.prog.cellsOf 36 = 2 := by kernel_rfl
theorem bI2 : Try.prog.bytesOf 36 = 16 := by kernel_rfl
set_option maxRecDepth 100000 in
theorem I2_cells {n : Nat} {cs' : List Value} {x : DataW H × List MemPlace} (h : DataW.trod enc Try.prog W 0 (fun _ => true) true n 36 cs' = some x) : ∃ y : Int × Int, cs' = i2C y ∧ (-9223372036854775808 ≤ y.1 ∧ y.1 ≤ 9223372036854775807) ∧ (-9223372036854775808 ≤ y.2 ∧ y.2 ≤ 9223372036854775807) := by
  have hlen : cs'.length = 2 := by rw [← cI2]; exact trod_len h Try.underlying36
  match cs', hlen with
  | [v0, v1], _ =>
    obtain ⟨y0, y1, k, h0, h1⟩ := trod_array2 Try.underlying36 cEl h
    obtain ⟨p0, hp0, _, w0⟩ := DataW.trod_int Try.underlying3 h0
    have e0 := bounds_i64 w0
    obtain ⟨p1, hp1, _, w1⟩ := DataW.trod_int Try.underlying3 h1
    have e1 := bounds_i64 w1
    simp at hp0 hp1
    exact ⟨(p0, p1), by simp only [hp0, hp1], e0, e1⟩
set_option maxRecDepth 100000 in
theorem rules_arg {a : Option Addr} {len cap : Nat} {d : DataW H} {p : List MemPlace} (h : DataW.Trod enc Try.prog W 0 (fun _ => true) true 22 (.slice a len cap) d p) (hw : ∀ n ∈ d.weights Try.prog 22, n ≤ reachBytes) :
    ∃ ls, SlAt ruC 5 W (.slice a len cap) ls ∧ (∀ y ∈ ls, Ru64 y) ∧ NilOk (.slice a len cap) ∧ (ls.length + 1) * 40 ≤ 140737488355328 := by
  obtain ⟨fuel, hf⟩ := h
  obtain ⟨ns, hn1, hn2, hG, hn3⟩ := open_sl (0, 0, 0, 0, 0) (cs := ruC) (sz := 5) (fun _ => rfl) (by omega) Try.underlying22 cRr (fun n cs' x h => Rr_cells h) (by simpa [Value.cells] using hf)
  exact ⟨ns, hn1, hG, hn2, slice_weight Try.underlying22 bRr (by omega) hw (by rcases hn3 with rfl | h; exact .inl rfl; exact .inr h)⟩
set_option maxRecDepth 100000 in
theorem i2s_arg {a : Option Addr} {len cap : Nat} {d : DataW H} {p : List MemPlace} (h : DataW.Trod enc Try.prog W 0 (fun _ => true) true 23 (.slice a len cap) d p) (hw : ∀ n ∈ d.weights Try.prog 23, n ≤ reachBytes) :
    ∃ ls, SlAt i2C 2 W (.slice a len cap) ls ∧ (∀ y ∈ ls, (-9223372036854775808 ≤ y.1 ∧ y.1 ≤ 9223372036854775807) ∧ (-9223372036854775808 ≤ y.2 ∧ y.2 ≤ 9223372036854775807)) ∧ NilOk (.slice a len cap) ∧ (ls.length + 1) * 16 ≤ 140737488355328 := by
  obtain ⟨fuel, hf⟩ := h
  obtain ⟨ns, hn1, hn2, hG, hn3⟩ := open_sl (0, 0) (cs := i2C) (sz := 2) (fun _ => rfl) (by omega) Try.underlying23 cI2 (fun n cs' x h => I2_cells h) (by simpa [Value.cells] using hf)
  exact ⟨ns, hn1, hG, hn2, slice_weight Try.underlying23 bI2 (by omega) hw (by rcases hn3 with rfl | h; exact .inl rfl; exact .inr h)⟩
end
end Go.Proofs.Ytkkgbcoclfpicaa.Fa
