/- dandelionlaw05.HeapPlays: its argument as a row hands it. -/
import Derived.Test.YtndiafbldgbplaaJW
namespace Go.Proofs.Ytndiafbldgbplaa
open Go.ChangeShapes Go.WideShapes Go.ChangeAt Go.RowKit

theorem afields_eq : Try.prog.underlying 31 = some (.struct #[(Try.prog.fieldsOf 31)[0]!, (Try.prog.fieldsOf 31)[1]!]) := by kernel_rfl
theorem af0 : ((Try.prog.fieldsOf 31)[0]!).type = 3 ∧ ((Try.prog.fieldsOf 31)[0]!).offset = 0 := ⟨by kernel_rfl, by kernel_rfl⟩
theorem af1 : ((Try.prog.fieldsOf 31)[1]!).type = 26 ∧ ((Try.prog.fieldsOf 31)[1]!).offset = 1 := ⟨by kernel_rfl, by kernel_rfl⟩
theorem tfo : ((Try.prog.fieldsOf 26)[0]!).offset = 0 ∧ ((Try.prog.fieldsOf 26)[1]!).offset = 1 := ⟨by kernel_rfl, by kernel_rfl⟩
theorem cAct : Try.prog.cellsOf 31 = 3 := by kernel_rfl
theorem cTh : Try.prog.cellsOf 26 = 2 := by kernel_rfl
theorem cInt : Try.prog.cellsOf 3 = 1 := by kernel_rfl
/-- An act's three cells are numbers. -/
theorem act_cells {H : Type} {enc : TypeId × Value → H} {W : World} {n : Nat} {cs : List Value} {x : DataW H × List MemPlace} (h : DataW.trod enc Try.prog W 0 (fun _ => true) true n 31 cs = some x) :
    ∃ y : Int × Th, cs = [.int .i64 y.1, .int .i64 y.2.1, .int .i64 y.2.2] := by
  obtain ⟨xs, k, _, _, hlen, hxl, hf⟩ := DataW.trod_struct afields_eq h
  rw [cAct] at hlen
  match cs, hlen with
  | [v0, v1, v2], _ =>
    match xs, hxl with
    | [z0, z1], _ =>
      have g0 := hf 0 (Try.prog.fieldsOf 31)[0]! rfl
      have g1 := hf 1 (Try.prog.fieldsOf 31)[1]! rfl
      rw [af0.1, af0.2, cInt] at g0
      rw [af1.1, af1.2, cTh] at g1
      simp at g0 g1
      obtain ⟨y, hy, _⟩ := DataW.trod_int Try.underlying3 g0
      obtain ⟨ys, k2, _, _, hlen2, hxl2, hf2⟩ := DataW.trod_struct tfields_eq g1
      match ys, hxl2 with
      | [u0, u1], _ =>
        have e0 := hf2 0 (Try.prog.fieldsOf 26)[0]! rfl
        have e1 := hf2 1 (Try.prog.fieldsOf 26)[1]! rfl
        rw [tf0, tfo.1, cInt] at e0
        rw [tf1, tfo.2, cInt] at e1
        simp at e0 e1
        obtain ⟨p, hp, _⟩ := DataW.trod_int Try.underlying3 e0
        obtain ⟨q, hq, _⟩ := DataW.trod_int Try.underlying3 e1
        simp at hy hp hq
        exact ⟨(y, p, q), by rw [hy, hp, hq]⟩
theorem plays_arg {H : Type} {enc : TypeId × Value → H} {W : World} {a : Option Addr} {len cap : Nat} {d : DataW H} {p : List MemPlace} (h : DataW.Trod enc Try.prog W 0 (fun _ => true) true 22 (.slice a len cap) d p) :
    Calls Try.prog 3 #[.slice a len cap] W fun e w' => e = .returned (.bool true) ∧ Below W.heap.size W w' := by
  obtain ⟨fuel, hf⟩ := h
  rcases Deep.open_slice Try.underlying22 hf with ⟨hcs, _⟩ | ⟨ad, len', cap', m, n, D, Pl, hcs, _, hl, hm, hmm, _, hx⟩
  · simp [Value.cells] at hcs
    obtain ⟨rfl, rfl, rfl⟩ := hcs
    exact plays_walk (L := []) ⟨none, 0, rfl, by simp, fun h => by simp at h⟩
  · simp [Value.cells] at hcs
    obtain ⟨rfl, rfl, rfl⟩ := hcs
    simp only [if_true] at hmm
    subst hmm
    have hv : ∀ i, i < m → ∃ y : Int × Th, W.cell? (ad.add (i * 3)) = some (.int .i64 y.1) ∧ W.cell? ((ad.add (i * 3)).add 1) = some (.int .i64 y.2.1) ∧ W.cell? ((ad.add (i * 3)).add 2) = some (.int .i64 y.2.2) := by
      intro i hi
      obtain ⟨cs', h1, h2⟩ := hx i hi
      obtain ⟨y, rfl⟩ := act_cells h2
      rw [cAct] at h1
      obtain ⟨_, _, hcell⟩ := World.cells?_some h1
      have e0 := hcell 0 (by omega)
      have e1 := hcell 1 (by omega)
      have e2 := hcell 2 (by omega)
      exact ⟨y, by simpa [Addr.add] using e0, by simpa using e1, by simpa using e2⟩
    obtain ⟨X, hX⟩ : ∃ X : Nat → Int × Th, ∀ i, i < m → W.cell? (ad.add (i * 3)) = some (.int .i64 (X i).1) ∧ W.cell? ((ad.add (i * 3)).add 1) = some (.int .i64 (X i).2.1) ∧ W.cell? ((ad.add (i * 3)).add 2) = some (.int .i64 (X i).2.2) := ⟨fun i => if hi : i < m then Classical.choose (hv i hi) else (0, 0, 0), fun i hi => by simp only [hi, dif_pos]; exact Classical.choose_spec (hv i hi)⟩
    have hlen : ((List.range len).map X).length = len := by simp
    have := plays_walk (L := (List.range len).map X) (v := .slice (some ad) len m) (w := W) ⟨some ad, m, by rw [hlen], by rw [hlen]; unfold maxLen at hm; omega, fun h0 => by
      rw [hlen] at h0
      obtain ⟨h3, _⟩ := hX 0 (by omega)
      obtain ⟨b, off, spot⟩ := ad
      have hspot : spot = none := by simpa [Addr.add] using World.cell?_spot h3
      subst hspot
      refine ⟨b, off, rfl, block_lt_of_cell (a := ⟨b, off, none⟩) (by simpa [Addr.add] using h3), fun j y hj => ?_⟩
      have hjl := (List.getElem?_eq_some_iff.1 hj).1
      rw [hlen] at hjl
      rw [List.getElem?_map, List.getElem?_range hjl] at hj
      simp at hj
      subst hj
      have := hX j (by omega)
      rw [Addr.add_mid, Addr.add_mid, Addr.add_mid] at this
      exact this⟩
    exact this
end Go.Proofs.Ytndiafbldgbplaa
