/- dandelionlaw05.HeapEmpties: its argument as a row hands it. -/
import Derived.Test.YtndiafbldgbplaaJK
import Derived.OpenShut
import Derived.ChangeSlices
import Derived.Carry
namespace Go.Proofs.Ytndiafbldgbplaa
open Go.ChangeShapes Go.WideShapes Go.ChangeAt Go.RowKit

theorem laidOut : laidOutB Try.prog = true := by kernel_rfl
theorem cellsI16 : Try.prog.cellsOf 43 = 1 := by kernel_rfl
theorem empties_arg {H : Type} {enc : TypeId × Value → H} {W : World} {a : Option Addr} {len cap : Nat} {d : DataW H} {p : List MemPlace} (h : DataW.Trod enc Try.prog W 0 (fun _ => true) true 42 (.slice a len cap) d p) :
    Calls Try.prog 5 #[.slice a len cap] W fun e w' => e = .returned (.bool true) ∧ Below W.heap.size W w' := by
  obtain ⟨fuel, hf⟩ := h
  rcases open_ints Try.underlying42 Try.underlying43 cellsI16 hf with ⟨hcs, _⟩ | ⟨ad, len', cap', zs, hcs, _, hl, hm, hz, _, hcell, hwf⟩
  · simp [Value.cells] at hcs
    obtain ⟨rfl, rfl, rfl⟩ := hcs
    exact empties_walk (zs := []) ⟨⟨none, 0, rfl, fun h => by simp at h⟩, fun z hz => by simp at hz, by simp⟩
  · simp [Value.cells] at hcs
    obtain ⟨rfl, rfl, rfl⟩ := hcs
    simp only [if_true] at hz
    have hlen : (zs.take len).length = len := by rw [List.length_take]; omega
    have := empties_walk (zs := zs.take len) (v := .slice (some ad) len cap) (w := W) ⟨⟨some ad, cap, by rw [hlen], fun h0 => by
      obtain ⟨bk, o, rfl, hc⟩ := ints_at hcell (by omega)
      refine ⟨bk, o, rfl, block_lt_of_cell (hc 0 (by omega)), fun j z hj => ?_⟩
      have hjl := (List.getElem?_eq_some_iff.1 hj).1
      rw [hlen] at hjl
      rw [hc j (by omega)]
      rw [List.getElem?_take_of_lt hjl] at hj
      simp [List.getD, hj]⟩, fun z hz' => by
        have := hwf z (List.mem_of_mem_take hz')
        simp [Lit.wf, IntKind.min, IntKind.max, IntKind.bits, IntKind.signed] at this
        omega, by rw [hlen]; unfold maxLen at hm; omega⟩
    exact this
end Go.Proofs.Ytndiafbldgbplaa
