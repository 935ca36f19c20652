/- dandelionlaw04.SetsSplits: its arguments as a row hands them. -/
import Derived.Test.YtjcbbifjhoemaaaDoorSR
import Derived.Test.YtjcbbifjhoemaaaDoorF2
namespace Go.Proofs.YtjcbbifjhoemaaaDoor
open Go.ChangeShapes Go.WideShapes Go.ChangeAt Go.RowKit

theorem laidOut : laidOutB Tryd.prog = true := by kernel_rfl
theorem splits_arg {H : Type} {enc : TypeId × Value → H} {W : World} {a : Option Addr} {len cap : Nat} {d : DataW H} {p : List MemPlace} (h : DataW.Trod enc Tryd.prog W 0 (fun _ => true) true 22 (.slice a len cap) d p)
    (k : Int) (ht : Wid W) :
    Calls Tryd.prog 3 #[.slice a len cap, .int .i64 k] W fun e w' => e = .returned (.bool true) ∧ Below W.heap.size W w' := by
  obtain ⟨fuel, hf⟩ := h
  rcases open_ints Tryd.underlying22 Tryd.underlying3 cellsI hf with ⟨hcs, _⟩ | ⟨ad, len', cap', zs, hcs, _, hl, hm, hz, _, hcell, _⟩
  · simp [Value.cells] at hcs
    obtain ⟨rfl, rfl, rfl⟩ := hcs
    exact splits_walk [] none 0 k W ht ⟨by simp, by simp, fun _ => rfl, fun h => by simp at h⟩
  · simp [Value.cells] at hcs
    obtain ⟨rfl, rfl, rfl⟩ := hcs
    simp only [if_true] at hz
    have hlen : (zs.take len).length = len := by rw [List.length_take]; omega
    have := splits_walk (zs.take len) (some ad) cap k W ht ⟨by omega, by unfold maxLen at hm; omega, (fun e => by cases e), fun h0 => by
      obtain ⟨bk, o, rfl, hc⟩ := ints_at hcell (by omega)
      refine ⟨bk, o, rfl, block_lt_of_cell (hc 0 (by omega)), fun j hj => ?_⟩
      rw [hlen] at hj
      rw [hc j (by omega), List.getElem?_take_of_lt hj]
      simp [List.getD]⟩
    rw [hlen] at this
    exact this
end Go.Proofs.YtjcbbifjhoemaaaDoor
