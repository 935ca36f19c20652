/- A string as a slice of bytes of the call's own, written, and read as a string again. -/
import Derived.Test.YtmfadgglhdbppabK11
import Derived.Lib.ConvBytes
import Derived.Laws.IdiomStrings
namespace Go.Proofs.Ytmfadgglhdbppab
open Go.RowKit

/-- Block g holds the bytes l, and they may be written. -/
def HasL (W : World) (g : Nat) (l : List UInt8) : Prop :=
  ∃ (c : Array Value) (t : TypeId) (lo hi : Nat), W.heap[g]? = some (.cells c t (lo, hi)) ∧ l.length ≤ c.size ∧ c.size ≤ lo ∧ ∀ j, j < l.length → c[j]? = some (.int .u8 ((l.getD j 0).toNat : Nat))
theorem HasL.lt {W : World} {g : Nat} {l : List UInt8} (h : HasL W g l) : g < W.heap.size := by
  obtain ⟨c, t, lo, hi, hb, _⟩ := h
  exact (Array.getElem?_eq_some_iff.1 hb).1
theorem HasL.cell {W : World} {g : Nat} {l : List UInt8} (h : HasL W g l) {j : Nat} (hj : j < l.length) : W.cell? ⟨g, j, none⟩ = some (.int .u8 ((l.getD j 0).toNat : Nat)) := by
  obtain ⟨c, t, lo, hi, hb, _, _, hc⟩ := h
  simp [World.cell?, hb, hc j hj]
theorem HasL.frozen {W : World} {g : Nat} {l : List UInt8} (h : HasL W g l) {j : Nat} (hj : j < l.length) : W.frozen? ⟨g, j, none⟩ = false := by
  obtain ⟨c, t, lo, hi, hb, h1, h2, hc⟩ := h
  simp [World.frozen?, hb]
  omega
theorem HasL.set {W : World} {g : Nat} {l : List UInt8} (h : HasL W g l) (j : Nat) (x : UInt8) : HasL (W.setCell ⟨g, j, none⟩ (.int .u8 (x.toNat : Nat))) g (l.set j x) := by
  obtain ⟨c, t, lo, hi, hb, h1, h2, hc⟩ := h
  refine ⟨c.setIfInBounds j (.int .u8 (x.toNat : Nat)), t, lo, hi, ?_, by simpa using h1, by simpa using h2, fun i hi => ?_⟩
  · simp [World.setCell, Array.getElem?_modify, hb]
  · rw [List.length_set] at hi
    rw [Array.getElem?_setIfInBounds, List.getD_eq_getElem?_getD, List.getElem?_set]
    by_cases e : j = i
    · subst e
      have : j < c.size := by omega
      simp [hi, this]
    · simp only [if_neg e]
      rw [hc i hi, List.getD_eq_getElem?_getD]
theorem HasL.string {W : World} {g cap : Nat} {l : List UInt8} {n : Nat} (hn : n = l.length) (h : HasL W g l) : (convert 27 9 (.slice (some ⟨g, 0, none⟩) n cap)).run Try.prog W = .ok (.string ⟨l.toArray⟩) W := by
  subst hn
  refine run_convert_bytes_back W 27 9 5 ⟨g, 0, none⟩ cap l Try.underlying27 Try.underlying5 Try.underlying9 (fun j hj => ?_)
  rw [addr_add', Nat.zero_add, h.cell hj, List.getD_eq_getElem?_getD, List.getElem?_eq_getElem hj]
  rfl
theorem below_bytes (w : World) (e : TypeId) (s : ByteArray) : Below w.heap.size w (Lib.bytesWorld w e s) :=
  ⟨by simp [Lib.bytesWorld, World.freeze, World.alloc, World.drew, -World.alloc_eq, -World.drew_eq], by simp [Lib.bytesWorld, World.freeze, World.alloc, World.drew, -World.alloc_eq, -World.drew_eq], by simp [Lib.bytesWorld, World.freeze, World.alloc, World.drew, -World.alloc_eq, -World.drew_eq], by rw [Lib.bytesWorld_size]; omega, fun k hk => Lib.bytesWorld_at_old w e s k hk⟩
theorem conv_any (s : ByteArray) (w : World) : ∃ (W : World) (cap : Nat), (convert 9 27 (.string s)).run Try.prog w = .ok (.slice (some ⟨w.heap.size, 0, none⟩) s.size cap) W ∧
    Below w.heap.size w W ∧ HasL W w.heap.size s.data.toList ∧ W.heap.size = w.heap.size + 1 := by
  have hl : s.data.toList.length = s.size := by simp
  refine ⟨Lib.bytesWorld w 5 s, grownCap w s.size 0 5, Lib.run_convert_string_bytes w _ _ 5 s Try.underlying9 Try.underlying27 Try.underlying5, below_bytes _ _ _, ?_, Lib.bytesWorld_size _ _ _⟩
  refine ⟨_, _, _, _, Lib.bytesWorld_at_new _ _ _, ?_, Nat.le_refl _, fun j hj => ?_⟩
  · unfold Lib.bytesCells
    simp
  · rw [hl] at hj
    unfold Lib.bytesCells
    simp [Array.getElem?_append, List.getD, hj]
end Go.Proofs.Ytmfadgglhdbppab
