/- Marks and costs in arrays; marked. -/
import Derived.Test.YtaldehgggilmdaaG4
namespace Go.Proofs.Ytaldehgggilmdaa
open Go.RowKit

/-- The cells of marks, of costs, of one router's costs. -/
def mcl (f : Nat → Bool) : List Value := (List.range 25).map fun i => .bool (f i)
def ccl (c : Nat → Nat → Int) : List Value := (List.range 625).map fun i => .int .i64 (c (i / 25) (i % 25))
def rcl (g : Nat → Int) : List Value := (List.range 25).map fun i => .int .i64 (g i)
theorem mcl_len (f : Nat → Bool) : (mcl f).length = 25 := by simp [mcl]
theorem ccl_len (c : Nat → Nat → Int) : (ccl c).length = 625 := by simp [ccl]
theorem rcl_len (g : Nat → Int) : (rcl g).length = 25 := by simp [rcl]
theorem mcl_get (f : Nat → Bool) {j : Nat} (h : j < 25) : (mcl f)[j]? = some (.bool (f j)) := by
  simp only [mcl, List.getElem?_map]; rw [List.getElem?_range h]; rfl
theorem ccl_get (c : Nat → Nat → Int) {j : Nat} (h : j < 625) : (ccl c)[j]? = some (.int .i64 (c (j / 25) (j % 25))) := by
  simp only [ccl, List.getElem?_map]; rw [List.getElem?_range h]; rfl
theorem rcl_get (g : Nat → Int) {j : Nat} (h : j < 25) : (rcl g)[j]? = some (.int .i64 (g j)) := by
  simp only [rcl, List.getElem?_map]; rw [List.getElem?_range h]; rfl
theorem mcl_set (f : Nat → Bool) {n : Nat} (_h : n < 25) : (mcl f).set n (.bool true) = mcl (mk1 f n) := by
  apply List.ext_getElem?
  intro j
  rw [List.getElem?_set]
  by_cases hj : j < 25
  · rw [mcl_get _ hj, mcl_get _ hj]
    by_cases hn : n = j
    · subst hn; rw [if_pos rfl, if_pos (by rw [mcl_len]; exact hj), mk1_same]
    · rw [if_neg hn]
      have : mk1 f n j = f j := by unfold mk1; rw [if_neg (fun e => hn e.symm)]
      rw [this]
  · rw [List.getElem?_eq_none (by rw [mcl_len]; omega), List.getElem?_eq_none (by rw [mcl_len]; omega), if_neg (by omega)]
theorem ccl_set (c : Nat → Nat → Int) {a b : Nat} (ha : a < 25) (hb : b < 25) (v : Int) : (ccl c).set (a * 25 + b) (.int .i64 v) = ccl (put2 c a b v) := by
  apply List.ext_getElem?
  intro j
  rw [List.getElem?_set]
  by_cases hj : j < 625
  · rw [ccl_get _ hj, ccl_get _ hj]
    by_cases hn : a * 25 + b = j
    · subst hn
      have h1 : (a * 25 + b) / 25 = a := by omega
      have h2 : (a * 25 + b) % 25 = b := by omega
      rw [if_pos rfl, if_pos (by rw [ccl_len]; exact hj), h1, h2]
      simp [put2]
    · rw [if_neg hn]
      have : put2 c a b v (j / 25) (j % 25) = c (j / 25) (j % 25) := by unfold put2; rw [if_neg (by omega)]
      rw [this]
  · rw [List.getElem?_eq_none (by rw [ccl_len]; omega), List.getElem?_eq_none (by rw [ccl_len]; omega), if_neg (by omega)]
/-- A block holds just these cells. -/
def Arr (w : World) (b : Nat) (T : TypeId) (vs : List Value) : Prop := w.heap[b]? = some (.cells vs.toArray T)
theorem Arr.cell {w : World} {b : Nat} {T : TypeId} {vs : List Value} (h : Arr w b T vs) (j : Nat) : w.cell? ⟨b, j, none⟩ = vs[j]? := by
  rw [cell_of_row w b j _ T _ h]; simp
theorem Arr.frozen {w : World} {b : Nat} {T : TypeId} {vs : List Value} (h : Arr w b T vs) (j : Nat) : w.frozen? ⟨b, j, none⟩ = false := frozen_new h j
theorem Arr.lt {w : World} {b : Nat} {T : TypeId} {vs : List Value} (h : Arr w b T vs) : b < w.heap.size := block_lt h
theorem Arr.keep {w w' : World} {b B : Nat} {T : TypeId} {vs : List Value} (h : Arr w b T vs) (k : Below B w w') (hB : b < B) : Arr w' b T vs := (k.block b hB).trans h
theorem Arr.set {w : World} {b : Nat} {T : TypeId} {vs : List Value} (h : Arr w b T vs) (j : Nat) (u : Value) : Arr (w.setCell ⟨b, j, none⟩ u) b T (vs.set j u) := by
  have := heap_setCell_same w b j _ T u h
  unfold Arr
  rw [this]
  simp
theorem Arr.other {w : World} {b : Nat} {T : TypeId} {vs : List Value} (h : Arr w b T vs) {p : Addr} (hp : b ≠ p.block) (u : Value) : Arr (w.setCell p u) b T vs := (Below.heap_setCell _ _ _ _ hp).trans h
theorem Arr.range {w : World} {b : Nat} {T : TypeId} {vs : List Value} (h : Arr w b T vs) : w.rangeAt b 0 vs := fun j v hv => by rw [Nat.zero_add, h.cell, hv]
theorem arr_new (w : World) (T : TypeId) (vs : List Value) : Arr (w.alloc (.cells vs.toArray T)) w.heap.size T vs := heap_alloc_last w _
def upTo (f : Nat → Bool) (k : Nat) : List Int := ((List.range k).filter f).map fun (i : Nat) => (i : Int)
theorem upTo_yes {f : Nat → Bool} {k : Nat} (h : f k = true) : upTo f (k + 1) = upTo f k ++ [(k : Int)] := by simp [upTo, List.range_succ, List.filter_append, h]
theorem upTo_no {f : Nat → Bool} {k : Nat} (h : f k = false) : upTo f (k + 1) = upTo f k := by simp [upTo, List.range_succ, List.filter_append, h]
theorem upTo_len (f : Nat → Bool) (k : Nat) : (upTo f k).length ≤ k := by
  unfold upTo; rw [List.length_map]; have := List.length_filter_le f (List.range k); simpa using this

end Go.Proofs.Ytaldehgggilmdaa
