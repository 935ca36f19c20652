/- edgesMayBe, Check. -/
import Derived.Test.YtkhfpcnmnnboeaaG2
namespace Go.Proofs.Ytkhfpcnmnnboeaa
open Go.RowKit

/-- A graph, the last edge and this edge in their blocks. -/
structure EdM (w : World) (b l c : Nat) (vn ve : Value) (last e : Ed) : Prop where
  g0 : w.cell? ⟨b, 0, none⟩ = some vn
  g1 : w.cell? ⟨b, 1, none⟩ = some ve
  l0 : w.cell? ⟨l, 0, none⟩ = some (.int .i64 last.1)
  l1 : w.cell? ⟨l, 1, none⟩ = some (.int .i64 last.2.1)
  l2 : w.cell? ⟨l, 2, none⟩ = some (.int .i64 last.2.2)
  lf : ∀ j, w.frozen? ⟨l, j, none⟩ = false
  e0 : w.cell? ⟨c, 0, none⟩ = some (.int .i64 e.1)
  e1 : w.cell? ⟨c, 1, none⟩ = some (.int .i64 e.2.1)
  e2 : w.cell? ⟨c, 2, none⟩ = some (.int .i64 e.2.2)
  hb : b < w.heap.size
  hl : l < w.heap.size
  hc : c < w.heap.size
theorem EdM.keep {w w' : World} {b l c B : Nat} {vn ve : Value} {last e : Ed} (h : EdM w b l c vn ve last e) (k : Below B w w') (hB : w.heap.size ≤ B) : EdM w' b l c vn ve last e := by
  have hb := h.hb
  have hl := h.hl
  have hc := h.hc
  have hs := k.size
  exact ⟨(k.cell (p := ⟨b, 0, none⟩) (by show b < B; omega)).trans h.g0, (k.cell (p := ⟨b, 1, none⟩) (by show b < B; omega)).trans h.g1, (k.cell (p := ⟨l, 0, none⟩) (by show l < B; omega)).trans h.l0, (k.cell (p := ⟨l, 1, none⟩) (by show l < B; omega)).trans h.l1, (k.cell (p := ⟨l, 2, none⟩) (by show l < B; omega)).trans h.l2, fun j => (k.frozen (p := ⟨l, j, none⟩) (by show l < B; omega)).trans (h.lf j),
    (k.cell (p := ⟨c, 0, none⟩) (by show c < B; omega)).trans h.e0, (k.cell (p := ⟨c, 1, none⟩) (by show c < B; omega)).trans h.e1, (k.cell (p := ⟨c, 2, none⟩) (by show c < B; omega)).trans h.e2, by omega, by omega, by omega⟩
/-- A graph and the last edge in their blocks. -/
structure EdL (w : World) (b l : Nat) (vn ve : Value) (last : Ed) : Prop where
  g : w.heap[b]? = some (.cells #[vn, ve] 57)
  l : w.heap[l]? = some (.cells #[.int .i64 last.1, .int .i64 last.2.1, .int .i64 last.2.2] 64)
theorem EdL.keep {w w' : World} {b l B : Nat} {vn ve : Value} {last : Ed} (h : EdL w b l vn ve last) (k : Below B w w') (hB : w.heap.size ≤ B) : EdL w' b l vn ve last := by
  have h1 := block_lt h.g
  have h2 := block_lt h.l
  exact ⟨(k.block b (by omega)).trans h.g, (k.block l (by omega)).trans h.l⟩
theorem EdL.new {w : World} {b l : Nat} {vn ve : Value} {last : Ed} (h : EdL w b l vn ve last) (e : Ed) : EdM (w.alloc (.cells #[.int .i64 e.1, .int .i64 e.2.1, .int .i64 e.2.2] 64)) b l w.heap.size vn ve last e := by
  have h1 := block_lt h.g
  have h2 := block_lt h.l
  have k := h.keep ((Below.refl _ w).alloc (Nat.le_refl _) (.cells #[.int .i64 e.1, .int .i64 e.2.1, .int .i64 e.2.2] 64)) (Nat.le_refl _)
  have hh := heap_alloc_last w (.cells #[.int .i64 e.1, .int .i64 e.2.1, .int .i64 e.2.2] 64)
  exact ⟨cell_of_row _ _ 0 _ _ _ k.g, cell_of_row _ _ 1 _ _ _ k.g, cell_of_row _ _ 0 _ _ _ k.l, cell_of_row _ _ 1 _ _ _ k.l, cell_of_row _ _ 2 _ _ _ k.l, fun j => frozen_new k.l j, cell_of_row _ _ 0 _ _ _ hh, cell_of_row _ _ 1 _ _ _ hh, cell_of_row _ _ 2 _ _ _ hh, by simp; omega, by simp; omega, by simp⟩
theorem EdL.put {w : World} {b l : Nat} {vn ve : Value} {last : Ed} (h : EdL w b l vn ve last) (hne : b ≠ l) (e : Ed) : EdL (((w.setCell ⟨l, 0, none⟩ (.int .i64 e.1)).setCell ⟨l, 1, none⟩ (.int .i64 e.2.1)).setCell ⟨l, 2, none⟩ (.int .i64 e.2.2)) b l vn ve e := by
  refine ⟨?_, ?_⟩
  · rw [Below.heap_setCell _ _ _ _ hne, Below.heap_setCell _ _ _ _ hne, Below.heap_setCell _ _ _ _ hne]; exact h.g
  · exact heap_setCell_same _ _ _ _ _ _ (heap_setCell_same _ _ _ _ _ _ (heap_setCell_same _ _ _ _ _ _ h.l))

/-- A graph handed in. -/
structure GrAt (w : World) (vn ve : Value) (ns : List Int) (es : List Ed) : Prop where
  n : SlAt ic 1 w vn ns
  e : SlAt ec 3 w ve es
theorem GrAt.keep {w w' : World} {vn ve : Value} {ns : List Int} {es : List Ed} {B : Nat} (h : GrAt w vn ve ns es) (hb : Below B w w') (hB : w.heap.size ≤ B) : GrAt w' vn ve ns es := ⟨h.n.keep hb hB, h.e.keep hb hB⟩
end Go.Proofs.Ytkhfpcnmnnboeaa
