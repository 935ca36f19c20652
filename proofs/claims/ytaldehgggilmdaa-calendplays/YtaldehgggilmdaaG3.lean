/- edgesMayBe, Check. -/
import Derived.Test.YtaldehgggilmdaaG2
namespace Go.Proofs.Ytaldehgggilmdaa
open Go.RowKit

/-- A graph, the last edge and this edge in their blocks. -/
structure EdM (w : World) (b l c : Nat) (vn ve : Value) (last e : Ed) : Prop where
  g0 : w.cell? ⟨b, 0, none⟩ = some vn
  g1 : w.cell? ⟨b, 1, none⟩ = some ve
  l0 : w.cell? ⟨l, 0, none⟩ = some (.int .i64 last.1)
  l1 : w.cell? ⟨l, 1, none⟩ = some (.int .i64 last.2.1)
  l2 : w.cell? ⟨l, 2, none⟩ = some (.int .i64 last.2.2)
  lf : ∀ j, w.frozen? ⟨l, j, none⟩ = false
  e0 : w.cell? ⟨c, 0, none⟩ = some (.int .i64 e.1)
  e1 : w.cell? ⟨c, 1, none⟩ = some (.int .i64 e.2.1)
  e2 : w.cell? ⟨c, 2, none⟩ = some (.int .i64 e.2.2)
  hb : b < w.heap.size
  hl : l < w.heap.size
  hc : c < w.heap.size
theorem EdM.keep {w w' : World} {b l c B : Nat} {vn ve : Value} {last e : Ed} (h : EdM w b l c vn ve last e) (k : Below B w w') (hB : w.heap.size ≤ B) : EdM w' b l c vn ve last e := by
  have hb := h.hb
  have hl := h.hl
  have hc := h.hc
  have hs := k.size
  exact ⟨(k.cell (p := ⟨b, 0, none⟩) (by show b < B; omega)).trans h.g0, (k.cell (p := ⟨b, 1, none⟩) (by show b < B; omega)).trans h.g1, (k.cell (p := ⟨l, 0, none⟩) (by show l < B; omega)).trans h.l0, (k.cell (p := ⟨l, 1, none⟩) (by show l < B; omega)).trans h.l1, (k.cell (p := ⟨l, 2, none⟩) (by show l < B; omega)).trans h.l2, fun j => (k.frozen (p := ⟨l, j, none⟩) (by show l < B; omega)).trans (h.lf j),
    (k.cell (p := ⟨c, 0, none⟩) (by show c < B; omega)).trans h.e0, (k.cell (p := ⟨c, 1, none⟩) (by show c < B; omega)).trans h.e1, (k.cell (p := ⟨c, 2, none⟩) (by show c < B; omega)).trans h.e2, by omega, by omega, by omega⟩
/-- A graph handed in. -/
structure GrAt (w : World) (vn ve : Value) (ns : List Int) (es : List Ed) : Prop where
  n : SlAt ic 1 w vn ns
  e : SlAt ec 3 w ve es
theorem GrAt.keep {w w' : World} {vn ve : Value} {ns : List Int} {es : List Ed} {B : Nat} (h : GrAt w vn ve ns es) (hb : Below B w w') (hB : w.heap.size ≤ B) : GrAt w' vn ve ns es := ⟨h.n.keep hb hB, h.e.keep hb hB⟩
end Go.Proofs.Ytaldehgggilmdaa
