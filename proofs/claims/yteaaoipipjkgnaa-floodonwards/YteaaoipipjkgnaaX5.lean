/- record.Decode. -/
import Derived.Test.YteaaoipipjkgnaaX4
namespace Go.Proofs.Yteaaoipipjkgnaa
open Go.RowKit

abbrev zeroO : Obj := .cells #[.int .i64 0, .int .u32 0, .int .u32 0, .int .i64 0, .bool false, .slice none 0 0] 38
def zeroR : Rc := ⟨0, 0, 0, 0, false, []⟩
/-- What Decode answers. -/
def deA (b : ByteArray) : Rc × Int := if rdOk b then (rdR b, 0) else (zeroR, 4)
/-- While Decode reads: how far, the answer's block, the record's. -/
structure DcM (w V : World) (B rb : Nat) (b : ByteArray) (a : Nat) (r : Rc) (va : Value) : Prop where
  tk : TkM V B b a
  x : V.heap[w.heap.size]? = some (zeroO)
  q : V.heap[rb]? = some (recO r va)
  row : V.ownsRow (rb + 1) 98 2 va r.adjs.length (fl ac r.adjs)
  b : Below w.heap.size w V
  l1 : w.heap.size < B
  l2 : B + 1 < rb
theorem DcM.fr {w V V' : World} {B rb : Nat} {b : ByteArray} {a a' : Nat} {r : Rc} {va : Value} (h : DcM w V B rb b a r va) (ht : TkM V' B b a') (hf : Fr (TkS B) V V') : DcM w V' B rb b a' r va := by
  have h1 := h.l1
  have h2 := h.l2
  exact ⟨ht, (hf.block _ (block_lt h.x) (by unfold TkS; omega)).trans h.x, (hf.block _ (block_lt h.q) (by unfold TkS; omega)).trans h.q, row_fr h.row hf (fun j hj e => by have := (h.row.lt j hj).1; unfold TkS at e; omega), h.b.trans (hf.below h.b.size (fun k hk => by unfold TkS at hk; omega)), h1, h2⟩
theorem DcM.keep {w V V' : World} {B rb : Nat} {b : ByteArray} {a : Nat} {r : Rc} {va : Value} (h : DcM w V B rb b a r va) (hb : Below V.heap.size V V') : DcM w V' B rb b a r va :=
  h.fr (h.tk.keep hb) (Fr.of_below hb)
/-- A field of the record is stored. -/
theorem DcM.set {w V : World} {B rb : Nat} {b : ByteArray} {a : Nat} {r r' : Rc} {va va' : Value} (h : DcM w V B rb b a r va) (i : Nat) (u : Value) (hr : #[Value.int .i64 r.origin, .int .u32 r.epoch, .int .u32 r.seq, .int .i64 r.claim, .bool r.ing, va].setIfInBounds i u = #[.int .i64 r'.origin, .int .u32 r'.epoch, .int .u32 r'.seq, .int .i64 r'.claim, .bool r'.ing, va']) (hrow : V.ownsRow (rb + 1) 98 2 va' r'.adjs.length (fl ac r'.adjs)) : DcM w (V.setCell ⟨rb, i, none⟩ u) B rb b a r' va' := by
  have h1 := h.l1
  have h2 := h.l2
  have hF := (Fr.refl (fun k => k = rb) V).set (p := ⟨rb, i, none⟩) rfl u
  refine ⟨⟨(hF.block _ (block_lt h.tk.s) (by omega)).trans h.tk.s, (hF.block _ (block_lt h.tk.a) (by omega)).trans h.tk.a⟩, (hF.block _ (block_lt h.x) (by omega)).trans h.x, ?_, row_fr hrow hF (fun j hj e => by have := (hrow.lt j hj).1; omega), h.b.setCell (p := ⟨rb, i, none⟩) (by show w.heap.size ≤ rb; omega) u, h1, h2⟩
  have := heap_setCell_same V rb i _ _ u h.q
  rw [hr] at this
  exact this
theorem set6 {w : World} {b : Nat} {T : TypeId} {c0 c1 c2 c3 c4 c5 : Value} (v0 v1 v2 v3 v4 v5 : Value) (h : w.heap[b]? = some (.cells #[c0, c1, c2, c3, c4, c5] T)) :
    ((((((w.setCell ⟨b, 0, none⟩ v0).setCell ⟨b, 1, none⟩ v1).setCell ⟨b, 2, none⟩ v2).setCell ⟨b, 3, none⟩ v3).setCell ⟨b, 4, none⟩ v4).setCell ⟨b, 5, none⟩ v5).heap[b]? = some (.cells #[v0, v1, v2, v3, v4, v5] T) := by
  have h1 := heap_setCell_same _ b 5 _ T v5 (heap_setCell_same _ b 4 _ T v4 (heap_setCell_same _ b 3 _ T v3 (heap_setCell_same _ b 2 _ T v2 (heap_setCell_same _ b 1 _ T v1 (heap_setCell_same w b 0 _ T v0 h)))))
  simpa using h1
theorem fr6 {S : Nat → Prop} {w w' : World} {b : Nat} (h : Fr S w w') (hb : S b) (v0 v1 v2 v3 v4 v5 : Value) : Fr S w ((((((w'.setCell ⟨b, 0, none⟩ v0).setCell ⟨b, 1, none⟩ v1).setCell ⟨b, 2, none⟩ v2).setCell ⟨b, 3, none⟩ v3).setCell ⟨b, 4, none⟩ v4).setCell ⟨b, 5, none⟩ v5) :=
  (((((h.set (p := ⟨b, 0, none⟩) hb _).set (p := ⟨b, 1, none⟩) hb _).set (p := ⟨b, 2, none⟩) hb _).set (p := ⟨b, 3, none⟩) hb _).set (p := ⟨b, 4, none⟩) hb _).set (p := ⟨b, 5, none⟩) hb _
end Go.Proofs.Yteaaoipipjkgnaa
