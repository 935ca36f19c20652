/- taking, its closures; takeStamp, DecodeStamp. -/
import Derived.Test.YteaaoipipjkgnaaX3
namespace Go.Proofs.Yteaaoipipjkgnaa
open Go.RowKit

/-- What is taken, and how far. -/
structure TkM (V : World) (B : Nat) (b : ByteArray) (a : Nat) : Prop where
  s : V.heap[B]? = some (.cells #[.string b] 9)
  a : V.heap[B + 1]? = some (.cells #[.int .i64 (a : Int)] 3)
abbrev TkS (B : Nat) : Nat → Prop := fun k => k = B + 1
theorem TkM.keep {V V' : World} {B a : Nat} {b : ByteArray} (h : TkM V B b a) (hb : Below V.heap.size V V') : TkM V' B b a := ⟨(hb.block _ (block_lt h.s)).trans h.s, (hb.block _ (block_lt h.a)).trans h.a⟩
theorem TkM.fr {V V' : World} {B a : Nat} {b : ByteArray} (h : TkM V B b a) (hf : Fr (fun k => k ≠ B ∧ k ≠ B + 1) V V') : TkM V' B b a := ⟨(hf.block _ (block_lt h.s) (by omega)).trans h.s, (hf.block _ (block_lt h.a) (by omega)).trans h.a⟩
theorem Fr.setNew {S : Nat → Prop} {a w : World} (h : Fr S a w) {p : Addr} (hp : a.heap.size ≤ p.block) (u : Value) : Fr S a (w.setCell p u) :=
  ⟨h.os, h.tape, h.output, by simpa [World.setCell] using h.size, fun k hk hs => (Below.heap_setCell _ _ _ _ (by omega)).trans (h.block k hk hs)⟩
theorem set3 {w : World} {b : Nat} {T : TypeId} {c0 c1 c2 : Value} (v0 v1 v2 : Value) (h : w.heap[b]? = some (.cells #[c0, c1, c2] T)) :
    (((w.setCell ⟨b, 0, none⟩ v0).setCell ⟨b, 1, none⟩ v1).setCell ⟨b, 2, none⟩ v2).heap[b]? = some (.cells #[v0, v1, v2] T) := by
  have h1 := heap_setCell_same _ b 2 _ T v2 (heap_setCell_same _ b 1 _ T v1 (heap_setCell_same w b 0 _ T v0 h))
  simpa using h1
/-- What DecodeStamp answers. -/
def dsA (b : ByteArray) : (Int × Int × Int) × Int := if stOk b then (((tkz b 0 1 : Nat), (tkz b 1 4 : Nat), (tkz b 5 4 : Nat)), 0) else ((0, 0, 0), 4)
end Go.Proofs.Yteaaoipipjkgnaa
