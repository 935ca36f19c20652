/- A row that nothing owns yet (of the text T1, for seats above layer 2). -/
import Derived.Test.YtkkkjpdmjgafoaaB1
import Derived.Laws.AppendOwn
namespace Go.Proofs.Ytkkkjpdmjgafoaa.Bi
open Go.RowKit

/-- What is kept of a block. -/
def KeepsAt (r : Nat) (W W' : World) : Prop := W'.heap[r]? = W.heap[r]? ∧ W.heap.size ≤ W'.heap.size
theorem HasBs.at {w w' : World} {b N : Nat} (h : HasBs w b N) (hk : KeepsAt b w w') : HasBs w' b N :=
  ⟨(World.cell?_of_block (a := ⟨b, 0, none⟩) hk.1).trans h.c0, (World.cell?_of_block (a := ⟨b, 1, none⟩) hk.1).trans h.c1, (World.cell?_of_block (a := ⟨b, 2, none⟩) hk.1).trans h.c2, (World.cell?_of_block (a := ⟨b, 3, none⟩) hk.1).trans h.c3,
   (World.frozen?_of_block (a := ⟨b, 0, none⟩) hk.1).trans h.f0, (World.frozen?_of_block (a := ⟨b, 1, none⟩) hk.1).trans h.f1, (World.frozen?_of_block (a := ⟨b, 2, none⟩) hk.1).trans h.f2, (World.frozen?_of_block (a := ⟨b, 3, none⟩) hk.1).trans h.f3, Nat.lt_of_lt_of_le h.lt hk.2⟩
theorem grown_none {w w' : World} (h : Below w.heap.size w w') : w.grownBy w' none := ⟨h.os, h.tape, h.output, h.size, fun k hk _ => h.block k hk⟩
theorem row_none {W W' : World} {base : Nat} {e : TypeId} {v : Value} {k : Nat} {xs : List Value} (h : W.ownsRow base e 1 v k xs) (hb : Below W.heap.size W W') : W'.ownsRow base e 1 v k xs :=
  h.kept (grown_none hb) (by cases v.ownBlock <;> simp)
theorem row_far {W : World} {base : Nat} {e : TypeId} {v : Value} {k : Nat} {xs : List Value} (h : W.ownsRow base e 1 v k xs) {b : Nat} (hb : b < base) : some b ≠ v.ownBlock := by
  rcases h.2 with ⟨rfl, _⟩ | ⟨g, cap, cur, rfl, hbase, _⟩
  · simp [Value.ownBlock]
  · simp [Value.ownBlock]; omega
end Go.Proofs.Ytkkkjpdmjgafoaa.Bi
