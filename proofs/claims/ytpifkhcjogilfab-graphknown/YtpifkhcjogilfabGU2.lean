/- The document's Both. -/
import Derived.Test.YtpifkhcjogilfabGU1
namespace Go.Proofs.Ytpifkhcjogilfab
open Go.RowKit

/-- The graph in its block: its nodes so far. -/
structure NdM (w1 wr : World) (u : Value) (L : List Int) : Prop where
  g : wr.heap[w1.heap.size]? = some (.cells #[u, .slice none 0 0] 25)
  r : wr.ownsRow (w1.heap.size + 1) 3 1 u L.length (fl ic L)
  b : Below w1.heap.size w1 wr
/-- The graph in its block: its edges so far. -/
structure EbM (w3 wr : World) (B : Nat) (u v : Value) (L : List Ed) : Prop where
  g : wr.heap[B]? = some (.cells #[u, v] 25)
  r : wr.ownsRow w3.heap.size 47 3 v L.length (fl ec L)
  f : Fr (fun k => k = B) w3 wr
theorem EbM.drewN {w3 wr : World} {B : Nat} {u v : Value} {L : List Ed} (h : EbM w3 wr B u v L) (n : Nat) : EbM w3 (wr.drewN n) B u v L :=
  ⟨h.g, row_fr h.r ((Fr.refl (fun _ => False) wr).drewN n) (fun _ _ h => h), h.f.drewN n⟩

end Go.Proofs.Ytpifkhcjogilfab
