/- A calendar of int as an ordered list: New, Len, Next, Put. -/
import Derived.Test.YtaldehgggilmdaaC6I
namespace Go.Proofs.Ytaldehgggilmdaa.Ca.I
open Go.RowKit Go.Maps

/-- What a call turns besides what was there: its own, and what is new. -/
def ext (S : Nat → Prop) (w w' : World) (k : Nat) : Prop := S k ∨ (w.heap.size ≤ k ∧ k < w'.heap.size)
end Go.Proofs.Ytaldehgggilmdaa.Ca.I
