/- A calendar of int in memory; the order of its things. -/
import Derived.Test.YtaldehgggilmdaaCB
namespace Go.Proofs.Ytaldehgggilmdaa.Ca.I
open Go.RowKit Go.Maps

abbrev Th : Type := Pl Int
abbrev entA (e : Th) (i : Int) : Array Value := #[.int .i64 e.1.2.1, .int .u64 e.1.2.2, .int .i64 e.2, .int .i64 i]
abbrev pc (e : Th) : List Value := [ptr e.1.1]
/-- What a call on the tree turns: its row, its things. -/
def ownH (v : Value) (es : List Th) (k : Nat) : Prop := v.ownBlock = some k ∨ ∃ e ∈ es, e.1.1 = k
theorem row_ty {w : World} {base k size : Nat} {e : TypeId} {u : Value} {xs : List Value} (h : w.ownsRow base e size u k xs) {j : Nat} (hj : u.ownBlock = some j) : ∃ cur, w.heap[j]? = some (Obj.cells cur e) := by
  rcases h.2 with ⟨rfl, _⟩ | ⟨g, cap, cur, rfl, _, hh, _⟩
  · simp [Value.ownBlock] at hj
  · simp [Value.ownBlock] at hj
    subst hj
    exact ⟨cur, hh⟩
end Go.Proofs.Ytaldehgggilmdaa.Ca.I
