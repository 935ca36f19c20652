/- A calendar of int: firstBelow, swap. -/
import Derived.Test.YtaldehgggilmdaaC2I
namespace Go.Proofs.Ytaldehgggilmdaa.Ca.I
open Go.RowKit Go.Maps

theorem fl_pc (es : List Th) : fl pc es = es.map fun e => ptr e.1.1 := by
  induction es with
  | nil => rfl
  | cons e es ih => unfold fl at ih ⊢; rw [List.flatMap_cons, ih]; rfl
theorem row_heap {w w' : World} {base k size : Nat} {e : TypeId} {u : Value} {xs : List Value} (h : w.ownsRow base e size u k xs) (hh : w'.heap = w.heap) : w'.ownsRow base e size u k xs := by
  refine ⟨h.1, ?_⟩
  rcases h.2 with hn | ⟨g, cap, cur, rfl, hb, hgg, rest⟩
  · exact .inl hn
  · exact .inr ⟨g, cap, cur, rfl, hb, by rw [hh]; exact hgg, rest⟩
end Go.Proofs.Ytaldehgggilmdaa.Ca.I
