/- A calendar of int: ahead, firstBelow, swap. -/
import Derived.Test.YtaldehgggilmdaaC1I
namespace Go.Proofs.Ytaldehgggilmdaa.Ca.I
open Go.RowKit Go.Maps

abbrev less : Nat × Int × Int → Nat × Int × Int → Bool := ltK at'
theorem below_grow {W : World} (q : Nat) (os : Array Obj) : Below W.heap.size W (Go.Sort.grow (W.drewN q) os) :=
  ⟨rfl, rfl, rfl, by simp [Go.Sort.grow, World.drewN], fun k hk => by simp [Go.Sort.grow, World.drewN, Array.getElem?_append, hk]⟩
end Go.Proofs.Ytaldehgggilmdaa.Ca.I
