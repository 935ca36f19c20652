/- bits.Has, With, Without. -/
import Derived.Test.YtgfmlonhjmdfjaaDoorB1
namespace Go.Proofs.YtgfmlonhjmdfjaaDoor
open Go.RowKit

theorem and_pow (N m : Nat) : (N &&& 2 ^ m = 0) = (N.testBit m = false) := by
  apply propext
  constructor
  · intro h
    have := congrArg (fun x => x.testBit m) h
    simpa [Nat.testBit_and, Nat.testBit_two_pow] using this
  · intro h
    apply Nat.eq_of_testBit_eq
    intro j
    rw [Nat.testBit_and, Nat.testBit_two_pow]
    by_cases e : m = j
    · subst e; simp [h]
    · simp [e]

theorem HasBs.grow {W : World} {b N : Nat} (h : HasBs W b N) (o : Obj) : HasBs (W.alloc o) b N := h.keep (Below.alloc (Below.refl _ W) (Nat.le_refl _) o) h.lt
end Go.Proofs.YtgfmlonhjmdfjaaDoor
