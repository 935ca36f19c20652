/- The document's answer for layer 1: And, Or, AndNot. -/
import Derived.Test.YtkkkjpdmjgafoaaR1
namespace Go.Proofs.Ytkkkjpdmjgafoaa.Bi
open Go.RowKit

theorem HasBs.alloc {W : World} {b N : Nat} (h : HasBs W b N) (o : Obj) : HasBs (W.alloc o) b N := h.keep (Below.alloc (Below.refl _ W) (Nat.le_refl _) o) h.lt
theorem rhas_is (N m : Nat) (h : m < 256) (b : Bool) (hb : N.testBit m = b) (w : World) :
    Calls Try.prog 41 #[bs N, .int .i64 ((m : Int) + 1)] w fun e w' => e = .returned (.bool b) ∧ Below w.heap.size w w' := by
  rw [← hb]; exact rhas_any N m h w
theorem mod_succ_yes {X j : Nat} (h : X.testBit j = true) : X % 2 ^ (j + 1) = X % 2 ^ j ||| 2 ^ j := by
  apply Nat.eq_of_testBit_eq
  intro i
  rw [Nat.testBit_or, Nat.testBit_mod_two_pow, Nat.testBit_mod_two_pow, Nat.testBit_two_pow]
  by_cases e : j = i
  · subst e; simp [h]
  · have : (i < j + 1) = (i < j) := by simp; omega
    simp [e, this]
theorem mod_succ_no {X j : Nat} (h : X.testBit j = false) : X % 2 ^ (j + 1) = X % 2 ^ j := by
  apply Nat.eq_of_testBit_eq
  intro i
  rw [Nat.testBit_mod_two_pow, Nat.testBit_mod_two_pow]
  by_cases e : j = i
  · subst e; simp [h]
  · have : (i < j + 1) = (i < j) := by simp; omega
    simp [this]

end Go.Proofs.Ytkkkjpdmjgafoaa.Bi
