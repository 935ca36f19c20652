/- bits.Lowest, bits.highest, bits.Below: the walks. -/
import Derived.Test.YtkkkjpdmjgafoaaC1
import Derived.Test.YtkkkjpdmjgafoaaM3
import Derived.Test.YtkkkjpdmjgafoaaShelf
import Derived.Lib.LaidTab
import Derived.Lib.SmallJoins
namespace Go.Proofs.Ytkkkjpdmjgafoaa.Bi
open Go.RowKit

/-- The library's two tables, as their initialisers lay them. -/
structure Tabs (w : World) : Prop where
  db : Lib.TabIs Try.prog w "math/bits.deBruijn64tab" .u8 (Lib.deBruijn64tab.map fun n : Nat => (n : Int))
  p10 : Lib.TabIs Try.prog w "internal/strconv.uint64pow10" .u64 Lib.pow10Tab
theorem wd_ne_of_least {N m : Nat} (h : Least N m) : ∃ i, i < 4 ∧ wd N i ≠ 0 ∧ (∀ k, k < i → wd N k = 0) ∧ m = 64 * i + Lib.ctz 64 (wd N i) := by
  have h1 := h.2.1
  rw [testBit_of_wd] at h1
  have hne : wd N (m / 64) ≠ 0 := by intro e; rw [e] at h1; simp at h1
  have hlow : ∀ k, k < m / 64 → wd N k = 0 := by
    intro k hk
    apply Nat.eq_of_testBit_eq
    intro j
    rw [Nat.zero_testBit, testBit_wd]
    by_cases hj : j < 64
    · rw [h.2.2 _ (by omega)]; simp
    · simp [hj]
  have hi : m / 64 < 4 := by have := h.1; omega
  refine ⟨m / 64, hi, hne, hlow, ?_⟩
  have h2 := least_word N (m / 64) hi hne hlow
  have a := lst_least h
  rw [lst_least h2] at a
  exact (List.cons.inj a).1.symm

end Go.Proofs.Ytkkkjpdmjgafoaa.Bi
