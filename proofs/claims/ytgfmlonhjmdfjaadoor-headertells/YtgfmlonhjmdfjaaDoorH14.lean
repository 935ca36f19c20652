/- dandelionlaw03.right. -/
import Derived.Test.YtgfmlonhjmdfjaaDoorH13
import Derived.Test.YtgfmlonhjmdfjaaDoorHW
namespace Go.Proofs.YtgfmlonhjmdfjaaDoor
open Go.RowKit

/-- N without the bits from a to j. -/
def CutB (N a j M : Nat) : Prop := M < 2 ^ 256 ∧ ∀ i, M.testBit i = (N.testBit i && (decide (i < a) || decide (j ≤ i)))
theorem cutB_start {N a : Nat} (hN : N < 2 ^ 256) : CutB N a a N := by
  refine ⟨hN, fun i => ?_⟩
  by_cases h : i < a
  · simp [h]
  · have : a ≤ i := by omega
    simp [this]
theorem cutB_step {N a j M : Nat} (h : CutB N a j M) (hj : a ≤ j) : CutB N a (j + 1) (wo M (2 ^ j)) := by
  refine ⟨wo_lt h.1, fun i => ?_⟩
  rw [testBit_wo, h.2 i, Nat.testBit_two_pow]
  by_cases e : j = i
  · subst e
    have h1 : ¬ j < a := by omega
    simp [h1]
  · by_cases h1 : i < a
    · simp [h1, e]
    · have h2 : (j ≤ i) ↔ (j + 1 ≤ i) := by omega
      simp [h1, e, h2]
theorem cutB_end {N a M : Nat} (hN : N < 2 ^ 256) (h : CutB N a 256 M) : M = N % 2 ^ a := by
  apply Nat.eq_of_testBit_eq
  intro i
  rw [h.2 i, Nat.testBit_mod_two_pow]
  by_cases h1 : i < a
  · simp [h1]
  · by_cases h2 : 256 ≤ i
    · have : N < 2 ^ i := Nat.lt_of_lt_of_le hN (Nat.pow_le_pow_right (by decide) h2)
      rw [Nat.testBit_lt_two_pow this]
      simp
    · simp [h1, h2]
theorem shl8 (c : Nat) (hc : c ≤ 5) : wrap64 (8 * 2 ^ min c 64) = 8 * ((2 ^ c : Nat) : Int) := by
  have hcs : c = 0 ∨ c = 1 ∨ c = 2 ∨ c = 3 ∨ c = 4 ∨ c = 5 := by omega
  rcases hcs with rfl | rfl | rfl | rfl | rfl | rfl <;> decide +kernel
theorem tmod_nat (x : Int) (m : Nat) (hm : 0 < m) : ∃ c : Nat, c < m ∧ (IntKind.u64.wrap x).tmod (m : Int) = (c : Int) := by
  have h0 : 0 ≤ IntKind.u64.wrap x := by rw [IntKind.wrap_u64]; omega
  rw [Int.tmod_eq_emod_of_nonneg h0]
  have h1 := Int.emod_nonneg (IntKind.u64.wrap x) (show (m : Int) ≠ 0 by omega)
  have h2 := Int.emod_lt_of_pos (IntKind.u64.wrap x) (show (0 : Int) < (m : Int) by omega)
  exact ⟨((IntKind.u64.wrap x) % (m : Int)).toNat, by omega, by omega⟩

end Go.Proofs.YtgfmlonhjmdfjaaDoor
