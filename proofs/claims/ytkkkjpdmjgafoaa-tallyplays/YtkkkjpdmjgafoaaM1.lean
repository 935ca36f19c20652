/- Plain numbers: a bit string of 256 bits as one number, its four words, and what And, Or, AndNot make of it. -/
import Derived.Laws.BitsAllLaws
namespace Go.Proofs.Ytkkkjpdmjgafoaa.Bi
open Go

/-- The word i of a number. -/
def wd (N i : Nat) : Nat := N / 2 ^ (64 * i) % 2 ^ 64
/-- The number of four words. -/
def ofw (a b c d : Nat) : Nat := a + 2 ^ 64 * b + 2 ^ 128 * c + 2 ^ 192 * d
/-- N without M's bits. -/
def wo (N M : Nat) : Nat := N ^^^ (N &&& M)

theorem wd_lt (N i : Nat) : wd N i < 18446744073709551616 := by
  unfold wd; exact Nat.mod_lt _ (by decide)
theorem testBit_wd (N i j : Nat) : (wd N i).testBit j = (decide (j < 64) && N.testBit (64 * i + j)) := by
  unfold wd; rw [Nat.testBit_mod_two_pow, Nat.testBit_div_two_pow, Nat.add_comm]
theorem testBit_wo (N M j : Nat) : (wo N M).testBit j = (N.testBit j && !M.testBit j) := by
  unfold wo; rw [Nat.testBit_xor, Nat.testBit_and]; cases N.testBit j <;> cases M.testBit j <;> rfl
theorem wd_and (N M i : Nat) : wd (N &&& M) i = wd N i &&& wd M i := by
  apply Nat.eq_of_testBit_eq; intro j
  rw [testBit_wd, Nat.testBit_and, Nat.testBit_and, testBit_wd, testBit_wd]
  cases decide (j < 64) <;> simp
theorem wd_or (N M i : Nat) : wd (N ||| M) i = wd N i ||| wd M i := by
  apply Nat.eq_of_testBit_eq; intro j
  rw [testBit_wd, Nat.testBit_or, Nat.testBit_or, testBit_wd, testBit_wd]
  cases decide (j < 64) <;> simp
theorem wd_wo (N M i : Nat) : wd (wo N M) i = wd N i &&& (18446744073709551615 - wd M i) := by
  apply Nat.eq_of_testBit_eq; intro j
  have e : 18446744073709551615 - wd M i = 2 ^ 64 - (wd M i + 1) := by have := wd_lt M i; omega
  rw [testBit_wd, testBit_wo, Nat.testBit_and, testBit_wd, e, Nat.testBit_two_pow_sub_succ (wd_lt M i), testBit_wd]
  cases decide (j < 64) <;> simp
theorem wd_ofw0 (a b c d : Nat) (ha : a < 18446744073709551616) : wd (ofw a b c d) 0 = a := by unfold wd ofw; omega
theorem wd_ofw1 (a b c d : Nat) (ha : a < 18446744073709551616) (hb : b < 18446744073709551616) : wd (ofw a b c d) 1 = b := by unfold wd ofw; omega
theorem wd_ofw2 (a b c d : Nat) (ha : a < 18446744073709551616) (hb : b < 18446744073709551616) (hc : c < 18446744073709551616) : wd (ofw a b c d) 2 = c := by unfold wd ofw; omega
theorem wd_ofw3 (a b c d : Nat) (ha : a < 18446744073709551616) (hb : b < 18446744073709551616) (hc : c < 18446744073709551616) (hd : d < 18446744073709551616) : wd (ofw a b c d) 3 = d := by unfold wd ofw; omega
theorem ofw_lt (a b c d : Nat) (ha : a < 18446744073709551616) (hb : b < 18446744073709551616) (hc : c < 18446744073709551616) (hd : d < 18446744073709551616) : ofw a b c d < 2 ^ 256 := by unfold ofw; omega

theorem ext_bits {N M : Nat} (hN : N < 2 ^ 256) (hM : M < 2 ^ 256) (h : ∀ j, j < 256 → N.testBit j = M.testBit j) : N = M := by
  apply Nat.eq_of_testBit_eq; intro j
  by_cases hj : j < 256
  · exact h j hj
  · have h1 : N < 2 ^ j := Nat.lt_of_lt_of_le hN (Nat.pow_le_pow_right (by decide) (by omega))
    have h2 : M < 2 ^ j := Nat.lt_of_lt_of_le hM (Nat.pow_le_pow_right (by decide) (by omega))
    rw [Nat.testBit_lt_two_pow h1, Nat.testBit_lt_two_pow h2]
theorem testBit_of_wd (N j : Nat) : N.testBit j = (wd N (j / 64)).testBit (j % 64) := by
  have h : 64 * (j / 64) + j % 64 = j := by omega
  rw [testBit_wd, h]; simp [Nat.mod_lt]
theorem ext_wd {N M : Nat} (hN : N < 2 ^ 256) (hM : M < 2 ^ 256) (h0 : wd N 0 = wd M 0) (h1 : wd N 1 = wd M 1) (h2 : wd N 2 = wd M 2) (h3 : wd N 3 = wd M 3) : N = M := by
  apply ext_bits hN hM; intro j hj
  rw [testBit_of_wd N, testBit_of_wd M]
  have hc : j / 64 = 0 ∨ j / 64 = 1 ∨ j / 64 = 2 ∨ j / 64 = 3 := by omega
  rcases hc with e | e | e | e <;> rw [e] <;> simp [*]
theorem wd_zero (i : Nat) : wd 0 i = 0 := by unfold wd; simp
theorem and_lt {N M : Nat} (hN : N < 2 ^ 256) : N &&& M < 2 ^ 256 := Nat.lt_of_le_of_lt Nat.and_le_left hN
theorem or_lt {N M : Nat} (hN : N < 2 ^ 256) (hM : M < 2 ^ 256) : N ||| M < 2 ^ 256 := Nat.or_lt_two_pow hN hM
theorem wo_lt {N M : Nat} (hN : N < 2 ^ 256) : wo N M < 2 ^ 256 := by
  unfold wo; exact Nat.xor_lt_two_pow hN (and_lt hN)

/-- The model's words. -/
theorem bits_and (N M i : Nat) : bits .and .u64 (wd N i : Int) (wd M i : Int) = (wd (N &&& M) i : Int) := by
  rw [u64_and_nat _ _ (wd_lt N i) (wd_lt M i), wd_and]
theorem bits_or (N M i : Nat) : bits .or .u64 (wd N i : Int) (wd M i : Int) = (wd (N ||| M) i : Int) := by
  rw [u64_or_nat _ _ (wd_lt N i) (wd_lt M i), wd_or]
theorem bits_wo (N M i : Nat) : bits .andNot .u64 (wd N i : Int) (wd M i : Int) = (wd (wo N M) i : Int) := by
  rw [u64_andNot_nat _ _ (wd_lt N i) (wd_lt M i), wd_wo]

/-- The number with the one bit m. -/
theorem wrap_pow (m : Nat) : IntKind.u64.wrap ((2 : Int) ^ (m % 64)) = (2 ^ (m % 64) : Nat) := by
  have h : 2 ^ (m % 64) < 2 ^ 64 := Nat.pow_lt_pow_right (by decide) (Nat.mod_lt _ (by decide))
  rw [IntKind.wrap_u64, show ((2 : Int) ^ (m % 64)) = ((2 ^ (m % 64) : Nat) : Int) from by simp]
  generalize 2 ^ (m % 64) = x at h
  omega
theorem wd_pow (m i : Nat) : wd (2 ^ m) i = if m / 64 = i then 2 ^ (m % 64) else 0 := by
  apply Nat.eq_of_testBit_eq; intro j
  rw [testBit_wd, Nat.testBit_two_pow]
  by_cases h : m / 64 = i
  · rw [if_pos h, Nat.testBit_two_pow]
    by_cases hj : j < 64
    · have : (m = 64 * i + j) ↔ (m % 64 = j) := by omega
      simp [hj, this]
    · have : ¬ (m % 64 = j) := by omega
      simp [hj, this]
  · rw [if_neg h]
    by_cases hj : j < 64
    · have : ¬ (m = 64 * i + j) := by omega
      simp [this]
    · simp [hj]
theorem pow_lt {m : Nat} (h : m < 256) : 2 ^ m < 2 ^ 256 := Nat.pow_lt_pow_right (by decide) h
end Go.Proofs.Ytkkkjpdmjgafoaa.Bi
