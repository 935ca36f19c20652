/- Plain numbers: the bits of a number as a list; the least one; the greatest one. -/
import Derived.Test.YtkkkjpdmjgafoaaM2
import Derived.Lib.TrailingZeros
import Derived.Lib.BitFns
import Derived.Lib.ItoaNum
namespace Go.Proofs.Ytkkkjpdmjgafoaa.Bi
open Go

/-- The bits, from 0 on, rising. -/
def lst (N : Nat) : List Nat := (List.range 256).filter fun k => N.testBit k
/-- m is N's least bit. -/
def Least (N m : Nat) : Prop := m < 256 ∧ N.testBit m = true ∧ ∀ j, j < m → N.testBit j = false

theorem lst_zero : lst 0 = [] := by unfold lst; simp
theorem lst_length (N : Nat) : (lst N).length = cntTo 256 N := rfl
theorem filter_least {n m : Nat} {P Q : Nat → Bool} (hm : m < n) (h1 : P m = true) (h2 : ∀ j, j < m → P j = false) (hQ : ∀ j, Q j = (P j && !decide (j = m))) :
    (List.range n).filter P = m :: (List.range n).filter Q := by
  obtain ⟨r, rfl⟩ : ∃ r, n = m + (1 + r) := ⟨n - m - 1, by omega⟩
  rw [List.range_add, List.filter_append, List.filter_append]
  have e1 : (List.range m).filter P = [] := by rw [List.filter_eq_nil_iff]; intro j hj; rw [h2 j (by simpa using hj)]; simp
  have e2 : (List.range m).filter Q = [] := by rw [List.filter_eq_nil_iff]; intro j hj; rw [hQ, h2 j (by simpa using hj)]; simp
  rw [e1, e2, List.nil_append, List.nil_append, List.range_add, List.map_append, List.filter_append, List.filter_append]
  have e3 : List.filter P (List.map (fun x => m + x) (List.range 1)) = [m] := by simp [List.range_succ, h1]
  have e4 : List.filter Q (List.map (fun x => m + x) (List.range 1)) = [] := by simp [List.range_succ, hQ]
  rw [e3, e4, List.nil_append, List.singleton_append]
  congr 1
  apply List.filter_congr
  intro k hk
  rw [hQ]
  simp only [List.map_map, List.mem_map, List.mem_range, Function.comp] at hk
  obtain ⟨j, _, rfl⟩ := hk
  simp
theorem lst_least {N m : Nat} (h : Least N m) : lst N = m :: lst (wo N (2 ^ m)) := by
  unfold lst
  refine filter_least h.1 h.2.1 h.2.2 ?_
  intro j
  rw [testBit_wo, Nat.testBit_two_pow]
  congr 2
  simp [eq_comm]
theorem mem_lst {N m : Nat} : m ∈ lst N ↔ m < 256 ∧ N.testBit m = true := by unfold lst; simp
theorem least_of_lst {N m : Nat} {r : List Nat} (h : lst N = m :: r) : Least N m := by
  have hm : m ∈ lst N := by rw [h]; simp
  have hm' := mem_lst.1 hm
  refine ⟨hm'.1, hm'.2, ?_⟩
  intro j hj
  have hs : (lst N).Pairwise (· < ·) := by unfold lst; exact List.Pairwise.filter _ List.pairwise_lt_range
  cases hb : N.testBit j with
  | false => rfl
  | true =>
    have hjm : j ∈ lst N := mem_lst.2 ⟨by omega, hb⟩
    rw [h] at hjm hs
    rcases List.mem_cons.1 hjm with e | e
    · omega
    · have := (List.pairwise_cons.1 hs).1 j e
      omega
theorem lst_nil {N : Nat} (hN : N < 2 ^ 256) (h : lst N = []) : N = 0 := by
  apply ext_bits hN (by decide)
  intro j hj
  rw [Nat.zero_testBit]
  cases hb : N.testBit j with
  | false => rfl
  | true =>
    have : j ∈ lst N := mem_lst.2 ⟨hj, hb⟩
    rw [h] at this
    simp at this
theorem least_of_ne {N : Nat} (hN : N < 2 ^ 256) (h : N ≠ 0) : ∃ m, Least N m := by
  cases hl : lst N with
  | nil => exact absurd (lst_nil hN hl) h
  | cons m r => exact ⟨m, least_of_lst hl⟩

theorem ctz_bit (x : Nat) (h0 : x ≠ 0) (h : x < 18446744073709551616) : x.testBit (Lib.ctz 64 x) = true ∧ (∀ j, j < Lib.ctz 64 x → x.testBit j = false) ∧ Lib.ctz 64 x < 64 := by
  obtain ⟨m, hm, hk⟩ := Lib.ctzFrom_spec 64 x (by omega) h
  have e : Lib.ctz 64 x = Lib.ctzFrom 64 x := by simp [Lib.ctz, h0]
  rw [e]
  generalize Lib.ctzFrom 64 x = c at *
  refine ⟨?_, ?_, hk⟩
  · rw [hm, Nat.mul_comm, Nat.testBit_mul_two_pow]; simp
  · intro j hj
    rw [hm, Nat.mul_comm, Nat.testBit_mul_two_pow]
    simp
    omega
theorem least_word (N i : Nat) (hi : i < 4) (h : wd N i ≠ 0) (hlow : ∀ k, k < i → wd N k = 0) : Least N (64 * i + Lib.ctz 64 (wd N i)) := by
  obtain ⟨h1, h2, h3⟩ := ctz_bit (wd N i) h (wd_lt N i)
  refine ⟨by omega, ?_, ?_⟩
  · rw [testBit_wd] at h1; simp at h1; exact h1.2
  · intro j hj
    rw [testBit_of_wd]
    by_cases hk : j / 64 < i
    · rw [hlow _ hk]; simp
    · have e : j / 64 = i := by omega
      rw [e]
      exact h2 _ (by omega)

/-- How long a number is: its greatest bit and one more; 0 of 0. -/
def bl (N : Nat) : Nat := if N = 0 then 0 else N.log2 + 1
theorem bl_le {N k : Nat} : bl N ≤ k ↔ N < 2 ^ k := by
  unfold bl
  split
  · rename_i h; subst h; simp [Nat.pow_pos]
  · rename_i h
    rw [← Nat.log2_lt h]
    omega
theorem bl_eq {N L : Nat} (h0 : 1 ≤ L) (h1 : 2 ^ (L - 1) ≤ N) (h2 : N < 2 ^ L) : bl N = L := by
  have a : bl N ≤ L := bl_le.2 h2
  have b : ¬ bl N ≤ L - 1 := by rw [bl_le]; omega
  omega
theorem bl_word (N i : Nat) (hN : N < 2 ^ (64 * i + 64)) (h : wd N i ≠ 0) : bl N = 64 * i + Lib.bitLen (wd N i) := by
  obtain ⟨h1, h2, h3⟩ := Lib.bitLenAux_bounds 64 (wd N i) (wd_lt N i) h
  have e : wd N i = N / 2 ^ (64 * i) := by
    unfold wd
    apply Nat.mod_eq_of_lt
    rw [Nat.pow_add] at hN
    exact Nat.div_lt_of_lt_mul hN
  unfold Lib.bitLen
  generalize Lib.bitLenAux 64 (wd N i) = L at *
  rw [e] at h2 h3
  apply bl_eq (by omega)
  · have : 64 * i + L - 1 = 64 * i + (L - 1) := by omega
    rw [this, Nat.pow_add, Nat.mul_comm]
    exact (Nat.le_div_iff_mul_le (Nat.pow_pos (by decide))).1 h2
  · rw [Nat.pow_add]
    exact (Nat.div_lt_iff_lt_mul (Nat.pow_pos (by decide))).1 h3 |> fun h => by rw [Nat.mul_comm]; exact h
theorem lt_of_top (N i : Nat) (hN : N < 2 ^ (64 * i + 64)) (h : wd N i = 0) : N < 2 ^ (64 * i) := by
  have e : wd N i = N / 2 ^ (64 * i) := by
    unfold wd
    apply Nat.mod_eq_of_lt
    rw [Nat.pow_add] at hN
    exact Nat.div_lt_of_lt_mul hN
  rw [e] at h
  rcases (Nat.div_eq_zero_iff).1 h with h' | h'
  · have := Nat.pow_pos (n := 64 * i) (show 0 < 2 by decide); omega
  · exact h'
theorem bl_256 {N : Nat} (hN : N < 2 ^ 256) : bl N ≤ 256 := bl_le.2 hN
end Go.Proofs.Ytkkkjpdmjgafoaa.Bi
