/- Plain lists: a text of bits, cut into its words, and the numbers that they spell. -/
import Derived.Test.YtjpnbjfomikhaaaDoorT1
import Derived.Lib.Atoi
import Derived.Lib.IndexLaws
import Derived.Lib.IndexMore
import Derived.Lib.IndexBytes
namespace Go.Proofs.YtjpnbjfomikhaaaDoor
open Go.RowKit

theorem dec_digit (u : Nat) : ∀ b ∈ Lib.decDigits u, 48 ≤ b.toNat ∧ b.toNat ≤ 57 := by
  induction u using Nat.strongRecOn with
  | ind u ih =>
    rw [Lib.decDigits]
    split
    · intro b hb
      rw [List.mem_singleton.1 hb, UInt8.toNat_ofNat']
      omega
    · intro b hb
      rcases List.mem_append.1 hb with h | h
      · exact ih (u / 10) (by omega) b h
      · rw [List.mem_singleton.1 h, UInt8.toNat_ofNat']
        omega
theorem dec_ne (u : Nat) : Lib.decDigits u ≠ [] := by
  rw [Lib.decDigits]
  split <;> simp
theorem decFrom_snoc (l : List UInt8) (b : UInt8) : ∀ (acc n d : Nat), Lib.decFrom acc l = some n → Lib.digitVal b = some d → Lib.decFrom acc (l ++ [b]) = some (n * 10 + d) := by
  induction l with
  | nil => intro acc n d h hb; simp [Lib.decFrom] at h; subst h; simp [Lib.decFrom, hb]
  | cons c l ih =>
    intro acc n d h hb
    simp only [List.cons_append, Lib.decFrom] at h ⊢
    cases hc : Lib.digitVal c with
    | none => rw [hc] at h; cases h
    | some e => rw [hc] at h; exact ih _ _ _ h hb
theorem digit_of (k : Nat) (h : k < 10) : Lib.digitVal (UInt8.ofNat (48 + k)) = some k := by
  unfold Lib.digitVal
  rw [UInt8.toNat_ofNat', if_pos (by omega)]
  congr 1
  omega
theorem decFrom_dec (u : Nat) : Lib.decFrom 0 (Lib.decDigits u) = some u := by
  induction u using Nat.strongRecOn with
  | ind u ih =>
    rw [Lib.decDigits]
    split
    · rename_i h
      show (match Lib.digitVal (UInt8.ofNat (48 + u)) with | some d => Lib.decFrom (0 * 10 + d) [] | none => none) = some u
      rw [digit_of u h]
      simp [Lib.decFrom]
    · rw [decFrom_snoc _ _ 0 (u / 10) (u % 10) (ih (u / 10) (by omega)) (digit_of _ (by omega))]
      congr 1
      omega
theorem atoi_dec (u : Nat) : Lib.atoi (Lib.decDigits u) = some (u : Int) := by
  have hd := dec_digit u
  have hv := decFrom_dec u
  cases hc : Lib.decDigits u with
  | nil => exact absurd hc (dec_ne u)
  | cons b r =>
    rw [hc] at hd hv
    have hb := hd b (by simp)
    have h1 : (b == 45) = false := by
      rw [beq_eq_false_iff_ne]; intro e; rw [e] at hb; exact absurd hb.1 (by decide)
    have h2 : (b == 43) = false := by
      rw [beq_eq_false_iff_ne]; intro e; rw [e] at hb; exact absurd hb.1 (by decide)
    simp [Lib.atoi, h1, h2, Lib.decNat, hv]
theorem no_blank (m : Nat) : ∀ (k : Nat), (num m)[k]? ≠ some 32 := by
  intro k h
  have := dec_digit (m + 1) 32 (List.mem_of_getElem? h)
  exact absurd this.1 (by decide)
/-- The number of bits. -/
def orL (l : List Nat) : Nat := l.foldl (fun a m => a ||| 2 ^ m) 0
theorem orL_snoc (l : List Nat) (m : Nat) : orL (l ++ [m]) = orL l ||| 2 ^ m := by simp [orL]
theorem foldl_bit (l : List Nat) (a j : Nat) : (l.foldl (fun a m => a ||| 2 ^ m) a).testBit j = (a.testBit j || decide (j ∈ l)) := by
  induction l generalizing a with
  | nil => simp
  | cons m l ih =>
    rw [List.foldl_cons, ih, Nat.testBit_or, Nat.testBit_two_pow, Bool.or_assoc]
    congr 1
    by_cases e : j = m
    · subst e; simp
    · have e' : ¬ m = j := fun h => e h.symm
      simp [e, e']
theorem orL_bit (l : List Nat) (j : Nat) : (orL l).testBit j = decide (j ∈ l) := by
  unfold orL
  rw [foldl_bit, Nat.zero_testBit, Bool.false_or]
theorem orL_lst {N : Nat} (hN : N < 2 ^ 256) : orL (lst N) = N := by
  apply Nat.eq_of_testBit_eq
  intro j
  rw [orL_bit]
  by_cases hj : j < 256
  · cases h : N.testBit j <;> simp [mem_lst, hj, h]
  · have h1 : N < 2 ^ j := Nat.lt_of_lt_of_le hN (Nat.pow_le_pow_right (by decide) (by omega))
    rw [Nat.testBit_lt_two_pow h1]
    simp [mem_lst, hj]
theorem txt_one (m : Nat) : txt [m] = num m := by unfold txt; rw [List.map_cons, List.map_nil, Lib.join_one]
theorem txt_more (m p : Nat) (r : List Nat) : txt (m :: p :: r) = num m ++ 32 :: txt (p :: r) := by
  unfold txt
  simp [Lib.join, List.intercalate]
theorem index_blank (m : Nat) (t : List UInt8) : Lib.indexByte (num m ++ 32 :: t) 32 = ((num m).length : Int) := by
  by_cases h0 : Lib.indexByte (num m ++ 32 :: t) 32 = -1
  · exact absurd (show (num m ++ 32 :: t)[(num m).length]? = some 32 by rw [List.getElem?_append_right (Nat.le_refl _), Nat.sub_self]; rfl) (Lib.indexByte_none h0 _)
  · have hg := Lib.indexByte_ge (num m ++ 32 :: t) 32
    obtain ⟨o, ho⟩ : ∃ o : Nat, Lib.indexByte (num m ++ 32 :: t) 32 = o := ⟨(Lib.indexByte (num m ++ 32 :: t) 32).toNat, by omega⟩
    obtain ⟨h1, h2⟩ := Lib.indexByte_some ho
    rw [ho]
    rcases Nat.lt_trichotomy o (num m).length with h | h | h
    · rw [List.getElem?_append_left h] at h1
      exact absurd h1 (no_blank m o)
    · rw [h]
    · exact absurd (show (num m ++ 32 :: t)[(num m).length]? = some 32 by rw [List.getElem?_append_right (Nat.le_refl _), Nat.sub_self]; rfl) (h2 _ h)
theorem index_no (m : Nat) : Lib.indexByte (num m) 32 = -1 := by
  by_cases h0 : Lib.indexByte (num m) 32 = -1
  · exact h0
  · have hg := Lib.indexByte_ge (num m) 32
    obtain ⟨o, ho⟩ : ∃ o : Nat, Lib.indexByte (num m) 32 = o := ⟨(Lib.indexByte (num m) 32).toNat, by omega⟩
    exact absurd (Lib.indexByte_some ho).1 (no_blank m o)
theorem cut_more (m : Nat) (t : List UInt8) : Lib.cut (num m ++ 32 :: t) [32] = (num m, t, true) := by
  unfold Lib.cut
  rw [Lib.index_one, index_blank, if_pos (by omega), Int.toNat_natCast]
  congr 1
  · rw [List.take_append_of_le_length (Nat.le_refl _), List.take_length]
  · congr 1
    rw [List.length_singleton, List.drop_append, List.drop_of_length_le (by omega)]
    simp
theorem cut_last (m : Nat) : Lib.cut (num m) [32] = (num m, [], false) := by
  unfold Lib.cut
  rw [Lib.index_one, index_no, if_neg (by omega)]
end Go.Proofs.YtjpnbjfomikhaaaDoor
