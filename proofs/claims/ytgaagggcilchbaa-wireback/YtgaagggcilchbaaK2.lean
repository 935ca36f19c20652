/- Plain numbers: sealed bytes have the sum 0; bits that are turned within 16 have not. -/
import Derived.Test.YtgaagggcilchbaaK1
namespace Go.Proofs.Ytgaagggcilchbaa
open Go

theorem add1_xor {S T c : Nat} (hS : S < 65536) (hT : T < 65536) (hc : c < 256) : add1 (S ^^^ T) c = add1 S c ^^^ shN 8 T := by
  unfold add1
  rw [show S ^^^ T ^^^ c * 256 = (S ^^^ c * 256) ^^^ T from by rw [Nat.xor_assoc, Nat.xor_comm T, ← Nat.xor_assoc], shN_xor 8 (in_lt hS hc) hT]
theorem add1_xor_byte {S x m : Nat} (hS : S < 65536) (hx : x < 256) (hm : m < 256) : add1 S (x ^^^ m) = add1 S x ^^^ shN 8 (m * 256) := by
  unfold add1
  have e : (x ^^^ m) * 256 = x * 256 ^^^ m * 256 := by
    have k : ∀ y : Nat, y * 256 = y <<< 8 := fun y => by rw [Nat.shiftLeft_eq]
    rw [k, k, k, Nat.shiftLeft_xor_distrib]
  rw [e, ← Nat.xor_assoc, shN_xor 8 (in_lt hS hx) (show m * 256 < 65536 by omega)]
theorem crc_xor {S T : Nat} (hS : S < 65536) (hT : T < 65536) (l : List UInt8) : crc (S ^^^ T) l = crc S l ^^^ shN (8 * l.length) T := by
  induction l generalizing S T with
  | nil => rw [crc_nil, crc_nil]; rfl
  | cons c l ih =>
    have hc : c.toNat < 256 := by have := c.toNat_lt; omega
    rw [crc_cons, crc_cons, add1_xor hS hT hc, ih (add1_lt hS hc) (shN_lt _ _ hT), List.length_cons, Nat.mul_add, shN_add]

/-- One bit of bytes, turned: the bit p, the highest of the first byte being 0. -/
def flip (l : List UInt8) (p : Nat) : List UInt8 := l.set (p / 8) (l.getD (p / 8) 0 ^^^ (UInt8.ofNat (128 / 2 ^ (p % 8))))
theorem flip_length (l : List UInt8) (p : Nat) : (flip l p).length = l.length := by unfold flip; simp
theorem up_one (q : Nat) (h : q < 16) : shN q (32768 / 2 ^ q) = 32768 := by
  have : q = 0 ∨ q = 1 ∨ q = 2 ∨ q = 3 ∨ q = 4 ∨ q = 5 ∨ q = 6 ∨ q = 7 ∨ q = 8 ∨ q = 9 ∨ q = 10 ∨ q = 11 ∨ q = 12 ∨ q = 13 ∨ q = 14 ∨ q = 15 := by omega
  rcases this with rfl | rfl | rfl | rfl | rfl | rfl | rfl | rfl | rfl | rfl | rfl | rfl | rfl | rfl | rfl | rfl <;> decide
theorem mid_pow (q : Nat) (hq : q < 8) : 128 / 2 ^ q * 256 = 32768 / 2 ^ q := by
  have : q = 0 ∨ q = 1 ∨ q = 2 ∨ q = 3 ∨ q = 4 ∨ q = 5 ∨ q = 6 ∨ q = 7 := by omega
  rcases this with rfl | rfl | rfl | rfl | rfl | rfl | rfl | rfl <;> decide
theorem mid_up (k q : Nat) (hq : q < 8) : shN (k + 8) (128 / 2 ^ q * 256) = shN (k + 8 - q) 32768 := by
  rw [mid_pow q hq, show k + 8 = (k + 8 - q) + q from by omega, shN_add, up_one q (by omega), Nat.add_sub_cancel]
theorem crc_mid (a b : List UInt8) (x : UInt8) (q : Nat) (hq : q < 8) {S : Nat} (hS : S < 65536) :
    crc S (a ++ (x ^^^ UInt8.ofNat (128 / 2 ^ q)) :: b) = crc S (a ++ x :: b) ^^^ shN (8 * b.length + 8 - q) 32768 := by
  have hm : 128 / 2 ^ q < 256 := Nat.lt_of_le_of_lt (Nat.div_le_self _ _) (by decide)
  have hx : x.toNat < 256 := by have := x.toNat_lt; omega
  have hT : crc S a < 65536 := crc_lt hS _
  have hm2 : 128 / 2 ^ q * 256 < 65536 := by omega
  have eb : (x ^^^ UInt8.ofNat (128 / 2 ^ q)).toNat = x.toNat ^^^ 128 / 2 ^ q := by
    rw [UInt8.toNat_xor, UInt8.toNat_ofNat', Nat.mod_eq_of_lt hm]
  rw [crc_append, crc_append, crc_cons, crc_cons, eb, add1_xor_byte hT hx hm, crc_xor (add1_lt hT hx) (shN_lt _ _ hm2), ← shN_add, mid_up _ q hq]
theorem crc_flip (l : List UInt8) (p : Nat) (hp : p < 8 * l.length) {S : Nat} (hS : S < 65536) : crc S (flip l p) = crc S l ^^^ shN (8 * l.length - p) 32768 := by
  have hi : p / 8 < l.length := by omega
  have e : l.take (p / 8) ++ l[p / 8] :: l.drop (p / 8 + 1) = l := by
    rw [List.getElem_cons_drop, List.take_append_drop]
  have ef : flip l p = l.take (p / 8) ++ (l[p / 8] ^^^ UInt8.ofNat (128 / 2 ^ (p % 8))) :: l.drop (p / 8 + 1) := by
    unfold flip
    rw [List.set_eq_take_append_cons_drop, if_pos hi, List.getD_eq_getElem?_getD, List.getElem?_eq_getElem hi, Option.getD_some]
  have hl : 8 * (l.drop (p / 8 + 1)).length + 8 - p % 8 = 8 * l.length - p := by rw [List.length_drop]; omega
  rw [ef, crc_mid _ _ _ _ (Nat.mod_lt _ (by decide)) hS, e, hl]

/-- The turned bits of the first i as one number. -/
def bur (t : Nat) : Nat → Nat
  | 0 => 0
  | i + 1 => bur t i ^^^ (if t.testBit i then 32768 / 2 ^ i else 0)
theorem bur_lt (t i : Nat) : bur t i < 65536 := by
  induction i with
  | zero => exact Nat.zero_lt_succ _
  | succ i ih =>
    refine Nat.xor_lt_two_pow (n := 16) ih ?_
    split
    · exact Nat.lt_of_le_of_lt (Nat.div_le_self _ _) (by decide)
    · decide
theorem bur_bit (t i j : Nat) (hi : i ≤ 16) : (bur t i).testBit (15 - j) = (decide (j < i) && t.testBit j) ∨ 16 ≤ j := by
  by_cases hj : 16 ≤ j
  · exact .inr hj
  refine .inl ?_
  induction i with
  | zero => simp [bur]
  | succ i ih =>
    have ep : 32768 / 2 ^ i = 2 ^ (15 - i) := by
      have : 32768 = 2 ^ (15 - i) * 2 ^ i := by rw [← Nat.pow_add, Nat.sub_add_cancel (by omega)]
      rw [this, Nat.mul_div_cancel _ (Nat.two_pow_pos i)]
    unfold bur
    rw [Nat.testBit_xor, ih (by omega), ep]
    by_cases hij : i = j
    · subst hij
      cases ht : t.testBit i <;> simp
    · have hne : ¬ (15 - i = 15 - j) := by omega
      have hd : decide (j < i + 1) = decide (j < i) := by rw [Bool.eq_iff_iff]; simp; omega
      rw [hd]
      cases ht : t.testBit i <;> simp [hne]
theorem bur_ne {t i j : Nat} (hi : i ≤ 16) (hj : j < i) (ht : t.testBit j = true) : bur t i ≠ 0 := by
  intro e
  have := bur_bit t i j hi
  rw [e] at this
  simp [hj, ht] at this
  omega

/-- Bytes with their sum behind. -/
def sealed (l : List UInt8) : List UInt8 := l ++ [UInt8.ofNat (crc 65535 l / 256), UInt8.ofNat (crc 65535 l % 256)]
theorem sealed_length (l : List UInt8) : (sealed l).length = l.length + 2 := by unfold sealed; simp
theorem split_sum (S : Nat) : S ^^^ (S / 256 * 256) = S % 256 := by
  have e : S / 256 * 256 = (S / 2 ^ 8) <<< 8 := by rw [Nat.shiftLeft_eq]
  rw [e]
  apply Nat.eq_of_testBit_eq
  intro i
  rw [Nat.testBit_xor, Nat.testBit_shiftLeft, Nat.testBit_div_two_pow, show S % 256 = S % 2 ^ 8 from rfl, Nat.testBit_mod_two_pow]
  by_cases h : 8 ≤ i
  · have : i - 8 + 8 = i := by omega
    have h2 : ¬ i < 8 := by omega
    simp [h, h2, this]
  · have h2 : i < 8 := by omega
    simp [h, h2]
theorem shN_low : ∀ (n x : Nat), x * 2 ^ n < 65536 → shN n x = x * 2 ^ n
  | 0, x, _ => by simp [shN]
  | n + 1, x, h => by
    have h1 : x * 2 ^ n * 2 < 65536 := by rw [Nat.mul_assoc, ← Nat.pow_succ]; exact h
    simp only [shN]
    rw [shN_low n x (by omega)]
    unfold sh1
    rw [if_neg (by omega), Nat.mod_eq_of_lt h1, Nat.mul_assoc, ← Nat.pow_succ]
theorem crc_sealed (l : List UInt8) : crc 65535 (sealed l) = 0 := by
  have hS : crc 65535 l < 65536 := crc_lt (by decide) l
  unfold sealed
  rw [crc_append, crc_cons, crc_one, UInt8.toNat_ofNat', UInt8.toNat_ofNat']
  generalize crc 65535 l = S at hS
  have h1 : S / 256 % 2 ^ 8 = S / 256 := Nat.mod_eq_of_lt (by omega)
  have h2 : S % 256 % 2 ^ 8 = S % 256 := Nat.mod_eq_of_lt (by omega)
  rw [h1, h2]
  have h3 : add1 S (S / 256) = S % 256 * 256 := by
    unfold add1
    rw [split_sum S, shN_low 8 _ (by omega)]
  rw [h3]
  unfold add1
  rw [Nat.xor_self]
  exact shN_zero 8
/-- What is turned within 16 bits is no sealed bytes. -/
theorem burst_found {l c : List UInt8} {t at' i : Nat} (hc : crc 65535 c = crc 65535 (sealed l) ^^^ shN (8 * (sealed l).length - at') (bur t i)) (hb : bur t i ≠ 0) (m : List UInt8) : sealed m ≠ c := by
  intro e
  have h0 : crc 65535 c = 0 := by rw [← e]; exact crc_sealed m
  rw [h0, crc_sealed, Nat.zero_xor] at hc
  exact shN_ne _ (bur_lt t i) hb hc.symm
theorem burst_step {s c : List UInt8} {t a i : Nat} (hi : i < 16) (ha : a + i < 8 * s.length) (hl : c.length = s.length)
    (hc : crc 65535 c = crc 65535 s ^^^ shN (8 * s.length - a) (bur t i)) (ht : t.testBit i = true) :
    crc 65535 (flip c (a + i)) = crc 65535 s ^^^ shN (8 * s.length - a) (bur t (i + 1)) := by
  have h1 : 32768 / 2 ^ i < 65536 := Nat.lt_of_le_of_lt (Nat.div_le_self _ _) (by decide)
  rw [crc_flip c (a + i) (by omega) (by decide), hc, hl, Nat.xor_assoc]
  congr 1
  conv => rhs; unfold bur
  rw [if_pos ht, shN_xor _ (bur_lt t i) h1]
  congr 1
  rw [show 8 * s.length - a = (8 * s.length - (a + i)) + i from by omega, shN_add, up_one i hi]
theorem bur_skip {t i : Nat} (ht : t.testBit i = false) : bur t (i + 1) = bur t i := by
  conv => lhs; unfold bur
  simp [ht]
end Go.Proofs.Ytgaagggcilchbaa
