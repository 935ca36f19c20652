/- Plain numbers: the sum of bytes (16 bits, cyclic), and what it finds. -/
import Derived.Laws.BitsAllLaws
namespace Go.Proofs.Yteaaoipipjkgnaa.Wi
open Go

/-- One bit up. -/
def sh1 (s : Nat) : Nat := if 32768 ≤ s then (s * 2 % 65536) ^^^ 4129 else s * 2 % 65536
def shN : Nat → Nat → Nat
  | 0, s => s
  | n + 1, s => sh1 (shN n s)
/-- One byte more. -/
def add1 (s c : Nat) : Nat := shN 8 (s ^^^ (c * 256))
/-- The sum of bytes, begun at s. -/
def crc (s : Nat) (l : List UInt8) : Nat := l.foldl (fun s c => add1 s c.toNat) s

theorem sh1_lt (s : Nat) : sh1 s < 65536 := by
  unfold sh1
  split
  · exact Nat.xor_lt_two_pow (n := 16) (Nat.mod_lt _ (by decide)) (by decide)
  · exact Nat.mod_lt _ (by decide)
theorem shN_lt (n s : Nat) (h : s < 65536) : shN n s < 65536 := by
  cases n with
  | zero => exact h
  | succ n => exact sh1_lt _
theorem in_lt {s c : Nat} (h : s < 65536) (hc : c < 256) : s ^^^ (c * 256) < 65536 := Nat.xor_lt_two_pow (n := 16) h (show c * 256 < 2 ^ 16 by omega)
theorem add1_lt {s c : Nat} (h : s < 65536) (hc : c < 256) : add1 s c < 65536 := shN_lt _ _ (in_lt h hc)
theorem crc_nil (s : Nat) : crc s [] = s := by unfold crc; rw [List.foldl_nil]
theorem crc_cons (s : Nat) (c : UInt8) (l : List UInt8) : crc s (c :: l) = crc (add1 s c.toNat) l := by unfold crc; rw [List.foldl_cons]
theorem crc_lt {s : Nat} (h : s < 65536) (l : List UInt8) : crc s l < 65536 := by
  induction l generalizing s with
  | nil => rw [crc_nil]; exact h
  | cons c l ih => rw [crc_cons]; exact ih (add1_lt h (by have := c.toNat_lt; omega))
theorem crc_append (s : Nat) (a b : List UInt8) : crc s (a ++ b) = crc (crc s a) b := by unfold crc; rw [List.foldl_append]
theorem crc_one (s : Nat) (c : UInt8) : crc s [c] = add1 s c.toNat := by rw [crc_cons, crc_nil]
theorem shN_add (m n s : Nat) : shN (m + n) s = shN m (shN n s) := by
  induction m with
  | zero => simp [shN]
  | succ m ih => rw [Nat.succ_add]; simp only [shN]; rw [ih]

/-- The model's words. -/
theorem u16_in (s c : Nat) (h : s < 65536) (hc : c < 256) : bits .xor .u16 (s : Int) (c * 256 % 65536 : Int) = ((s ^^^ (c * 256) : Nat) : Int) := by
  have e : ((c : Int) * 256 % 65536) = ((c * 256 : Nat) : Int) := by omega
  rw [e, u16_xor_nat _ _ h (by omega)]
theorem u16_high (s : Nat) (h : s < 65536) : bits .and .u16 (s : Int) 32768 = if 32768 ≤ s then 32768 else 0 := by
  have := u16_and_nat s 32768 h (by decide)
  rw [show ((32768 : Nat) : Int) = 32768 from rfl] at this
  rw [this, show (32768 : Nat) = 2 ^ 15 from rfl, nat_bit]
  have : s / 2 ^ 15 = 0 ∨ s / 2 ^ 15 = 1 := by omega
  split <;> omega
theorem u16_poly (s : Nat) (_ : s < 65536) : bits .xor .u16 (s * 2 % 65536 : Int) 4129 = (((s * 2 % 65536) ^^^ 4129 : Nat) : Int) := by
  have e : ((s : Int) * 2 % 65536) = ((s * 2 % 65536 : Nat) : Int) := by omega
  rw [e, show (4129 : Int) = ((4129 : Nat) : Int) from rfl, u16_xor_nat _ _ (Nat.mod_lt _ (by decide)) (by decide)]

/-- The top bit. -/
theorem top_iff {s : Nat} (h : s < 65536) : (32768 ≤ s) ↔ s.testBit 15 = true := by
  have hs : s / 32768 = 0 ∨ s / 32768 = 1 := by omega
  rw [Nat.testBit_eq_decide_div_mod_eq]
  simp only [decide_eq_true_eq]
  omega
theorem dbl_xor (a b : Nat) : (a ^^^ b) * 2 % 65536 = (a * 2 % 65536) ^^^ (b * 2 % 65536) := by
  have k : ∀ x : Nat, x * 2 % 65536 = (x <<< 1) % 2 ^ 16 := fun x => by rw [Nat.shiftLeft_eq]
  rw [k, k, k, Nat.shiftLeft_xor_distrib, Nat.xor_mod_two_pow]
theorem sh1_xor {a b : Nat} (ha : a < 65536) (hb : b < 65536) : sh1 (a ^^^ b) = sh1 a ^^^ sh1 b := by
  have hab : a ^^^ b < 65536 := Nat.xor_lt_two_pow (n := 16) ha hb
  have ta := top_iff ha
  have tb := top_iff hb
  have tc := top_iff hab
  rw [Nat.testBit_xor] at tc
  unfold sh1
  rw [dbl_xor]
  generalize a * 2 % 65536 = x
  generalize b * 2 % 65536 = y
  cases h1 : a.testBit 15 <;> cases h2 : b.testBit 15 <;> rw [h1] at ta tc <;> rw [h2] at tb tc <;> simp at ta tb tc
  · rw [if_neg (by omega), if_neg (by omega), if_neg (by omega)]
  · rw [if_pos (by omega), if_neg (by omega), if_pos (by omega), Nat.xor_assoc]
  · rw [if_pos (by omega), if_pos (by omega), if_neg (by omega), Nat.xor_assoc, Nat.xor_assoc, Nat.xor_comm y]
  · rw [if_neg (by omega), if_pos (by omega), if_pos (by omega), Nat.xor_assoc x, ← Nat.xor_assoc 4129, Nat.xor_comm 4129 y, Nat.xor_assoc y, Nat.xor_self, Nat.xor_zero]
theorem sh1_zero : sh1 0 = 0 := by decide
theorem sh1_ne {a : Nat} (ha : a < 65536) (h : a ≠ 0) : sh1 a ≠ 0 := by
  unfold sh1
  split
  · intro e
    have : ((a * 2 % 65536) ^^^ 4129).testBit 0 = true := by
      rw [Nat.testBit_xor, Nat.testBit_eq_decide_div_mod_eq]
      have : a * 2 % 65536 / 2 ^ 0 % 2 = 0 := by omega
      rw [this]
      decide
    rw [e] at this
    simp at this
  · omega
theorem shN_xor (n : Nat) {a b : Nat} (ha : a < 65536) (hb : b < 65536) : shN n (a ^^^ b) = shN n a ^^^ shN n b := by
  induction n with
  | zero => rfl
  | succ n ih => simp only [shN]; rw [ih, sh1_xor (shN_lt _ _ ha) (shN_lt _ _ hb)]
theorem shN_zero (n : Nat) : shN n 0 = 0 := by
  induction n with
  | zero => rfl
  | succ n ih => simp only [shN]; rw [ih]; decide
theorem shN_ne (n : Nat) {a : Nat} (ha : a < 65536) (h : a ≠ 0) : shN n a ≠ 0 := by
  induction n with
  | zero => exact h
  | succ n ih => exact sh1_ne (shN_lt _ _ ha) ih
theorem shN_inj (n : Nat) {a b : Nat} (ha : a < 65536) (hb : b < 65536) (h : shN n a = shN n b) : a = b := by
  have hab : a ^^^ b < 65536 := Nat.xor_lt_two_pow (n := 16) ha hb
  have hz : shN n (a ^^^ b) = 0 := by rw [shN_xor n ha hb, h, Nat.xor_self]
  have h0 : a ^^^ b = 0 := Decidable.byContradiction fun hne => shN_ne n hab hne hz
  have : a ^^^ b ^^^ b = b := by rw [h0, Nat.zero_xor]
  rwa [Nat.xor_assoc, Nat.xor_self, Nat.xor_zero] at this
end Go.Proofs.Yteaaoipipjkgnaa.Wi
