/- Ranks as plain numbers: unlike numbers below 2^32 have unlike ranks. -/
import Derived.Laws.BitsAllLaws
namespace Go.Proofs.Ytcgndpenalcpeaa
open Go

/-- A number xor itself moved down. -/
def xsh (s x : Nat) : Nat := x ^^^ (x / 2 ^ s)
def mx0 (e m : Nat) : Nat := e ^^^ (m * 2654435761 % 4294967296)
def mx1 (x : Nat) : Nat := xsh 16 x
def mx2 (x : Nat) : Nat := x * 2246822507 % 4294967296
def mx3 (x : Nat) : Nat := xsh 13 x
def mx4 (x : Nat) : Nat := x * 3266489909 % 4294967296
/-- The rank of a number below 2^32. -/
def mixN (e m : Nat) : Nat := mx1 (mx4 (mx3 (mx2 (mx1 (mx0 e m)))))
/-- The rank of a number. -/
def mix (e : Nat) (n : Int) : Nat := mixN e (n % 4294967296).toNat

theorem xsh_lt {s x : Nat} (h : x < 4294967296) : xsh s x < 4294967296 := Nat.xor_lt_two_pow (n := 32) h (Nat.lt_of_le_of_lt (Nat.div_le_self _ _) h)
theorem mx0_lt {e m : Nat} (h : e < 4294967296) : mx0 e m < 4294967296 := Nat.xor_lt_two_pow (n := 32) h (Nat.mod_lt _ (by decide))
theorem mx2_lt (x : Nat) : mx2 x < 4294967296 := Nat.mod_lt _ (by decide)
theorem mx4_lt (x : Nat) : mx4 x < 4294967296 := Nat.mod_lt _ (by decide)
theorem mix_lt (e : Nat) (n : Int) : mix e n < 4294967296 := xsh_lt (mx4_lt _)
theorem div_xor (a b s : Nat) : (a ^^^ b) / 2 ^ s = (a / 2 ^ s) ^^^ (b / 2 ^ s) := by
  apply Nat.eq_of_testBit_eq
  intro j
  rw [Nat.testBit_div_two_pow, Nat.testBit_xor, Nat.testBit_xor, Nat.testBit_div_two_pow, Nat.testBit_div_two_pow]
theorem big_shift {x s : Nat} (h : x < 4294967296) (hs : 32 ≤ s) : x / 2 ^ s = 0 :=
  Nat.div_eq_of_lt (Nat.lt_of_lt_of_le h (show 2 ^ 32 ≤ 2 ^ s from Nat.pow_le_pow_right (by decide) hs))
theorem div_div_pow (x a b : Nat) : x / 2 ^ a / 2 ^ b = x / 2 ^ (a + b) := by rw [Nat.div_div_eq_div_mul, Nat.pow_add]
theorem xsh16_twice {x : Nat} (h : x < 4294967296) : xsh 16 (xsh 16 x) = x := by
  unfold xsh
  rw [div_xor, div_div_pow, big_shift h (show 32 ≤ 16 + 16 by decide), Nat.xor_zero, Nat.xor_assoc, Nat.xor_self, Nat.xor_zero]
theorem xsh16_inj {x y : Nat} (hx : x < 4294967296) (hy : y < 4294967296) (h : xsh 16 x = xsh 16 y) : x = y := by rw [← xsh16_twice hx, ← xsh16_twice hy, h]
theorem xsh13_back {x : Nat} (h : x < 4294967296) : xsh 13 x ^^^ (xsh 13 x / 2 ^ 13) ^^^ (xsh 13 x / 2 ^ 26) = x := by
  unfold xsh
  rw [div_xor, div_xor, div_div_pow, div_div_pow, big_shift h (show 32 ≤ 13 + 26 by decide), Nat.xor_zero, Nat.xor_assoc x, ← Nat.xor_assoc (x / 2 ^ 13), Nat.xor_self, Nat.zero_xor, Nat.xor_assoc, Nat.xor_self, Nat.xor_zero]
theorem xsh13_inj {x y : Nat} (hx : x < 4294967296) (hy : y < 4294967296) (h : xsh 13 x = xsh 13 y) : x = y := by rw [← xsh13_back hx, ← xsh13_back hy, h]
theorem mul_inj {c d x y : Nat} (hcd : c * d % 4294967296 = 1) (hx : x < 4294967296) (hy : y < 4294967296) (h : x * c % 4294967296 = y * c % 4294967296) : x = y := by
  have k : ∀ z : Nat, z < 4294967296 → z * c % 4294967296 * d % 4294967296 = z := fun z hz => by
    rw [Nat.mul_mod, Nat.mod_mod, ← Nat.mul_mod, Nat.mul_assoc, Nat.mul_mod, hcd, Nat.mul_one, Nat.mod_mod, Nat.mod_eq_of_lt hz]
  rw [← k x hx, ← k y hy, h]
theorem xor_inj {e a b : Nat} (h : e ^^^ a = e ^^^ b) : a = b := by
  have : e ^^^ (e ^^^ a) = e ^^^ (e ^^^ b) := by rw [h]
  rwa [← Nat.xor_assoc, ← Nat.xor_assoc, Nat.xor_self, Nat.zero_xor, Nat.zero_xor] at this
theorem mixN_inj {e a b : Nat} (he : e < 4294967296) (ha : a < 4294967296) (hb : b < 4294967296) (h : mixN e a = mixN e b) : a = b := by
  have h1 := xsh16_inj (mx4_lt _) (mx4_lt _) h
  have h2 := mul_inj (d := 2127672349) (by decide) (xsh_lt (mx2_lt _)) (xsh_lt (mx2_lt _)) h1
  have h3 := xsh13_inj (mx2_lt _) (mx2_lt _) h2
  have h4 := mul_inj (d := 2781581891) (by decide) (xsh_lt (mx0_lt he)) (xsh_lt (mx0_lt he)) h3
  have h5 := xsh16_inj (mx0_lt he) (mx0_lt he) h4
  exact mul_inj (d := 244002641) (by decide) ha hb (xor_inj h5)
/-- Unlike routers have unlike ranks. -/
theorem mix_inj {e : Nat} (he : e < 4294967296) {a b : Int} (ha : 0 ≤ a ∧ a < 4294967296) (hb : 0 ≤ b ∧ b < 4294967296) (h : mix e a = mix e b) : a = b := by
  have := mixN_inj he (by omega) (by omega) h
  omega
end Go.Proofs.Ytcgndpenalcpeaa
