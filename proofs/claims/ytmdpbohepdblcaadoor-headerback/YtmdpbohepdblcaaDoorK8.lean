/- wire.PutVar. -/
import Derived.Test.YtmdpbohepdblcaaDoorK5
namespace Go.Proofs.YtmdpbohepdblcaaDoor.Wi
open Go.RowKit

/-- A number in groups of seven bits. -/
def pvL (v : Nat) : List Int := if v < 128 then [(v : Int)] else ((v % 128 + 128 : Nat) : Int) :: pvL (v / 128)
termination_by v
decreasing_by omega
theorem pvL_lo {v : Nat} (h : v < 128) : pvL v = [(v : Int)] := by rw [pvL, if_pos h]
theorem pvL_hi {v : Nat} (h : 128 ≤ v) : pvL v = ((v % 128 + 128 : Nat) : Int) :: pvL (v / 128) := by rw [pvL, if_neg (by omega)]
theorem pvL_len (k : Nat) : ∀ v, v < 128 ^ (k + 1) → (pvL v).length ≤ k + 1 := by
  induction k with
  | zero => intro v hv; rw [pvL_lo (by simpa using hv)]; simp
  | succ k ih =>
    intro v hv
    by_cases h : v < 128
    · rw [pvL_lo h]; simp
    · rw [pvL_hi (by omega)]
      have := ih (v / 128) (by rw [Nat.pow_succ] at hv; omega)
      simp only [List.length_cons]
      omega
set_option maxRecDepth 100000 in
theorem or_more (m : Nat) : bits .or .u8 ((m : Int) % 256) 128 = ((m % 128 + 128 : Nat) : Int) := by
  rw [show (m : Int) % 256 = ((m % 256 : Nat) : Int) from by simp, show (128 : Int) = ((128 : Nat) : Int) from rfl, u8_or_nat _ _ (by omega) (by decide)]
  have e : ∀ x, x < 256 → x ||| 128 = x % 128 + 128 := by decide
  rw [e _ (by omega)]
  congr 1
  omega

end Go.Proofs.YtmdpbohepdblcaaDoor.Wi
