/- wire.PutVar. -/
import Derived.Test.YtgaagggcilchbaaK5
namespace Go.Proofs.Ytgaagggcilchbaa
open Go.RowKit

/-- A number in groups of seven bits, at most k + 1 of them. -/
def pvF : Nat → Nat → List Int
  | 0, v => [(v : Int)]
  | k + 1, v => if v < 128 then [(v : Int)] else ((v % 128 + 128 : Nat) : Int) :: pvF k (v / 128)
theorem pvF_lo {v : Nat} (h : v < 128) (k : Nat) : pvF k v = [(v : Int)] := by
  cases k with
  | zero => rfl
  | succ k => rw [pvF, if_pos h]
theorem pvF_more (k : Nat) : ∀ v j, v ≤ k → v ≤ j → pvF k v = pvF j v := by
  induction k with
  | zero => intro v j hk hj; rw [pvF_lo (by omega), pvF_lo (by omega)]
  | succ k ih =>
    intro v j hk hj
    by_cases h : v < 128
    · rw [pvF_lo h, pvF_lo h]
    · cases j with
      | zero => omega
      | succ j => rw [pvF, pvF, if_neg h, if_neg h, ih (v / 128) j (by omega) (by omega)]
/-- A number in groups of seven bits. -/
def pvL (v : Nat) : List Int := pvF v v
theorem pvL_lo {v : Nat} (h : v < 128) : pvL v = [(v : Int)] := pvF_lo h v
theorem pvL_hi {v : Nat} (h : 128 ≤ v) : pvL v = ((v % 128 + 128 : Nat) : Int) :: pvL (v / 128) := by
  unfold pvL
  rw [show pvF v v = pvF (v - 1 + 1) v from by rw [show v - 1 + 1 = v from by omega], pvF, if_neg (by omega), pvF_more (v - 1) (v / 128) (v / 128) (by omega) (by omega)]
theorem pvL_len (k : Nat) : ∀ v, v < 128 ^ (k + 1) → (pvL v).length ≤ k + 1 := by
  induction k with
  | zero => intro v hv; rw [pvL_lo (by simpa using hv)]; simp
  | succ k ih =>
    intro v hv
    by_cases h : v < 128
    · rw [pvL_lo h]; simp
    · rw [pvL_hi (by omega)]
      have := ih (v / 128) (by rw [Nat.pow_succ] at hv; omega)
      simp only [List.length_cons]
      omega
set_option maxRecDepth 100000 in
theorem or_more (m : Nat) : bits .or .u8 ((m : Int) % 256) 128 = ((m % 128 + 128 : Nat) : Int) := by
  rw [show (m : Int) % 256 = ((m % 256 : Nat) : Int) from by simp, show (128 : Int) = ((128 : Nat) : Int) from rfl, u8_or_nat _ _ (by omega) (by decide)]
  have e : ∀ x, x < 256 → x ||| 128 = x % 128 + 128 := by decide
  rw [e _ (by omega)]
  congr 1
  omega

set_option maxRecDepth 100000 in
set_option maxHeartbeats 1000000 in
theorem putVar_any (b : ByteArray) (v : Nat) (hb : b.size ≤ 1000000000000000) (hv : v < 18446744073709551616) (w : World) :
    Calls Try.prog 12 #[.string b, .int .u64 v] w fun e w' => e = .returned (.string (b ++ strOfNums (pvL v))) ∧ Below w.heap.size w w' := by
  have hlen : (pvL v).length ≤ 10 := pvL_len 9 v (by omega)
  go_enter Try.func12, Try.ntmps12
  go_wp2
  go_loopw [1, 5] (fun t o wr => ∃ (m : Nat) (l : List Int), m < 18446744073709551616 ∧ t = .int .u64 m ∧ l ++ pvL m = pvL v ∧ OwnB wr w.heap.size o l ∧ Below w.heap.size w wr) (fun t _ _ => (intOf t).toNat)
  case atStart => exact ⟨v, [], hv, rfl, rfl, ownB_nil _ _, Below.refl _ _⟩
  case round =>
    obtain ⟨m, l, hm, rfl, hl, hown, hbel⟩ := hrel
    have hll : l.length ≤ 10 := by rw [← hl, List.length_append] at hlen; omega
    have HL := hidIn hl
    have HN := hidIn hlen
    clear hl hlen
    by_cases hlt : m < 128
    · have hlt' : ¬ 128 ≤ m := by omega
      have hq : ¬ 9223372036854775807 < b.size + (strOfNums (l ++ [(m : Int)])).size := by rw [strOfNums_size, List.length_append, List.length_singleton]; omega
      go_wp2_with (at_builtin; refine wpList_append_bytes1 (w0 := w) rfl _ _ rfl _ _ rfl hown hbel _ rfl (by omega) ?_; intro v1 w1 h1 b1; have hc := h1.string)
      go_ret
      refine ⟨?_, b1⟩
      rw [← HL.out, pvL_lo hlt]
      rfl
    · have hlt' : 128 ≤ m := by omega
      have hor := or_more m
      go_wp2_with (at_builtin; refine wpList_append_bytes1 (w0 := w) rfl _ _ rfl _ _ rfl hown hbel _ rfl (by omega) ?_; intro v1 w1 h1 b1)
      go_roundw
      case rel => exact ⟨m / 128, l ++ [((m % 128 + 128 : Nat) : Int)], by omega, by go_num, by rw [List.append_assoc, List.singleton_append, ← pvL_hi hlt']; exact HL.out, h1, b1⟩
      case measure => simp [intOf]; omega
end Go.Proofs.Ytgaagggcilchbaa
