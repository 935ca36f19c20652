/- The document's answer for layer 1: right, Has, put. -/
import Derived.Test.YtkkkjpdmjgafoaaW5
namespace Go.Proofs.Ytkkkjpdmjgafoaa.Bi
open Go.RowKit

set_option maxHeartbeats 400000 in
theorem right_yes (n : Int) (h1 : 1 ≤ n) (h2 : n ≤ 256) (w : World) :
    Calls Try.prog 42 #[.int .i64 n] w fun e w' => e = .returned (.bool true) ∧ w' = w := by
  go_enter Try.func42, Try.ntmps42
  go_wp2
  go_ret
  exact ⟨rfl, rfl⟩
set_option maxHeartbeats 400000 in
theorem right_no (n : Int) (h : n < 1 ∨ 256 < n) (w : World) :
    Calls Try.prog 42 #[.int .i64 n] w fun e w' => e = .returned (.bool false) ∧ w' = w := by
  by_cases h1 : n < 1
  · go_enter Try.func42, Try.ntmps42
    go_wp2
    go_ret
    exact ⟨rfl, rfl⟩
  · have h2 : 256 < n := by omega
    have h3 : 1 ≤ n := by omega
    have h4 : decide (n ≤ 256) = false := by simp; omega
    clear h h1
    go_enter Try.func42, Try.ntmps42
    go_wp2
    go_ret
    exact ⟨rfl, rfl⟩

set_option maxHeartbeats 400000 in
theorem rhas_0 (x0 x1 x2 x3 : Nat) (m : Nat) (q : m / 64 = 0) (w : World) :
    Calls Try.prog 41 #[.agg #[.int .u64 x0, .int .u64 x1, .int .u64 x2, .int .u64 x3], .int .i64 ((m : Int) + 1)] w fun e w' => e = .returned (.bool (bits .and .u64 ((x0 : Int) / 2 ^ (m % 64)) 1 == 1)) ∧ Below w.heap.size w w' := by
  have hm : m < 256 := by omega
  go_enter Try.func41, Try.ntmps41
  go_wp2_with (go_at_call 42; refine (right_yes _ (by omega) (by omega) _).mono ?_; rintro e w1 ⟨rfl, rfl⟩)
  go_ret
  exact ⟨rfl, by go_grown⟩
set_option maxHeartbeats 400000 in
theorem rhas_1 (x0 x1 x2 x3 : Nat) (m : Nat) (q : m / 64 = 1) (w : World) :
    Calls Try.prog 41 #[.agg #[.int .u64 x0, .int .u64 x1, .int .u64 x2, .int .u64 x3], .int .i64 ((m : Int) + 1)] w fun e w' => e = .returned (.bool (bits .and .u64 ((x1 : Int) / 2 ^ (m % 64)) 1 == 1)) ∧ Below w.heap.size w w' := by
  have hm : m < 256 := by omega
  go_enter Try.func41, Try.ntmps41
  go_wp2_with (go_at_call 42; refine (right_yes _ (by omega) (by omega) _).mono ?_; rintro e w1 ⟨rfl, rfl⟩)
  go_ret
  exact ⟨rfl, by go_grown⟩
set_option maxHeartbeats 400000 in
theorem rhas_2 (x0 x1 x2 x3 : Nat) (m : Nat) (q : m / 64 = 2) (w : World) :
    Calls Try.prog 41 #[.agg #[.int .u64 x0, .int .u64 x1, .int .u64 x2, .int .u64 x3], .int .i64 ((m : Int) + 1)] w fun e w' => e = .returned (.bool (bits .and .u64 ((x2 : Int) / 2 ^ (m % 64)) 1 == 1)) ∧ Below w.heap.size w w' := by
  have hm : m < 256 := by omega
  go_enter Try.func41, Try.ntmps41
  go_wp2_with (go_at_call 42; refine (right_yes _ (by omega) (by omega) _).mono ?_; rintro e w1 ⟨rfl, rfl⟩)
  go_ret
  exact ⟨rfl, by go_grown⟩
set_option maxHeartbeats 400000 in
theorem rhas_3 (x0 x1 x2 x3 : Nat) (m : Nat) (q : m / 64 = 3) (w : World) :
    Calls Try.prog 41 #[.agg #[.int .u64 x0, .int .u64 x1, .int .u64 x2, .int .u64 x3], .int .i64 ((m : Int) + 1)] w fun e w' => e = .returned (.bool (bits .and .u64 ((x3 : Int) / 2 ^ (m % 64)) 1 == 1)) ∧ Below w.heap.size w w' := by
  have hm : m < 256 := by omega
  go_enter Try.func41, Try.ntmps41
  go_wp2_with (go_at_call 42; refine (right_yes _ (by omega) (by omega) _).mono ?_; rintro e w1 ⟨rfl, rfl⟩)
  go_ret
  exact ⟨rfl, by go_grown⟩
theorem bit_test (x r : Nat) (hx : x < 18446744073709551616) : (bits .and .u64 ((x : Int) / 2 ^ r) 1 == 1) = x.testBit r := by
  have e : ((x : Int) / 2 ^ r) = ((x / 2 ^ r : Nat) : Int) := by simp
  have h := u64_and_nat (x / 2 ^ r) 1 (Nat.lt_of_le_of_lt (Nat.div_le_self _ _) hx) (by decide)
  have h' : bits .and .u64 ((x : Int) / 2 ^ r) 1 = ((x / 2 ^ r % 2 : Nat) : Int) := by
    rw [e]
    refine Eq.trans ?_ (h.trans ?_)
    · rfl
    · rw [nat_mask1]
  rw [h', Nat.testBit_eq_decide_div_mod_eq]
  rw [Bool.eq_iff_iff]
  simp
  omega
theorem testBit_at (N m j : Nat) (q : m / 64 = j) : (wd N j).testBit (m % 64) = N.testBit m := by rw [← q]; exact (testBit_of_wd N m).symm
/-- **Has it the bit m + 1?** -/
theorem rhas_any (N m : Nat) (h : m < 256) (w : World) :
    Calls Try.prog 41 #[bs N, .int .i64 ((m : Int) + 1)] w fun e w' => e = .returned (.bool (N.testBit m)) ∧ Below w.heap.size w w' := by
  have hc : m / 64 = 0 ∨ m / 64 = 1 ∨ m / 64 = 2 ∨ m / 64 = 3 := by omega
  rcases hc with q | q | q | q
  · refine (rhas_0 _ _ _ _ m q w).mono ?_
    rintro e w' ⟨rfl, hb⟩
    exact ⟨by rw [bit_test _ _ (wd_lt N 0), testBit_at N m 0 q], hb⟩
  · refine (rhas_1 _ _ _ _ m q w).mono ?_
    rintro e w' ⟨rfl, hb⟩
    exact ⟨by rw [bit_test _ _ (wd_lt N 1), testBit_at N m 1 q], hb⟩
  · refine (rhas_2 _ _ _ _ m q w).mono ?_
    rintro e w' ⟨rfl, hb⟩
    exact ⟨by rw [bit_test _ _ (wd_lt N 2), testBit_at N m 2 q], hb⟩
  · refine (rhas_3 _ _ _ _ m q w).mono ?_
    rintro e w' ⟨rfl, hb⟩
    exact ⟨by rw [bit_test _ _ (wd_lt N 3), testBit_at N m 3 q], hb⟩
theorem or_pow (N m j : Nat) (q : m / 64 = j) : bits .or .u64 (wd N j : Int) (IntKind.u64.wrap (2 ^ (m % 64))) = (wd (N ||| 2 ^ m) j : Int) := by
  have h : 2 ^ (m % 64) < 18446744073709551616 := Nat.lt_of_lt_of_le (Nat.pow_lt_pow_right (by decide) (Nat.mod_lt m (by decide : 0 < 64))) (by decide)
  rw [wrap_pow, u64_or_nat _ _ (wd_lt N j) h, wd_or, wd_pow, if_pos q]
theorem or_other (N m i : Nat) (q : m / 64 ≠ i) : wd (N ||| 2 ^ m) i = wd N i := by
  rw [wd_or, wd_pow, if_neg q, Nat.or_zero]
end Go.Proofs.Ytkkkjpdmjgafoaa.Bi
