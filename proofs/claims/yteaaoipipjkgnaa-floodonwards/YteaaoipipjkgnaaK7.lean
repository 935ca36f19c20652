/- wire.Put, wire.Take, wire.PutVar. -/
import Derived.Test.YteaaoipipjkgnaaK6
import Derived.Test.YteaaoipipjkgnaaK4
namespace Go.Proofs.Yteaaoipipjkgnaa.Wi
open Go.RowKit

set_option maxHeartbeats 400000 in
theorem put_arg (b : ByteArray) (v : Nat) (n : Int) (h1 : n ≠ 1) (h2 : n ≠ 2) (h4 : n ≠ 4) (h8 : n ≠ 8) (w : World) :
    Calls Try.prog 90 #[.string b, .int .u64 v, .int .i64 n] w fun e w' => e = .returned (.tuple #[.string ⟨#[]⟩, .int .i64 2]) ∧ w' = w := by
  go_enter Try.func90, Try.ntmps90
  go_wp2_with (go_at_call 92; refine (isSize_no _ h1 h2 h4 h8 _).mono ?_; rintro e w' ⟨rfl, rfl⟩)
  go_ret2
  exact ⟨rfl, rfl⟩
set_option maxHeartbeats 400000 in
theorem put_long (b : ByteArray) (v n : Nat) (hv : v < 18446744073709551616) (hn : n = 1 ∨ n = 2 ∨ n = 4) (hl : 2 ^ (8 * n) ≤ v) (w : World) :
    Calls Try.prog 90 #[.string b, .int .u64 v, .int .i64 n] w fun e w' => e = .returned (.tuple #[.string ⟨#[]⟩, .int .i64 3]) ∧ w' = w := by
  have hz : ((v : Int) / 2 ^ (n * 8) != 0) = true := by
    simp only [bne_iff_ne, ne_eq]
    rcases hn with rfl | rfl | rfl <;> omega
  rcases hn with rfl | rfl | rfl
  all_goals
    simp at hz hl
    go_enter Try.func90, Try.ntmps90
    go_wp2_with (go_at_call 92; refine (isSize_yes _ (by simp) _).mono ?_; rintro e w' ⟨rfl, rfl⟩)
    go_ret2
    exact ⟨rfl, rfl⟩
theorem layN_length (v n : Nat) : (layN v n).length = n := by unfold layN; simp
theorem lay_lit1 (v : Nat) (hv : v < 18446744073709551616) (w : World) :
    Calls Try.prog 93 #[.int .u64 v, .int .i64 1] w fun e w' => e = .returned (.string (strOfNums (layN v 1))) ∧ Below w.heap.size w w' := lay_any v 1 hv (by simp) w
set_option maxHeartbeats 400000 in
theorem put_ok1 (b : ByteArray) (v : Nat) (hb : b.size ≤ 1000000000000000) (hv : v < 18446744073709551616) (hl : v < 256) (w : World) :
    Calls Try.prog 90 #[.string b, .int .u64 v, .int .i64 1] w fun e w' => e = .returned (.tuple #[.string (b ++ strOfNums (layN v 1)), .int .i64 0]) ∧ Below w.heap.size w w' := by
  have hq : ¬ 9223372036854775807 < b.size + (strOfNums (layN v 1)).size := by rw [strOfNums_size, layN_length]; omega
  go_enter Try.func90, Try.ntmps90
  go_wp2_with (first
      | (go_at_call 92; refine (isSize_yes _ (by simp) _).mono ?_; rintro e w' ⟨rfl, rfl⟩)
      | (go_at_call 93; refine (lay_lit1 v hv _).mono ?_; rintro e w1 ⟨rfl, hb1⟩))
  go_ret2
  exact ⟨rfl, hb1⟩
theorem lay_lit2 (v : Nat) (hv : v < 18446744073709551616) (w : World) :
    Calls Try.prog 93 #[.int .u64 v, .int .i64 2] w fun e w' => e = .returned (.string (strOfNums (layN v 2))) ∧ Below w.heap.size w w' := lay_any v 2 hv (by simp) w
set_option maxHeartbeats 400000 in
theorem put_ok2 (b : ByteArray) (v : Nat) (hb : b.size ≤ 1000000000000000) (hv : v < 18446744073709551616) (hl : v < 65536) (w : World) :
    Calls Try.prog 90 #[.string b, .int .u64 v, .int .i64 2] w fun e w' => e = .returned (.tuple #[.string (b ++ strOfNums (layN v 2)), .int .i64 0]) ∧ Below w.heap.size w w' := by
  have hq : ¬ 9223372036854775807 < b.size + (strOfNums (layN v 2)).size := by rw [strOfNums_size, layN_length]; omega
  go_enter Try.func90, Try.ntmps90
  go_wp2_with (first
      | (go_at_call 92; refine (isSize_yes _ (by simp) _).mono ?_; rintro e w' ⟨rfl, rfl⟩)
      | (go_at_call 93; refine (lay_lit2 v hv _).mono ?_; rintro e w1 ⟨rfl, hb1⟩))
  go_ret2
  exact ⟨rfl, hb1⟩
theorem lay_lit4 (v : Nat) (hv : v < 18446744073709551616) (w : World) :
    Calls Try.prog 93 #[.int .u64 v, .int .i64 4] w fun e w' => e = .returned (.string (strOfNums (layN v 4))) ∧ Below w.heap.size w w' := lay_any v 4 hv (by simp) w
set_option maxHeartbeats 400000 in
theorem put_ok4 (b : ByteArray) (v : Nat) (hb : b.size ≤ 1000000000000000) (hv : v < 18446744073709551616) (hl : v < 4294967296) (w : World) :
    Calls Try.prog 90 #[.string b, .int .u64 v, .int .i64 4] w fun e w' => e = .returned (.tuple #[.string (b ++ strOfNums (layN v 4)), .int .i64 0]) ∧ Below w.heap.size w w' := by
  have hq : ¬ 9223372036854775807 < b.size + (strOfNums (layN v 4)).size := by rw [strOfNums_size, layN_length]; omega
  go_enter Try.func90, Try.ntmps90
  go_wp2_with (first
      | (go_at_call 92; refine (isSize_yes _ (by simp) _).mono ?_; rintro e w' ⟨rfl, rfl⟩)
      | (go_at_call 93; refine (lay_lit4 v hv _).mono ?_; rintro e w1 ⟨rfl, hb1⟩))
  go_ret2
  exact ⟨rfl, hb1⟩
theorem lay_lit8 (v : Nat) (hv : v < 18446744073709551616) (w : World) :
    Calls Try.prog 93 #[.int .u64 v, .int .i64 8] w fun e w' => e = .returned (.string (strOfNums (layN v 8))) ∧ Below w.heap.size w w' := lay_any v 8 hv (by simp) w
set_option maxHeartbeats 400000 in
theorem put_ok8 (b : ByteArray) (v : Nat) (hb : b.size ≤ 1000000000000000) (hv : v < 18446744073709551616) (w : World) :
    Calls Try.prog 90 #[.string b, .int .u64 v, .int .i64 8] w fun e w' => e = .returned (.tuple #[.string (b ++ strOfNums (layN v 8)), .int .i64 0]) ∧ Below w.heap.size w w' := by
  have hq : ¬ 9223372036854775807 < b.size + (strOfNums (layN v 8)).size := by rw [strOfNums_size, layN_length]; omega
  go_enter Try.func90, Try.ntmps90
  go_wp2_with (first
      | (go_at_call 92; refine (isSize_yes _ (by simp) _).mono ?_; rintro e w' ⟨rfl, rfl⟩)
      | (go_at_call 93; refine (lay_lit8 v hv _).mono ?_; rintro e w1 ⟨rfl, hb1⟩))
  go_ret2
  exact ⟨rfl, hb1⟩
theorem put_ok (b : ByteArray) (v n : Nat) (hb : b.size ≤ 1000000000000000) (hv : v < 18446744073709551616) (hn : n = 1 ∨ n = 2 ∨ n = 4 ∨ n = 8) (hl : v < 2 ^ (8 * n)) (w : World) :
    Calls Try.prog 90 #[.string b, .int .u64 v, .int .i64 n] w fun e w' => e = .returned (.tuple #[.string (b ++ strOfNums (layN v n)), .int .i64 0]) ∧ Below w.heap.size w w' := by
  rcases hn with rfl | rfl | rfl | rfl
  · exact put_ok1 b v hb hv hl w
  · exact put_ok2 b v hb hv hl w
  · exact put_ok4 b v hb hv hl w
  · exact put_ok8 b v hb hv w

/-- The number in k bytes of b from a on. -/
def tk (b : ByteArray) (a : Nat) : Nat → Nat
  | 0 => 0
  | k + 1 => tk b a k * 256 + (b.data.toList.getD (a + k) 0).toNat
theorem tk_lt (b : ByteArray) (a k : Nat) : tk b a k < 256 ^ k := by
  induction k with
  | zero => show 0 < 1; decide
  | succ k ih =>
    have := (b.data.toList.getD (a + k) 0).toNat_lt
    simp only [tk]
    rw [Nat.pow_succ]
    omega
theorem byteAt (b : ByteArray) (i : Nat) (h : i < b.size) : b.data.toList.getD i 0 = b[i] := by
  rw [List.getD_eq_getElem?_getD, List.getElem?_eq_getElem (by simpa using h)]
  rfl
theorem or_byte (V c : Nat) (hV : V < 72057594037927936) (hc : c < 256) : bits .or .u64 ((V : Int) * 256) (c : Int) = ((V * 256 + c : Nat) : Int) := by
  rw [show (V : Int) * 256 = ((V * 256 : Nat) : Int) from by simp, u64_or_nat _ _ (by omega) (by omega), nat_join 8 _ _ (by omega) (by omega)]
end Go.Proofs.Yteaaoipipjkgnaa.Wi
