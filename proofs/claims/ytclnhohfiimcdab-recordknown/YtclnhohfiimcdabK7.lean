/- wire.Put, wire.Take, wire.PutVar. -/
import Derived.Test.YtclnhohfiimcdabK6
import Derived.Test.YtclnhohfiimcdabK4
namespace Go.Proofs.Ytclnhohfiimcdab.Wi
open Go.RowKit

set_option maxHeartbeats 400000 in
theorem put_arg (b : ByteArray) (v : Nat) (n : Int) (h1 : n ≠ 1) (h2 : n ≠ 2) (h4 : n ≠ 4) (h8 : n ≠ 8) (w : World) :
    Calls Try.prog 29 #[.string b, .int .u64 v, .int .i64 n] w fun e w' => e = .returned (.tuple #[.string ⟨#[]⟩, .int .i64 2]) ∧ w' = w := by
  go_enter Try.func29, Try.ntmps29
  go_wp2_with (go_at_call 31; refine (isSize_no _ h1 h2 h4 h8 _).mono ?_; rintro e w' ⟨rfl, rfl⟩)
  go_ret2
  exact ⟨rfl, rfl⟩
set_option maxHeartbeats 400000 in
theorem put_long (b : ByteArray) (v n : Nat) (hv : v < 18446744073709551616) (hn : n = 1 ∨ n = 2 ∨ n = 4) (hl : 2 ^ (8 * n) ≤ v) (w : World) :
    Calls Try.prog 29 #[.string b, .int .u64 v, .int .i64 n] w fun e w' => e = .returned (.tuple #[.string ⟨#[]⟩, .int .i64 3]) ∧ w' = w := by
  have hz : ((v : Int) / 2 ^ (n * 8) != 0) = true := by
    simp only [bne_iff_ne, ne_eq]
    rcases hn with rfl | rfl | rfl <;> omega
  rcases hn with rfl | rfl | rfl
  all_goals
    simp at hz hl
    go_enter Try.func29, Try.ntmps29
    go_wp2_with (go_at_call 31; refine (isSize_yes _ (by simp) _).mono ?_; rintro e w' ⟨rfl, rfl⟩)
    go_ret2
    exact ⟨rfl, rfl⟩
theorem layN_length (v n : Nat) : (layN v n).length = n := by unfold layN; simp
theorem lay_lit1 (v : Nat) (hv : v < 18446744073709551616) (w : World) :
    Calls Try.prog 32 #[.int .u64 v, .int .i64 1] w fun e w' => e = .returned (.string (strOfNums (layN v 1))) ∧ Below w.heap.size w w' := lay_any v 1 hv (by simp) w
set_option maxHeartbeats 400000 in
theorem put_ok1 (b : ByteArray) (v : Nat) (hb : b.size ≤ 1000000000000000) (hv : v < 18446744073709551616) (hl : v < 256) (w : World) :
    Calls Try.prog 29 #[.string b, .int .u64 v, .int .i64 1] w fun e w' => e = .returned (.tuple #[.string (b ++ strOfNums (layN v 1)), .int .i64 0]) ∧ Below w.heap.size w w' := by
  have hq : ¬ 9223372036854775807 < b.size + (strOfNums (layN v 1)).size := by rw [strOfNums_size, layN_length]; omega
  go_enter Try.func29, Try.ntmps29
  go_wp2_with (first
      | (go_at_call 31; refine (isSize_yes _ (by simp) _).mono ?_; rintro e w' ⟨rfl, rfl⟩)
      | (go_at_call 32; refine (lay_lit1 v hv _).mono ?_; rintro e w1 ⟨rfl, hb1⟩))
  go_ret2
  exact ⟨rfl, hb1⟩
theorem lay_lit2 (v : Nat) (hv : v < 18446744073709551616) (w : World) :
    Calls Try.prog 32 #[.int .u64 v, .int .i64 2] w fun e w' => e = .returned (.string (strOfNums (layN v 2))) ∧ Below w.heap.size w w' := lay_any v 2 hv (by simp) w
set_option maxHeartbeats 400000 in
theorem put_ok2 (b : ByteArray) (v : Nat) (hb : b.size ≤ 1000000000000000) (hv : v < 18446744073709551616) (hl : v < 65536) (w : World) :
    Calls Try.prog 29 #[.string b, .int .u64 v, .int .i64 2] w fun e w' => e = .returned (.tuple #[.string (b ++ strOfNums (layN v 2)), .int .i64 0]) ∧ Below w.heap.size w w' := by
  have hq : ¬ 9223372036854775807 < b.size + (strOfNums (layN v 2)).size := by rw [strOfNums_size, layN_length]; omega
  go_enter Try.func29, Try.ntmps29
  go_wp2_with (first
      | (go_at_call 31; refine (isSize_yes _ (by simp) _).mono ?_; rintro e w' ⟨rfl, rfl⟩)
      | (go_at_call 32; refine (lay_lit2 v hv _).mono ?_; rintro e w1 ⟨rfl, hb1⟩))
  go_ret2
  exact ⟨rfl, hb1⟩
theorem lay_lit4 (v : Nat) (hv : v < 18446744073709551616) (w : World) :
    Calls Try.prog 32 #[.int .u64 v, .int .i64 4] w fun e w' => e = .returned (.string (strOfNums (layN v 4))) ∧ Below w.heap.size w w' := lay_any v 4 hv (by simp) w
set_option maxHeartbeats 400000 in
theorem put_ok4 (b : ByteArray) (v : Nat) (hb : b.size ≤ 1000000000000000) (hv : v < 18446744073709551616) (hl : v < 4294967296) (w : World) :
    Calls Try.prog 29 #[.string b, .int .u64 v, .int .i64 4] w fun e w' => e = .returned (.tuple #[.string (b ++ strOfNums (layN v 4)), .int .i64 0]) ∧ Below w.heap.size w w' := by
  have hq : ¬ 9223372036854775807 < b.size + (strOfNums (layN v 4)).size := by rw [strOfNums_size, layN_length]; omega
  go_enter Try.func29, Try.ntmps29
  go_wp2_with (first
      | (go_at_call 31; refine (isSize_yes _ (by simp) _).mono ?_; rintro e w' ⟨rfl, rfl⟩)
      | (go_at_call 32; refine (lay_lit4 v hv _).mono ?_; rintro e w1 ⟨rfl, hb1⟩))
  go_ret2
  exact ⟨rfl, hb1⟩
theorem lay_lit8 (v : Nat) (hv : v < 18446744073709551616) (w : World) :
    Calls Try.prog 32 #[.int .u64 v, .int .i64 8] w fun e w' => e = .returned (.string (strOfNums (layN v 8))) ∧ Below w.heap.size w w' := lay_any v 8 hv (by simp) w
set_option maxHeartbeats 400000 in
theorem put_ok8 (b : ByteArray) (v : Nat) (hb : b.size ≤ 1000000000000000) (hv : v < 18446744073709551616) (w : World) :
    Calls Try.prog 29 #[.string b, .int .u64 v, .int .i64 8] w fun e w' => e = .returned (.tuple #[.string (b ++ strOfNums (layN v 8)), .int .i64 0]) ∧ Below w.heap.size w w' := by
  have hq : ¬ 9223372036854775807 < b.size + (strOfNums (layN v 8)).size := by rw [strOfNums_size, layN_length]; omega
  go_enter Try.func29, Try.ntmps29
  go_wp2_with (first
      | (go_at_call 31; refine (isSize_yes _ (by simp) _).mono ?_; rintro e w' ⟨rfl, rfl⟩)
      | (go_at_call 32; refine (lay_lit8 v hv _).mono ?_; rintro e w1 ⟨rfl, hb1⟩))
  go_ret2
  exact ⟨rfl, hb1⟩
theorem put_ok (b : ByteArray) (v n : Nat) (hb : b.size ≤ 1000000000000000) (hv : v < 18446744073709551616) (hn : n = 1 ∨ n = 2 ∨ n = 4 ∨ n = 8) (hl : v < 2 ^ (8 * n)) (w : World) :
    Calls Try.prog 29 #[.string b, .int .u64 v, .int .i64 n] w fun e w' => e = .returned (.tuple #[.string (b ++ strOfNums (layN v n)), .int .i64 0]) ∧ Below w.heap.size w w' := by
  rcases hn with rfl | rfl | rfl | rfl
  · exact put_ok1 b v hb hv hl w
  · exact put_ok2 b v hb hv hl w
  · exact put_ok4 b v hb hv hl w
  · exact put_ok8 b v hb hv w

/-- The number in k bytes of b from a on. -/
def tk (b : ByteArray) (a : Nat) : Nat → Nat
  | 0 => 0
  | k + 1 => tk b a k * 256 + (b.data.toList.getD (a + k) 0).toNat
theorem tk_lt (b : ByteArray) (a k : Nat) : tk b a k < 256 ^ k := by
  induction k with
  | zero => show 0 < 1; decide
  | succ k ih =>
    have := (b.data.toList.getD (a + k) 0).toNat_lt
    simp only [tk]
    rw [Nat.pow_succ]
    omega
theorem byteAt (b : ByteArray) (i : Nat) (h : i < b.size) : b.data.toList.getD i 0 = b[i] := by
  rw [List.getD_eq_getElem?_getD, List.getElem?_eq_getElem (by simpa using h)]
  rfl
theorem or_byte (V c : Nat) (hV : V < 72057594037927936) (hc : c < 256) : bits .or .u64 ((V : Int) * 256) (c : Int) = ((V * 256 + c : Nat) : Int) := by
  rw [show (V : Int) * 256 = ((V * 256 : Nat) : Int) from by simp, u64_or_nat _ _ (by omega) (by omega), nat_join 8 _ _ (by omega) (by omega)]
set_option maxHeartbeats 400000 in
theorem take_arg (b : ByteArray) (a n : Int) (h1 : n ≠ 1) (h2 : n ≠ 2) (h4 : n ≠ 4) (h8 : n ≠ 8) (w : World) :
    Calls Try.prog 24 #[.string b, .int .i64 a, .int .i64 n] w fun e w' => e = .returned (.tuple #[.int .u64 0, .int .i64 2]) ∧ w' = w := by
  go_enter Try.func24, Try.ntmps24
  go_wp2_with (go_at_call 31; refine (isSize_no _ h1 h2 h4 h8 _).mono ?_; rintro e w' ⟨rfl, rfl⟩)
  go_ret2
  exact ⟨rfl, rfl⟩
set_option maxHeartbeats 400000 in
theorem take_form (b : ByteArray) (a n : Int) (hb : b.size ≤ maxLen) (hn : n = 1 ∨ n = 2 ∨ n = 4 ∨ n = 8) (h : a < 0 ∨ (b.size : Int) - n < a) (w : World) :
    Calls Try.prog 24 #[.string b, .int .i64 a, .int .i64 n] w fun e w' => e = .returned (.tuple #[.int .u64 0, .int .i64 4]) ∧ w' = w := by
  unfold maxLen at hb
  have h0 : 1 ≤ n ∧ n ≤ 8 := by omega
  by_cases ha : a < 0
  · have ha' : decide (a < 0) = true := by simpa using ha
    clear h
    go_enter Try.func24, Try.ntmps24
    go_wp2_with (go_at_call 31; refine (isSize_yes _ hn _).mono ?_; rintro e w' ⟨rfl, rfl⟩)
    go_ret2
    exact ⟨rfl, rfl⟩
  · have h' : (b.size : Int) - n < a := by omega
    have ha' : decide (a < 0) = false := by simpa using ha
    have h'' : decide ((b.size : Int) - n < a) = true := by simpa using h'
    clear h ha
    go_enter Try.func24, Try.ntmps24
    go_wp2_with (go_at_call 31; refine (isSize_yes _ hn _).mono ?_; rintro e w' ⟨rfl, rfl⟩)
    go_ret2
    exact ⟨rfl, rfl⟩
set_option maxHeartbeats 1000000 in
theorem take_ok (b : ByteArray) (a n : Nat) (hb : b.size ≤ maxLen) (hn : n = 1 ∨ n = 2 ∨ n = 4 ∨ n = 8) (h : a + n ≤ b.size) (w : World) :
    Calls Try.prog 24 #[.string b, .int .i64 a, .int .i64 n] w fun e w' => e = .returned (.tuple #[.int .u64 (tk b a n : Nat), .int .i64 0]) ∧ w' = w := by
  unfold maxLen at hb
  have h0 : 1 ≤ n ∧ n ≤ 8 := by omega
  have hd : decide ((b.size : Int) - n < a) = false := by simp; omega
  have hn' : (n : Int) = 1 ∨ (n : Int) = 2 ∨ (n : Int) = 4 ∨ (n : Int) = 8 := by omega
  go_enter Try.func24, Try.ntmps24
  go_wp2_with (go_at_call 31; refine (isSize_yes _ hn' _).mono ?_; rintro e w' ⟨rfl, rfl⟩)
  go_loop [8, 24] (fun t i => ∃ k : Nat, k ≤ n ∧ i = .int .i64 k ∧ t = .int .u64 (tk b a k : Nat)) (fun _ i => n - (intOf i).toNat)
  case atStart => exact ⟨0, Nat.zero_le _, rfl, rfl⟩
  case round =>
    obtain ⟨k, hk, rfl, rfl⟩ := hrel
    by_cases hlt : k < n
    · have hV : tk b a k < 72057594037927936 := Nat.lt_of_lt_of_le (tk_lt b a k) (Nat.pow_le_pow_right (by decide) (show k ≤ 7 by omega))
      have HV := hidIn (show tk b a (k + 1) = tk b a k * 256 + b[a + k].toNat from by rw [← byteAt b (a + k) (by omega)]; rfl)
      have hc : b[a + k].toNat < 256 := by have := b[a + k].toNat_lt; omega
      obtain ⟨V, eV⟩ : ∃ V, V = tk b a k := ⟨_, rfl⟩
      rw [← eV] at hV HV ⊢
      clear eV
      have hor := or_byte V _ hV hc
      go_wp2
      go_round
      case rel => exact ⟨k + 1, by omega, by go_num, int_int (by rw [HV.out]; simp)⟩
      case measure => simp [intOf]; omega
    · obtain rfl : k = n := by omega
      go_wp2
      go_ret2
      exact ⟨rfl, rfl⟩
end Go.Proofs.Ytclnhohfiimcdab.Wi
