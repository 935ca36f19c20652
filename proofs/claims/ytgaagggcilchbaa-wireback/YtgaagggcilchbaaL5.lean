/- The law WireBack, walked. -/
import Derived.Test.YtgaagggcilchbaaK17
namespace Go.Proofs.Ytgaagggcilchbaa
open Go.RowKit

theorem unhex_hex (b : ByteArray) (hb : b.size ≤ 140737488351232) (w : World) :
    Calls Try.prog 5 #[.string (strOfNums (hexL b.data.toList))] w fun e w' => e = .returned (.tuple #[.string b, .int .i64 0]) ∧ Below w.heap.size w w' := by
  refine (unhex_even (strOfNums (hexL b.data.toList)) b.size (by rw [strOfNums_size, hexL_len]; simp) (by omega) w).mono ?_
  rintro e w' ⟨rfl, h⟩
  refine ⟨?_, h⟩
  rw [strOfNums_data, unh_hex]
  show Ending.returned (.tuple #[.string (strOfNums _), .int .i64 0]) = _
  rw [bytes_back]
theorem takeVar_back (b : ByteArray) (hb : b.size ≤ 140737488351232) (v : Nat) (hv : v < 18446744073709551616) (w : World) :
    Calls Try.prog 13 #[.string (b ++ strOfNums (pvL v) ++ ⟨#[255]⟩), .int .i64 (b.size : Int)] w fun e w' => e = .returned (.tuple #[.int .u64 (v : Nat), .int .i64 ((b.size : Int) + ((pvL v).length : Int)), .int .i64 0]) ∧ w' = w := by
  have h10 : (pvL v).length ≤ 10 := pvL_len 9 v (by omega)
  have h1 : (⟨#[255]⟩ : ByteArray).size = 1 := rfl
  have hsz : (b ++ strOfNums (pvL v) ++ ⟨#[255]⟩).size = b.size + (pvL v).length + 1 := by rw [app_size, app_size, strOfNums_size, h1]
  have hd := drop_app b v ⟨#[255]⟩
  generalize b ++ strOfNums (pvL v) ++ ⟨#[255]⟩ = T at hsz hd
  have hc := takeVar_any T (by omega) b.size (by omega) w
  rw [hd, tvF_back v hv] at hc
  exact hc
theorem chain7 {w0 w1 w2 w3 w4 w5 w6 w7 : World} (b1 : Below w0.heap.size w0 w1) (b2 : Below w1.heap.size w1 w2) (b3 : Below w2.heap.size w2 w3) (b4 : Below w3.heap.size w3 w4) (b5 : Below w4.heap.size w4 w5) (b6 : Below w5.heap.size w5 w6) (b7 : Below w6.heap.size w6 w7) :
    Below w0.heap.size w0 w7 := by
  have c2 := b1.trans (b2.mono b1.size)
  have c3 := c2.trans (b3.mono c2.size)
  have c4 := c3.trans (b4.mono c3.size)
  have c5 := c4.trans (b5.mono c4.size)
  have c6 := c5.trans (b6.mono c5.size)
  exact c6.trans (b7.mono c6.size)
set_option maxRecDepth 100000 in
set_option maxHeartbeats 2000000 in
theorem back_1 (b : ByteArray) (hb : b.size ≤ 140737488351232) (v : Nat) (hv : v < 18446744073709551616) (k : Int) (hr : (k.tmod 4 + 4) % 4 = 0) (w : World) :
    Calls Try.prog 4 #[.string b, .int .u64 v, .int .i64 k] w fun e w' => e = .returned (.bool true) ∧ Below w.heap.size w w' := by
  have t1 := Int.tmod_lt_of_pos k (show (0 : Int) < 4 by decide)
  have t2 := Int.lt_tmod_of_pos k (show (0 : Int) < 4 by decide)
  obtain ⟨u, hu, hul⟩ : ∃ u : Nat, (v : Int) % 256 = (u : Int) ∧ u < 256 := ⟨v % 256, by simp, by omega⟩
  have hp : (b ++ strOfNums (layN u 1)).size = b.size + 1 := by rw [app_size, strOfNums_size, layN_length]
  have hps : (b ++ strOfNums (layN u 1)).size ≤ maxLen := by rw [hp]; unfold maxLen; omega
  have HK := take_ok (b ++ strOfNums (layN u 1)) b.size 1 hps (by decide) (by omega)
  rw [tk_back b u 1 (by decide) (by omega)] at HK
  replace HK := hidIn HK
  have h10 : (pvL v).length ≤ 10 := pvL_len 9 v (by omega)
  have hpv : (b ++ strOfNums (pvL v)).size = b.size + (pvL v).length := by rw [app_size, strOfNums_size]
  have hmin : min ((b.size : Int) + ((pvL v).length : Int)) (b.size : Int) = (b.size : Int) := by omega
  have c1 := str_eq (ahead_app b (strOfNums (layN u 1)))
  have c2 := str_eq (ahead_app b (strOfNums (pvL v)))
  have c3 := str_eq (rfl : b = b)
  have hq : ¬ 9223372036854775807 < (b ++ strOfNums (pvL v)).size + (⟨#[255]⟩ : ByteArray).size := by rw [hpv]; show ¬ _ < _ + 1; omega
  clear hps
  go_enter Try.func4, Try.ntmps4
  go_wp2_with (first
    | (go_at_call 9; refine (works_any _).mono ?_; rintro e w1 ⟨rfl, b1⟩)
    | (go_at_call 10; refine (put_ok1 b u (by omega) (by omega) hul _).mono ?_; rintro e w2 ⟨rfl, b2⟩)
    | (go_at_call 11; refine (HK.out _).mono ?_; rintro e w3 ⟨rfl, rfl⟩)
    | (go_at_call 12; refine (putVar_any b v (by omega) hv _).mono ?_; rintro e w4 ⟨rfl, b4⟩)
    | (go_at_call 13; refine (takeVar_back b hb v hv _).mono ?_; rintro e w5 ⟨rfl, rfl⟩)
    | (go_at_call 15; refine (seal_any b (by omega) _).mono ?_; rintro e w6 ⟨rfl, b6⟩)
    | (go_at_call 14; refine (open_ok b (by omega) _).mono ?_; rintro e w7 ⟨rfl, b7⟩)
    | (go_at_call 7; refine (hex_any b (by omega) _).mono ?_; rintro e w8 ⟨rfl, b8⟩)
    | (go_at_call 5; refine (unhex_hex b hb _).mono ?_; rintro e w9 ⟨rfl, b9⟩))
  go_ret
  exact ⟨rfl, chain7 b1 b2 b4 b6 b7 b8 b9⟩
set_option maxRecDepth 100000 in
set_option maxHeartbeats 2000000 in
theorem back_2 (b : ByteArray) (hb : b.size ≤ 140737488351232) (v : Nat) (hv : v < 18446744073709551616) (k : Int) (hr : (k.tmod 4 + 4) % 4 = 1) (w : World) :
    Calls Try.prog 4 #[.string b, .int .u64 v, .int .i64 k] w fun e w' => e = .returned (.bool true) ∧ Below w.heap.size w w' := by
  have t1 := Int.tmod_lt_of_pos k (show (0 : Int) < 4 by decide)
  have t2 := Int.lt_tmod_of_pos k (show (0 : Int) < 4 by decide)
  obtain ⟨u, hu, hul⟩ : ∃ u : Nat, (v : Int) % 65536 = (u : Int) ∧ u < 65536 := ⟨v % 65536, by simp, by omega⟩
  have hp : (b ++ strOfNums (layN u 2)).size = b.size + 2 := by rw [app_size, strOfNums_size, layN_length]
  have hps : (b ++ strOfNums (layN u 2)).size ≤ maxLen := by rw [hp]; unfold maxLen; omega
  have HK := take_ok (b ++ strOfNums (layN u 2)) b.size 2 hps (by decide) (by omega)
  rw [tk_back b u 2 (by decide) (by omega)] at HK
  replace HK := hidIn HK
  have h10 : (pvL v).length ≤ 10 := pvL_len 9 v (by omega)
  have hpv : (b ++ strOfNums (pvL v)).size = b.size + (pvL v).length := by rw [app_size, strOfNums_size]
  have hmin : min ((b.size : Int) + ((pvL v).length : Int)) (b.size : Int) = (b.size : Int) := by omega
  have c1 := str_eq (ahead_app b (strOfNums (layN u 2)))
  have c2 := str_eq (ahead_app b (strOfNums (pvL v)))
  have c3 := str_eq (rfl : b = b)
  have hq : ¬ 9223372036854775807 < (b ++ strOfNums (pvL v)).size + (⟨#[255]⟩ : ByteArray).size := by rw [hpv]; show ¬ _ < _ + 1; omega
  clear hps
  go_enter Try.func4, Try.ntmps4
  go_wp2_with (first
    | (go_at_call 9; refine (works_any _).mono ?_; rintro e w1 ⟨rfl, b1⟩)
    | (go_at_call 10; refine (put_ok2 b u (by omega) (by omega) hul _).mono ?_; rintro e w2 ⟨rfl, b2⟩)
    | (go_at_call 11; refine (HK.out _).mono ?_; rintro e w3 ⟨rfl, rfl⟩)
    | (go_at_call 12; refine (putVar_any b v (by omega) hv _).mono ?_; rintro e w4 ⟨rfl, b4⟩)
    | (go_at_call 13; refine (takeVar_back b hb v hv _).mono ?_; rintro e w5 ⟨rfl, rfl⟩)
    | (go_at_call 15; refine (seal_any b (by omega) _).mono ?_; rintro e w6 ⟨rfl, b6⟩)
    | (go_at_call 14; refine (open_ok b (by omega) _).mono ?_; rintro e w7 ⟨rfl, b7⟩)
    | (go_at_call 7; refine (hex_any b (by omega) _).mono ?_; rintro e w8 ⟨rfl, b8⟩)
    | (go_at_call 5; refine (unhex_hex b hb _).mono ?_; rintro e w9 ⟨rfl, b9⟩))
  go_ret
  exact ⟨rfl, chain7 b1 b2 b4 b6 b7 b8 b9⟩
set_option maxRecDepth 100000 in
set_option maxHeartbeats 2000000 in
theorem back_4 (b : ByteArray) (hb : b.size ≤ 140737488351232) (v : Nat) (hv : v < 18446744073709551616) (k : Int) (hr : (k.tmod 4 + 4) % 4 = 2) (w : World) :
    Calls Try.prog 4 #[.string b, .int .u64 v, .int .i64 k] w fun e w' => e = .returned (.bool true) ∧ Below w.heap.size w w' := by
  have t1 := Int.tmod_lt_of_pos k (show (0 : Int) < 4 by decide)
  have t2 := Int.lt_tmod_of_pos k (show (0 : Int) < 4 by decide)
  obtain ⟨u, hu, hul⟩ : ∃ u : Nat, (v : Int) % 4294967296 = (u : Int) ∧ u < 4294967296 := ⟨v % 4294967296, by simp, by omega⟩
  have hp : (b ++ strOfNums (layN u 4)).size = b.size + 4 := by rw [app_size, strOfNums_size, layN_length]
  have hps : (b ++ strOfNums (layN u 4)).size ≤ maxLen := by rw [hp]; unfold maxLen; omega
  have HK := take_ok (b ++ strOfNums (layN u 4)) b.size 4 hps (by decide) (by omega)
  rw [tk_back b u 4 (by decide) (by omega)] at HK
  replace HK := hidIn HK
  have h10 : (pvL v).length ≤ 10 := pvL_len 9 v (by omega)
  have hpv : (b ++ strOfNums (pvL v)).size = b.size + (pvL v).length := by rw [app_size, strOfNums_size]
  have hmin : min ((b.size : Int) + ((pvL v).length : Int)) (b.size : Int) = (b.size : Int) := by omega
  have c1 := str_eq (ahead_app b (strOfNums (layN u 4)))
  have c2 := str_eq (ahead_app b (strOfNums (pvL v)))
  have c3 := str_eq (rfl : b = b)
  have hq : ¬ 9223372036854775807 < (b ++ strOfNums (pvL v)).size + (⟨#[255]⟩ : ByteArray).size := by rw [hpv]; show ¬ _ < _ + 1; omega
  clear hps
  go_enter Try.func4, Try.ntmps4
  go_wp2_with (first
    | (go_at_call 9; refine (works_any _).mono ?_; rintro e w1 ⟨rfl, b1⟩)
    | (go_at_call 10; refine (put_ok4 b u (by omega) (by omega) hul _).mono ?_; rintro e w2 ⟨rfl, b2⟩)
    | (go_at_call 11; refine (HK.out _).mono ?_; rintro e w3 ⟨rfl, rfl⟩)
    | (go_at_call 12; refine (putVar_any b v (by omega) hv _).mono ?_; rintro e w4 ⟨rfl, b4⟩)
    | (go_at_call 13; refine (takeVar_back b hb v hv _).mono ?_; rintro e w5 ⟨rfl, rfl⟩)
    | (go_at_call 15; refine (seal_any b (by omega) _).mono ?_; rintro e w6 ⟨rfl, b6⟩)
    | (go_at_call 14; refine (open_ok b (by omega) _).mono ?_; rintro e w7 ⟨rfl, b7⟩)
    | (go_at_call 7; refine (hex_any b (by omega) _).mono ?_; rintro e w8 ⟨rfl, b8⟩)
    | (go_at_call 5; refine (unhex_hex b hb _).mono ?_; rintro e w9 ⟨rfl, b9⟩))
  go_ret
  exact ⟨rfl, chain7 b1 b2 b4 b6 b7 b8 b9⟩
set_option maxRecDepth 100000 in
set_option maxHeartbeats 2000000 in
theorem back_8 (b : ByteArray) (hb : b.size ≤ 140737488351232) (v : Nat) (hv : v < 18446744073709551616) (k : Int) (hr : (k.tmod 4 + 4) % 4 = 3) (w : World) :
    Calls Try.prog 4 #[.string b, .int .u64 v, .int .i64 k] w fun e w' => e = .returned (.bool true) ∧ Below w.heap.size w w' := by
  have t1 := Int.tmod_lt_of_pos k (show (0 : Int) < 4 by decide)
  have t2 := Int.lt_tmod_of_pos k (show (0 : Int) < 4 by decide)
  have hp : (b ++ strOfNums (layN v 8)).size = b.size + 8 := by rw [app_size, strOfNums_size, layN_length]
  have hps : (b ++ strOfNums (layN v 8)).size ≤ maxLen := by rw [hp]; unfold maxLen; omega
  have HK := take_ok (b ++ strOfNums (layN v 8)) b.size 8 hps (by decide) (by omega)
  rw [tk_back b v 8 (by decide) (by omega)] at HK
  replace HK := hidIn HK
  have h10 : (pvL v).length ≤ 10 := pvL_len 9 v (by omega)
  have hpv : (b ++ strOfNums (pvL v)).size = b.size + (pvL v).length := by rw [app_size, strOfNums_size]
  have hmin : min ((b.size : Int) + ((pvL v).length : Int)) (b.size : Int) = (b.size : Int) := by omega
  have c1 := str_eq (ahead_app b (strOfNums (layN v 8)))
  have c2 := str_eq (ahead_app b (strOfNums (pvL v)))
  have c3 := str_eq (rfl : b = b)
  have hq : ¬ 9223372036854775807 < (b ++ strOfNums (pvL v)).size + (⟨#[255]⟩ : ByteArray).size := by rw [hpv]; show ¬ _ < _ + 1; omega
  clear hps
  go_enter Try.func4, Try.ntmps4
  go_wp2_with (first
    | (go_at_call 9; refine (works_any _).mono ?_; rintro e w1 ⟨rfl, b1⟩)
    | (go_at_call 10; refine (put_ok8 b v (by omega) (by omega) _).mono ?_; rintro e w2 ⟨rfl, b2⟩)
    | (go_at_call 11; refine (HK.out _).mono ?_; rintro e w3 ⟨rfl, rfl⟩)
    | (go_at_call 12; refine (putVar_any b v (by omega) hv _).mono ?_; rintro e w4 ⟨rfl, b4⟩)
    | (go_at_call 13; refine (takeVar_back b hb v hv _).mono ?_; rintro e w5 ⟨rfl, rfl⟩)
    | (go_at_call 15; refine (seal_any b (by omega) _).mono ?_; rintro e w6 ⟨rfl, b6⟩)
    | (go_at_call 14; refine (open_ok b (by omega) _).mono ?_; rintro e w7 ⟨rfl, b7⟩)
    | (go_at_call 7; refine (hex_any b (by omega) _).mono ?_; rintro e w8 ⟨rfl, b8⟩)
    | (go_at_call 5; refine (unhex_hex b hb _).mono ?_; rintro e w9 ⟨rfl, b9⟩))
  go_ret
  exact ⟨rfl, chain7 b1 b2 b4 b6 b7 b8 b9⟩
theorem back_law (b : ByteArray) (hb : b.size ≤ 140737488351232) (v : Int) (wv : (Lit.int .u64 v).wf = true) (k : Int) (w : World) :
    Calls Try.prog 4 #[.string b, .int .u64 v, .int .i64 k] w fun e w' => e = .returned (.bool true) ∧ Below w.heap.size w w' := by
  have h : 0 ≤ v ∧ v ≤ 18446744073709551615 := by simpa [Lit.wf, IntKind.min, IntKind.max, IntKind.signed, IntKind.bits] using wv
  obtain ⟨n, rfl⟩ : ∃ n : Nat, v = n := ⟨v.toNat, by omega⟩
  have hr : (k.tmod 4 + 4) % 4 = 0 ∨ (k.tmod 4 + 4) % 4 = 1 ∨ (k.tmod 4 + 4) % 4 = 2 ∨ (k.tmod 4 + 4) % 4 = 3 := by omega
  rcases hr with hr | hr | hr | hr
  · exact back_1 b hb n (by omega) k hr w
  · exact back_2 b hb n (by omega) k hr w
  · exact back_4 b hb n (by omega) k hr w
  · exact back_8 b hb n (by omega) k hr w
end Go.Proofs.Ytgaagggcilchbaa
