/- dandelionref02.Take. -/
import Derived.Test.YtclnhohfiimcdaaR3
namespace Go.Proofs.Ytclnhohfiimcdaa.Wi
open Go.RowKit

set_option maxHeartbeats 400000 in
theorem rtake_arg (b : ByteArray) (a n : Int) (h1 : n ≠ 1) (h2 : n ≠ 2) (h4 : n ≠ 4) (h8 : n ≠ 8) (w : World) :
    Calls Try.prog 50 #[.string b, .int .i64 a, .int .i64 n] w fun e w' => e = .returned (.tuple #[.int .u64 0, .int .i64 2]) ∧ w' = w := by
  go_enter Try.func50, Try.ntmps50
  go_wp2_with (go_at_call 54; refine (rsize_no _ h1 h2 h4 h8 _).mono ?_; rintro e w' ⟨rfl, rfl⟩)
  go_ret2
  exact ⟨rfl, rfl⟩
set_option maxHeartbeats 1000000 in
theorem rtake_form (b : ByteArray) (a n : Int) (hb : b.size ≤ maxLen) (_ : a ≤ 9223372036854775807) (hn : n = 1 ∨ n = 2 ∨ n = 4 ∨ n = 8) (h : a < 0 ∨ (b.size : Int) - n < a) (w : World) :
    Calls Try.prog 50 #[.string b, .int .i64 a, .int .i64 n] w fun e w' => e = .returned (.tuple #[.int .u64 0, .int .i64 4]) ∧ w' = w := by
  unfold maxLen at hb
  have h0 : 1 ≤ n ∧ n ≤ 8 := by omega
  by_cases h1 : a < 0
  · have ha' : decide (a < 0) = true := by simpa using h1
    clear h
    go_enter Try.func50, Try.ntmps50
    go_wp2_with (go_at_call 54; refine (rsize_yes _ hn _).mono ?_; rintro e w' ⟨rfl, rfl⟩)
    go_ret2
    exact ⟨rfl, rfl⟩
  · have ha' : decide (a < 0) = false := by simpa using h1
    have h1' : 0 ≤ a := by omega
    by_cases h2 : (b.size : Int) < a
    · have h2' : decide ((b.size : Int) < a) = true := by simpa using h2
      clear h h1
      go_enter Try.func50, Try.ntmps50
      go_wp2_with (go_at_call 54; refine (rsize_yes _ hn _).mono ?_; rintro e w' ⟨rfl, rfl⟩)
      go_ret2
      exact ⟨rfl, rfl⟩
    · have h2' : decide ((b.size : Int) < a) = false := by simpa using h2
      have h2'' : a ≤ (b.size : Int) := by omega
      have h3 : decide ((b.size : Int) - a < n) = true := by simp; omega
      clear h h1 h2
      go_enter Try.func50, Try.ntmps50
      go_wp2_with (go_at_call 54; refine (rsize_yes _ hn _).mono ?_; rintro e w' ⟨rfl, rfl⟩)
      go_ret2
      exact ⟨rfl, rfl⟩
set_option maxHeartbeats 1000000 in
theorem rtake_ok (b : ByteArray) (a n : Nat) (hb : b.size ≤ maxLen) (hn : n = 1 ∨ n = 2 ∨ n = 4 ∨ n = 8) (h : a + n ≤ b.size) (w : World) :
    Calls Try.prog 50 #[.string b, .int .i64 a, .int .i64 n] w fun e w' => e = .returned (.tuple #[.int .u64 (tk b a n : Nat), .int .i64 0]) ∧ w' = w := by
  unfold maxLen at hb
  have h0 : 1 ≤ n ∧ n ≤ 8 := by omega
  have hd : decide ((b.size : Int) - a < n) = false := by simp; omega
  have hd2 : decide ((b.size : Int) < a) = false := by simp; omega
  have hn' : (n : Int) = 1 ∨ (n : Int) = 2 ∨ (n : Int) = 4 ∨ (n : Int) = 8 := by omega
  go_enter Try.func50, Try.ntmps50
  go_wp2_with (go_at_call 54; refine (rsize_yes _ hn' _).mono ?_; rintro e w' ⟨rfl, rfl⟩)
  go_loop [8, 9] (fun t i => ∃ k : Nat, k ≤ n ∧ i = .int .i64 k ∧ t = .int .u64 (tk b a k : Nat)) (fun _ i => n - (intOf i).toNat)
  case atStart => exact ⟨0, Nat.zero_le _, rfl, rfl⟩
  case round =>
    obtain ⟨k, hk, rfl, rfl⟩ := hrel
    by_cases hlt : k < n
    · have hV : tk b a k < 72057594037927936 := Nat.lt_of_lt_of_le (tk_lt b a k) (Nat.pow_le_pow_right (by decide) (show k ≤ 7 by omega))
      have HV := hidIn (show tk b a (k + 1) = tk b a k * 256 + b[a + k].toNat from by rw [← byteAt b (a + k) (by omega)]; rfl)
      have hc : b[a + k].toNat < 256 := by have := b[a + k].toNat_lt; omega
      obtain ⟨V, eV⟩ : ∃ V, V = tk b a k := ⟨_, rfl⟩
      rw [← eV] at hV HV ⊢
      clear eV
      have hi : (a : Int) + (k : Int) < (b.size : Int) := by omega
      have hi0 : (0 : Int) ≤ (a : Int) + (k : Int) := by omega
      go_wp2
      refine ⟨⟨k + 1, by omega, by go_num, int_int (by rw [HV.out]; simp)⟩, by simp [intOf]; omega⟩
    · obtain rfl : k = n := by omega
      go_wp2
      go_ret2
      exact ⟨rfl, rfl⟩
end Go.Proofs.Ytclnhohfiimcdaa.Wi
