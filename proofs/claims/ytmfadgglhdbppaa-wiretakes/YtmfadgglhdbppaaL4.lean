/- The law WireTakes, walked. -/
import Derived.Test.YtmfadgglhdbppaaK9
import Derived.Test.YtmfadgglhdbppaaR5
import Derived.Test.YtmfadgglhdbppaaR6
namespace Go.Proofs.Ytmfadgglhdbppaa
open Go.RowKit

theorem take_both (b : ByteArray) (hb : b.size ≤ 1000000000000000) (a n : Int) (ha : a ≤ 9223372036854775807) :
    ∃ (v e : Int), (∀ w, Calls Try.prog 12 #[.string b, .int .i64 a, .int .i64 n] w fun r w' => r = .returned (.tuple #[.int .u64 v, .int .i64 e]) ∧ w' = w) ∧
      (∀ w, Calls Try.prog 13 #[.string b, .int .i64 a, .int .i64 n] w fun r w' => r = .returned (.tuple #[.int .u64 v, .int .i64 e]) ∧ w' = w) := by
  have hm : b.size ≤ maxLen := by unfold maxLen; omega
  by_cases hn : n = 1 ∨ n = 2 ∨ n = 4 ∨ n = 8
  · by_cases hf : a < 0 ∨ (b.size : Int) - n < a
    · exact ⟨0, 4, fun w => take_form b a n hm hn hf w, fun w => rtake_form b a n hm ha hn hf w⟩
    · obtain ⟨m, rfl⟩ : ∃ m : Nat, n = m := ⟨n.toNat, by omega⟩
      obtain ⟨c, rfl⟩ : ∃ c : Nat, a = c := ⟨a.toNat, by omega⟩
      exact ⟨_, 0, fun w => take_ok b c m hm (by omega) (by omega) w, fun w => rtake_ok b c m hm (by omega) (by omega) w⟩
  · exact ⟨0, 2, fun w => take_arg b a n (by omega) (by omega) (by omega) (by omega) w, fun w => rtake_arg b a n (by omega) (by omega) (by omega) (by omega) w⟩
theorem tvT_parts (a : Nat) (o : Option (Nat × Nat)) : ∃ v n e : Int, tvT a o = .tuple #[.int .u64 v, .int .i64 n, .int .i64 e] := by
  cases o with
  | none => exact ⟨_, _, _, rfl⟩
  | some x => exact ⟨_, _, _, rfl⟩
theorem takeVar_both (b : ByteArray) (hb : b.size ≤ 1000000000000000) (a : Int) (ha : a ≤ 9223372036854775807) :
    ∃ (v n e : Int), (∀ w, Calls Try.prog 14 #[.string b, .int .i64 a] w fun r w' => r = .returned (.tuple #[.int .u64 v, .int .i64 n, .int .i64 e]) ∧ w' = w) ∧
      (∀ w, Calls Try.prog 15 #[.string b, .int .i64 a] w fun r w' => r = .returned (.tuple #[.int .u64 v, .int .i64 n, .int .i64 e]) ∧ Below w.heap.size w w') := by
  by_cases h : a < 0
  · refine ⟨0, 0, 4, fun w => takeVar_neg b a h w, fun w => (rtakeVar_neg b a h w).mono ?_⟩
    rintro r w' ⟨rfl, rfl⟩
    exact ⟨rfl, Below.refl _ _⟩
  · obtain ⟨c, rfl⟩ : ∃ c : Nat, a = c := ⟨a.toNat, by omega⟩
    obtain ⟨v, n, e, h3⟩ := tvT_parts c (tvF [] (b.data.toList.drop c))
    refine ⟨v, n, e, fun w => ?_, fun w => ?_⟩
    · rw [← h3]; exact takeVar_any b hb c (by omega) w
    · rw [← h3]; exact rtakeVar_any b hb c (by omega) w
set_option maxHeartbeats 1000000 in
theorem takes_walk (b : ByteArray) (hb : b.size ≤ 140737488351232) (a : Int) (ha : a ≤ 9223372036854775807) (n : Int) (w : World) :
    Calls Try.prog 4 #[.string b, .int .i64 a, .int .i64 n] w fun e w' => e = .returned (.bool true) ∧ Below w.heap.size w w' := by
  obtain ⟨v, e, h1, h2⟩ := take_both b (by omega) a n ha
  obtain ⟨v', n', e', h3, h4⟩ := takeVar_both b (by omega) a ha
  have H1 := hidIn h1
  have H2 := hidIn h2
  have H3 := hidIn h3
  have H4 := hidIn h4
  clear h1 h2 h3 h4
  go_enter Try.func4, Try.ntmps4
  go_wp2_with (first
    | (go_at_call 12; refine (H1.out _).mono ?_; rintro r w1 ⟨rfl, rfl⟩)
    | (go_at_call 13; refine (H2.out _).mono ?_; rintro r w2 ⟨rfl, rfl⟩)
    | (go_at_call 14; refine (H3.out _).mono ?_; rintro r w3 ⟨rfl, rfl⟩)
    | (go_at_call 15; refine (H4.out _).mono ?_; rintro r w4 ⟨rfl, b4⟩)
    | (go_at_call 11; refine (works_any _).mono ?_; rintro r w5 ⟨rfl, b5⟩))
  go_ret
  exact ⟨rfl, b4.trans (b5.mono b4.size)⟩
theorem takes_law (b : ByteArray) (hb : b.size ≤ 140737488351232) (a : Int) (wa : (Lit.int .i64 a).wf = true) (n : Int) (w : World) :
    Calls Try.prog 4 #[.string b, .int .i64 a, .int .i64 n] w fun e w' => e = .returned (.bool true) ∧ Below w.heap.size w w' := by
  have ha : -9223372036854775808 ≤ a ∧ a ≤ 9223372036854775807 := by simpa [Lit.wf, IntKind.min, IntKind.max, IntKind.signed, IntKind.bits] using wa
  exact takes_walk b hb a ha.2 n w
end Go.Proofs.Ytmfadgglhdbppaa
