/- The laws WirePuts and WireVars, walked. -/
import Derived.Test.YtmfadgglhdbppaaK9
import Derived.Test.YtmfadgglhdbppaaR4
namespace Go.Proofs.Ytmfadgglhdbppaa
open Go.RowKit

theorem put_both (b : ByteArray) (hb : b.size ≤ 1000000000000000) (v : Nat) (hv : v < 18446744073709551616) (n : Int) :
    ∃ (s : ByteArray) (e : Int), (∀ w, Calls Try.prog 9 #[.string b, .int .u64 v, .int .i64 n] w fun r w' => r = .returned (.tuple #[.string s, .int .i64 e]) ∧ Below w.heap.size w w') ∧
      (∀ w, Calls Try.prog 10 #[.string b, .int .u64 v, .int .i64 n] w fun r w' => r = .returned (.tuple #[.string s, .int .i64 e]) ∧ Below w.heap.size w w') := by
  by_cases hn : n = 1 ∨ n = 2 ∨ n = 4 ∨ n = 8
  · obtain ⟨m, rfl⟩ : ∃ m : Nat, n = m := ⟨n.toNat, by omega⟩
    have hm : m = 1 ∨ m = 2 ∨ m = 4 ∨ m = 8 := by omega
    by_cases hl : v < 2 ^ (8 * m)
    · exact ⟨_, _, fun w => put_ok b v m hb hv hm hl w, fun w => rput_ok b v m hb hv hm hl w⟩
    · have hm' : m = 1 ∨ m = 2 ∨ m = 4 := by
        rcases hm with rfl | rfl | rfl | rfl
        · exact .inl rfl
        · exact .inr (.inl rfl)
        · exact .inr (.inr rfl)
        · exact absurd hv (by simpa using hl)
      refine ⟨⟨#[]⟩, 3, fun w => (put_long b v m hv hm' (by omega) w).mono ?_, fun w => (rput_long b v m hm' (by omega) w).mono ?_⟩
      all_goals
        rintro e w' ⟨rfl, rfl⟩
        exact ⟨rfl, Below.refl _ _⟩
  · refine ⟨⟨#[]⟩, 2, fun w => (put_arg b v n (by omega) (by omega) (by omega) (by omega) w).mono ?_, fun w => (rput_arg b v n (by omega) (by omega) (by omega) (by omega) w).mono ?_⟩
    all_goals
      rintro e w' ⟨rfl, rfl⟩
      exact ⟨rfl, Below.refl _ _⟩

theorem self_str (b : ByteArray) : (b.toList == b.toList) = true := beq_self_eq_true _
set_option maxHeartbeats 400000 in
theorem puts_walk (b : ByteArray) (hb : b.size ≤ 140737488351232) (v : Nat) (hv : v < 18446744073709551616) (n : Int) (w : World) :
    Calls Try.prog 3 #[.string b, .int .u64 v, .int .i64 n] w fun e w' => e = .returned (.bool true) ∧ Below w.heap.size w w' := by
  obtain ⟨s, e, h1, h2⟩ := put_both b (by omega) v hv n
  obtain ⟨s', e', h1', h2'⟩ := put_both (b.extract 0 1000) (by simp; omega) v hv n
  have H1 := hidIn h1
  have H2 := hidIn h2
  have H1' := hidIn h1'
  have H2' := hidIn h2'
  clear h1 h2 h1' h2'
  have hs := self_str s
  have hs' := self_str s'
  by_cases hbs : b.size ≤ 1000
  · have hz : (b.size : Int) ≤ 1000 := by omega
    go_enter Try.func3, Try.ntmps3
    go_wp2_with (first
      | (go_at_call 9; refine (H1.out _).mono ?_; rintro r w1 ⟨rfl, b1⟩)
      | (go_at_call 10; refine (H2.out _).mono ?_; rintro r w2 ⟨rfl, b2⟩)
      | (go_at_call 11; refine (works_any _).mono ?_; rintro r w3 ⟨rfl, b3⟩))
    go_ret
    exact ⟨rfl, (b1.trans (b2.mono b1.size)).trans (b3.mono (Nat.le_trans b1.size b2.size))⟩
  · have hz : (1000 : Int) < (b.size : Int) := by omega
    go_enter Try.func3, Try.ntmps3
    go_wp2_with (first
      | (go_at_call 9; refine (H1'.out _).mono ?_; rintro r w1 ⟨rfl, b1⟩)
      | (go_at_call 10; refine (H2'.out _).mono ?_; rintro r w2 ⟨rfl, b2⟩)
      | (go_at_call 11; refine (works_any _).mono ?_; rintro r w3 ⟨rfl, b3⟩))
    go_ret
    exact ⟨rfl, (b1.trans (b2.mono b1.size)).trans (b3.mono (Nat.le_trans b1.size b2.size))⟩
set_option maxHeartbeats 400000 in
theorem vars_walk (b : ByteArray) (hb : b.size ≤ 140737488351232) (v : Nat) (hv : v < 18446744073709551616) (w : World) :
    Calls Try.prog 5 #[.string b, .int .u64 v] w fun e w' => e = .returned (.bool true) ∧ Below w.heap.size w w' := by
  have hx : (b.extract 0 1000).size ≤ 1000000000000000 := by simp; omega
  have hs := self_str (b ++ strOfNums (pvL v))
  have hs' := self_str (b.extract 0 1000 ++ strOfNums (pvL v))
  by_cases hbs : b.size ≤ 1000
  · have hz : (b.size : Int) ≤ 1000 := by omega
    go_enter Try.func5, Try.ntmps5
    go_wp2_with (first
      | (go_at_call 16; refine (putVar_any b v (by omega) hv _).mono ?_; rintro r w1 ⟨rfl, b1⟩)
      | (go_at_call 17; refine (rputVar_any b v (by omega) hv _).mono ?_; rintro r w2 ⟨rfl, b2⟩)
      | (go_at_call 11; refine (works_any _).mono ?_; rintro r w3 ⟨rfl, b3⟩))
    go_ret
    exact ⟨rfl, (b1.trans (b2.mono b1.size)).trans (b3.mono (Nat.le_trans b1.size b2.size))⟩
  · have hz : (1000 : Int) < (b.size : Int) := by omega
    go_enter Try.func5, Try.ntmps5
    go_wp2_with (first
      | (go_at_call 16; refine (putVar_any (b.extract 0 1000) v hx hv _).mono ?_; rintro r w1 ⟨rfl, b1⟩)
      | (go_at_call 17; refine (rputVar_any (b.extract 0 1000) v hx hv _).mono ?_; rintro r w2 ⟨rfl, b2⟩)
      | (go_at_call 11; refine (works_any _).mono ?_; rintro r w3 ⟨rfl, b3⟩))
    go_ret
    exact ⟨rfl, (b1.trans (b2.mono b1.size)).trans (b3.mono (Nat.le_trans b1.size b2.size))⟩
theorem nat_u64 {v : Int} (wv : (Lit.int .u64 v).wf = true) : ∃ n : Nat, v = n ∧ n < 18446744073709551616 := by
  have h : 0 ≤ v ∧ v ≤ 18446744073709551615 := by simpa [Lit.wf, IntKind.min, IntKind.max, IntKind.signed, IntKind.bits] using wv
  exact ⟨v.toNat, by omega, by omega⟩
theorem puts_law (b : ByteArray) (hb : b.size ≤ 140737488351232) (v : Int) (wv : (Lit.int .u64 v).wf = true) (n : Int) (w : World) :
    Calls Try.prog 3 #[.string b, .int .u64 v, .int .i64 n] w fun e w' => e = .returned (.bool true) ∧ Below w.heap.size w w' := by
  obtain ⟨m, rfl, hm⟩ := nat_u64 wv
  exact puts_walk b hb m hm n w
theorem vars_law (b : ByteArray) (hb : b.size ≤ 140737488351232) (v : Int) (wv : (Lit.int .u64 v).wf = true) (w : World) :
    Calls Try.prog 5 #[.string b, .int .u64 v] w fun e w' => e = .returned (.bool true) ∧ Below w.heap.size w w' := by
  obtain ⟨m, rfl, hm⟩ := nat_u64 wv
  exact vars_walk b hb m hm w
end Go.Proofs.Ytmfadgglhdbppaa
