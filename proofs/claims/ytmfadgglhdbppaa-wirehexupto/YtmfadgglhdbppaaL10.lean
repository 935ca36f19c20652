/- The law WireHex, walked. -/
import Derived.Test.YtmfadgglhdbppaaR8
import Derived.Test.YtmfadgglhdbppaaK9
import Derived.Test.YtmfadgglhdbppaaK11
namespace Go.Proofs.Ytmfadgglhdbppaa
open Go.RowKit

theorem unT_parts (o : Option (List Int)) : ∃ (s : ByteArray) (e : Int), unT o = .tuple #[.string s, .int .i64 e] := by
  cases o with
  | none => exact ⟨_, _, rfl⟩
  | some x => exact ⟨_, _, rfl⟩
theorem unhex_both (b : ByteArray) (hb : b.size ≤ 1048576) :
    ∃ (s : ByteArray) (e : Int), (∀ w, Calls Try.prog 24 #[.string b] w fun r w' => r = .returned (.tuple #[.string s, .int .i64 e]) ∧ Below w.heap.size w w') ∧
      (∀ w, Calls Try.prog 25 #[.string b] w fun r w' => r = .returned (.tuple #[.string s, .int .i64 e]) ∧ Below w.heap.size w w') := by
  by_cases h : b.size % 2 = 0
  · obtain ⟨n, hn⟩ : ∃ n, b.size = 2 * n := ⟨b.size / 2, by omega⟩
    obtain ⟨s, e, h3⟩ := unT_parts (unh b.data.toList)
    refine ⟨s, e, fun w => ?_, fun w => ?_⟩
    · rw [← h3]; exact unhex_even b n hn (by omega) w
    · rw [← h3]; exact runhex_even b n hn (by omega) w
  · exact ⟨_, _, fun w => unhex_odd b (by omega) h w, fun w => runhex_odd b (by omega) h w⟩
set_option maxHeartbeats 1000000 in
theorem hex_law (b : ByteArray) (hb : b.size ≤ 1048576) (w : World) :
    Calls Try.prog 7 #[.string b] w fun e w' => e = .returned (.bool true) ∧ Below w.heap.size w w' := by
  obtain ⟨s, e, h1, h2⟩ := unhex_both b hb
  have H1 := hidIn h1
  have H2 := hidIn h2
  clear h1 h2
  have c1 := str_eq (rfl : s = s)
  have c2 := str_eq (rfl : strOfNums (hexL b.data.toList) = strOfNums (hexL b.data.toList))
  go_enter Try.func7, Try.ntmps7
  go_wp2_with (first
    | (go_at_call 24; refine (H1.out _).mono ?_; rintro r w1 ⟨rfl, b1⟩)
    | (go_at_call 25; refine (H2.out _).mono ?_; rintro r w2 ⟨rfl, b2⟩)
    | (go_at_call 26; refine (hex_any b (by omega) _).mono ?_; rintro r w3 ⟨rfl, b3⟩)
    | (go_at_call 27; refine (rhex_any b (by omega) _).mono ?_; rintro r w4 ⟨rfl, b4⟩)
    | (go_at_call 11; refine (works_any _).mono ?_; rintro r w5 ⟨rfl, b5⟩))
  go_ret
  have d2 := b1.trans (b2.mono b1.size)
  have d3 := d2.trans (b3.mono d2.size)
  have d4 := d3.trans (b4.mono d3.size)
  exact ⟨rfl, d4.trans (b5.mono d4.size)⟩
end Go.Proofs.Ytmfadgglhdbppaa
