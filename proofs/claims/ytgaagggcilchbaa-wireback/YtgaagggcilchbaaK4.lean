/- wire.Sum. -/
import Derived.Test.YtgaagggcilchbaaK3
namespace Go.Proofs.Ytgaagggcilchbaa
open Go.RowKit

/-- The sum of the first k strings. -/
def sumF (ss : Nat → ByteArray) : Nat → Nat
  | 0 => 65535
  | k + 1 => crc (sumF ss k) (ss k).data.toList
theorem sumF_lt (ss : Nat → ByteArray) (k : Nat) : sumF ss k < 65536 := by
  induction k with
  | zero => show 65535 < 65536; decide
  | succ k ih => exact crc_lt ih _
theorem take_snoc (s : ByteArray) (k : Nat) (h : k < s.size) : s.data.toList.take (k + 1) = s.data.toList.take k ++ [s[k]] := by
  rw [List.take_succ_eq_append_getElem (by simpa using h)]; rfl
theorem crc_take (S : Nat) (s : ByteArray) (k : Nat) (h : k < s.size) : crc S (s.data.toList.take (k + 1)) = add1 (crc S (s.data.toList.take k)) s[k].toNat := by
  rw [take_snoc s k h, crc_append, crc_one]

set_option maxHeartbeats 1000000 in
theorem sum_any (ss : Nat → ByteArray) (n b off cap : Nat) (hn : n ≤ maxLen) (hs : ∀ i, i < n → (ss i).size ≤ maxLen) (w : World)
    (hc : ∀ i, i < n → w.cell? ⟨b, off + i, none⟩ = some (.string (ss i))) :
    Calls Try.prog 18 #[.slice (some ⟨b, off, none⟩) n cap] w fun e w' => e = .returned (.int .u16 (sumF ss n : Nat)) ∧ w' = w := by
  unfold maxLen at hn hs
  go_enter Try.func18, Try.ntmps18
  go_wp2
  go_loop [3, 9] (fun t i => ∃ k : Nat, k ≤ n ∧ i = .int .i64 k ∧ t = .int .u16 (sumF ss k : Nat)) (fun _ i => n - (intOf i).toNat)
  case atStart => exact ⟨0, Nat.zero_le _, rfl, rfl⟩
  case round =>
    obtain ⟨k, hk, rfl, rfl⟩ := hrel
    have hS := sumF_lt ss k
    obtain ⟨S, eS⟩ : ∃ S, S = sumF ss k := ⟨_, rfl⟩
    rw [← eS] at hS ⊢
    have HS := hidIn eS
    clear eS
    by_cases hlt : k < n
    · have hck := hc k hlt
      have hsk := hs k hlt
      have HC := hidIn hc
      have HH := hidIn hs
      clear hc hs
      obtain ⟨s, es⟩ : ∃ s, s = ss k := ⟨_, rfl⟩
      rw [← es] at hck hsk
      have ES := hidIn es
      clear es
      go_wp2
      go_loop [3, 15] (fun t i => ∃ j : Nat, j ≤ s.size ∧ i = .int .i64 j ∧ t = .int .u16 (crc S (s.data.toList.take j) : Nat)) (fun _ i => s.size - (intOf i).toNat)
      case atStart => exact ⟨0, Nat.zero_le _, rfl, by simp [crc_nil]⟩
      case round =>
        obtain ⟨j, hj, rfl, rfl⟩ := hrel
        have hT : crc S (s.data.toList.take j) < 65536 := crc_lt hS _
        by_cases hjl : j < s.size
        · have HT := hidIn (crc_take S s j hjl)
          obtain ⟨T, eT⟩ : ∃ T, T = crc S (s.data.toList.take j) := ⟨_, rfl⟩
          rw [← eT] at hT HT ⊢
          clear eT
          have hb : s[j].toNat < 256 := by have := s[j].toNat_lt; omega
          go_wp2_with (go_at_call 23; refine (addByte_any _ _ hT hb _).mono ?_; rintro e w' ⟨rfl, rfl⟩)
          go_round
          case rel => exact ⟨j + 1, by omega, by go_num, int_int (by rw [HT.out])⟩
          case measure => simp [intOf]; omega
        · obtain rfl : j = s.size := by omega
          go_wp2
          go_round
          case rel => exact ⟨k + 1, by omega, by go_num, int_int (by rw [List.take_of_length_le (by simp), ES.out, HS.out]; rfl)⟩
          case measure => simp [intOf]; omega
    · obtain rfl : k = n := by omega
      clear hc hs
      go_wp2
      go_ret
      exact ⟨ret_int (by rw [HS.out]), rfl⟩
set_option maxHeartbeats 400000 in
theorem sum_nil (w : World) :
    Calls Try.prog 18 #[.slice none 0 0] w fun e w' => e = .returned (.int .u16 65535) ∧ w' = w := by
  go_enter Try.func18, Try.ntmps18
  go_wp2
  go_loop [3, 9] (fun t i => i = .int .i64 0 ∧ t = .int .u16 65535) (fun _ _ => 0)
  case atStart => exact ⟨rfl, rfl⟩
  case round =>
    obtain ⟨rfl, rfl⟩ := hrel
    go_wp2
    go_ret
    exact ⟨rfl, rfl⟩
end Go.Proofs.Ytgaagggcilchbaa
