/- dandelionref02.Sum, Seal, Open. -/
import Derived.Test.YtgfmlonhjmdfjaaDoorR3
import Derived.Test.YtgfmlonhjmdfjaaDoorK11
namespace Go.Proofs.YtgfmlonhjmdfjaaDoor.Wi
open Go.RowKit

set_option maxRecDepth 100000 in
set_option maxHeartbeats 2000000 in
theorem rsum_any (ss : Nat → ByteArray) (n b off cap : Nat) (hn : n ≤ maxLen) (hs : ∀ i, i < n → (ss i).size ≤ maxLen) (w : World)
    (hc : ∀ i, i < n → w.cell? ⟨b, off + i, none⟩ = some (.string (ss i))) :
    Calls Tryd.prog 47 #[.slice (some ⟨b, off, none⟩) n cap] w fun e w' => e = .returned (.int .u16 (sumF ss n : Nat)) ∧ w' = w := by
  unfold maxLen at hn hs
  go_enter Tryd.func47, Tryd.ntmps47
  go_wp2
  go_loop [3, 4] (fun t i => ∃ k : Nat, k ≤ n ∧ i = .int .i64 k ∧ t = .int .u16 (sumF ss k : Nat)) (fun _ i => n - (intOf i).toNat)
  case atStart => exact ⟨0, Nat.zero_le _, rfl, rfl⟩
  case round =>
    obtain ⟨k, hk, rfl, rfl⟩ := hrel
    have hS := sumF_lt ss k
    obtain ⟨S, eS⟩ : ∃ S, S = sumF ss k := ⟨_, rfl⟩
    rw [← eS] at hS ⊢
    have HS := hidIn eS
    clear eS
    by_cases hlt : k < n
    · have hck := hc k hlt
      have hsk := hs k hlt
      have HC := hidIn hc
      have HH := hidIn hs
      clear hc hs
      obtain ⟨s, es⟩ : ∃ s, s = ss k := ⟨_, rfl⟩
      rw [← es] at hck hsk
      have ES := hidIn es
      clear es
      go_wp2
      go_loop [3, 5] (fun t i => ∃ j : Nat, j ≤ s.size ∧ i = .int .i64 j ∧ t = .int .u16 (crc S (s.data.toList.take j) : Nat)) (fun _ i => s.size - (intOf i).toNat)
      case atStart => exact ⟨0, Nat.zero_le _, rfl, by simp [crc_nil]⟩
      case round =>
        obtain ⟨j, hj, rfl, rfl⟩ := hrel
        have hT : crc S (s.data.toList.take j) < 65536 := crc_lt hS _
        by_cases hjl : j < s.size
        · have HT := hidIn (crc_take S s j hjl)
          obtain ⟨T, eT⟩ : ∃ T, T = crc S (s.data.toList.take j) := ⟨_, rfl⟩
          rw [← eT] at hT HT ⊢
          clear eT
          have hb : s[j].toNat < 256 := by have := s[j].toNat_lt; omega
          have hin := u16_in' T s[j].toNat hT hb
          go_wp2
          go_loop [3, 6] (fun t i => ∃ m : Nat, m ≤ 8 ∧ i = .int .i64 m ∧ t = .int .u16 (shN m (T ^^^ (s[j].toNat * 256)) : Nat)) (fun _ i => 8 - (intOf i).toNat)
          case atStart => exact ⟨0, Nat.zero_le _, rfl, rfl⟩
          case round =>
            obtain ⟨m, hm, rfl, rfl⟩ := hrel
            have hZ := shN_lt m _ (in_lt hT hb)
            obtain ⟨Z, eZ⟩ : ∃ Z, Z = shN m (T ^^^ (s[j].toNat * 256)) := ⟨_, rfl⟩
            rw [← eZ] at hZ ⊢
            have HZ := hidIn eZ
            clear eZ hin
            by_cases hlm : m < 8
            · by_cases ht : 32768 ≤ Z
              · have ht' : (32768 : Int) ≤ (Z : Int) := by omega
                go_wp2
                refine ⟨⟨m + 1, by omega, by go_num, int_int ?_⟩, by simp [intOf]; omega⟩
                simp only [shN]
                rw [← HZ.out]
                unfold sh1
                rw [if_pos ht, IntKind.wrap_u16]
                exact u16_poly Z hZ
              · have ht' : ¬ (32768 : Int) ≤ (Z : Int) := by omega
                go_wp2
                refine ⟨⟨m + 1, by omega, by go_num, int_int ?_⟩, by simp [intOf]; omega⟩
                simp only [shN]
                rw [← HZ.out]
                unfold sh1
                rw [if_neg ht]
                omega
            · obtain rfl : m = 8 := by omega
              go_wp2
              go_round
              case rel => exact ⟨j + 1, by omega, by go_num, int_int (by rw [HT.out, HZ.out]; rfl)⟩
              case measure => simp [intOf]; omega
        · obtain rfl : j = s.size := by omega
          go_wp2
          go_round
          case rel => exact ⟨k + 1, by omega, by go_num, int_int (by rw [List.take_of_length_le (by simp), ES.out, HS.out]; rfl)⟩
          case measure => simp [intOf]; omega
    · obtain rfl : k = n := by omega
      clear hc hs
      go_wp2
      go_ret
      exact ⟨ret_int (by rw [HS.out]), rfl⟩
set_option maxHeartbeats 400000 in
theorem rsum_nil (w : World) :
    Calls Tryd.prog 47 #[.slice none 0 0] w fun e w' => e = .returned (.int .u16 65535) ∧ w' = w := by
  go_enter Tryd.func47, Tryd.ntmps47
  go_wp2
  go_loop [3, 4] (fun t i => i = .int .i64 0 ∧ t = .int .u16 65535) (fun _ _ => 0)
  case atStart => exact ⟨rfl, rfl⟩
  case round =>
    obtain ⟨rfl, rfl⟩ := hrel
    go_wp2
    go_ret
    exact ⟨rfl, rfl⟩
theorem rsum_one (s : ByteArray) (T b cap : Nat) (w : World) (hb : w.heap.size = b) (hs : s.size ≤ maxLen) :
    Calls Tryd.prog 47 #[.slice (some ⟨b, 0, none⟩) 1 cap] (w.alloc (.cells #[.string s] T)) fun e w' => e = .returned (.int .u16 (crc 65535 s.data.toList : Nat)) ∧ w' = w.alloc (.cells #[.string s] T) := by
  subst hb
  refine rsum_any (fun _ => s) 1 w.heap.size 0 cap (by decide) (fun _ _ => hs) _ (fun i hi => ?_)
  obtain rfl : i = 0 := by omega
  simp
theorem rput_lit2 (b : ByteArray) (v : Nat) (hb : b.size ≤ 1000000000000000) (hv : v < 65536) (w : World) :
    Calls Tryd.prog 46 #[.string b, .int .u64 v, .int .i64 2] w fun e w' => e = .returned (.tuple #[.string (b ++ strOfNums (layN v 2)), .int .i64 0]) ∧ Below w.heap.size w w' := rput_ok b v 2 hb (by omega) (by decide) hv w
set_option maxHeartbeats 400000 in
theorem rseal_any (b : ByteArray) (hb : b.size ≤ 1000000000000000) (w : World) :
    Calls Tryd.prog 29 #[.string b] w fun e w' => e = .returned (.string (sealS b)) ∧ Below w.heap.size w w' := by
  have hm : b.size ≤ maxLen := by unfold maxLen; omega
  have hS : crc 65535 b.data.toList < 65536 := crc_lt (by decide) _
  have HE := hidIn (seal_eq b)
  go_enter Tryd.func29, Tryd.ntmps29
  go_wp2_with (go_at_call 47; refine (rsum_one _ _ _ _ _ (by simp) hm).mono ?_; rintro e w3 ⟨rfl, rfl⟩)
  generalize crc 65535 b.data.toList = S at hS HE ⊢
  go_wp2_with (go_at_call 46; refine (rput_lit2 b S hb hS _).mono ?_; rintro e w1 ⟨rfl, hb1⟩)
  go_ret
  refine ⟨?_, ((Below.refl _ _).alloc (Nat.le_refl _) _).trans (hb1.mono (by simp))⟩
  rw [← HE.out]
  rfl
set_option maxHeartbeats 400000 in
theorem ropen_short (b : ByteArray) (hb : b.size < 2) (w : World) :
    Calls Tryd.prog 34 #[.string b] w fun e w' => e = .returned (.tuple #[.string ⟨#[]⟩, .int .i64 4]) ∧ w' = w := by
  go_enter Tryd.func34, Tryd.ntmps34
  go_wp2
  go_ret2
  exact ⟨rfl, rfl⟩
set_option maxHeartbeats 400000 in
theorem ropen_sum (b : ByteArray) (h2 : 2 ≤ b.size) (hb : b.size ≤ 1000000000000000) (hne : sealS (b.extract 0 (b.size - 2)) ≠ b) (w : World) :
    Calls Tryd.prog 34 #[.string b] w fun e w' => e = .returned (.tuple #[.string ⟨#[]⟩, .int .i64 5]) ∧ Below w.heap.size w w' := by
  have hs : (b.extract 0 (b.size - 2)).size ≤ 1000000000000000 := by rw [ahead_size]; omega
  have hq := str_ne hne
  go_enter Tryd.func34, Tryd.ntmps34
  go_wp2_with (go_at_call 29; refine (rseal_any _ hs _).mono ?_; rintro e w1 ⟨rfl, hb1⟩)
  go_ret2
  exact ⟨rfl, hb1⟩
set_option maxHeartbeats 400000 in
theorem ropen_ok (b : ByteArray) (h2 : 2 ≤ b.size) (hb : b.size ≤ 1000000000000000) (he : sealS (b.extract 0 (b.size - 2)) = b) (w : World) :
    Calls Tryd.prog 34 #[.string b] w fun e w' => e = .returned (.tuple #[.string (b.extract 0 (b.size - 2)), .int .i64 0]) ∧ Below w.heap.size w w' := by
  have hs : (b.extract 0 (b.size - 2)).size ≤ 1000000000000000 := by rw [ahead_size]; omega
  have hq := str_eq he
  have HE := hidIn he
  clear he
  go_enter Tryd.func34, Tryd.ntmps34
  go_wp2_with (go_at_call 29; refine (rseal_any _ hs _).mono ?_; rintro e w1 ⟨rfl, hb1⟩)
  go_ret2
  exact ⟨rfl, hb1⟩
theorem open_both (b : ByteArray) (hb : b.size ≤ 200000000000000) :
    ∃ (s : ByteArray) (e : Int), (∀ w, Calls Tryd.prog 32 #[.string b] w fun r w' => r = .returned (.tuple #[.string s, .int .i64 e]) ∧ Below w.heap.size w w') ∧
      (∀ w, Calls Tryd.prog 34 #[.string b] w fun r w' => r = .returned (.tuple #[.string s, .int .i64 e]) ∧ Below w.heap.size w w') := by
  by_cases h2 : b.size < 2
  · refine ⟨⟨#[]⟩, 4, fun w => (open_short b h2 w).mono ?_, fun w => (ropen_short b h2 w).mono ?_⟩
    all_goals
      rintro e w' ⟨rfl, rfl⟩
      exact ⟨rfl, Below.refl _ _⟩
  · by_cases he : sealS (b.extract 0 (b.size - 2)) = b
    · exact ⟨_, _, fun w => open_ok' b (by omega) hb he w, fun w => ropen_ok b (by omega) (by omega) he w⟩
    · exact ⟨_, _, fun w => open_sum b (by omega) (by omega) he w, fun w => ropen_sum b (by omega) (by omega) he w⟩
end Go.Proofs.YtgfmlonhjmdfjaaDoor.Wi
