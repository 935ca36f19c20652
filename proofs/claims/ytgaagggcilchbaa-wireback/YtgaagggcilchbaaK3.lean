/- wire.isSize, wire.addByte, wire.Take. -/
import Derived.Test.YtgaagggcilchbaaProg
import Derived.Test.YtgaagggcilchbaaK1
import Derived.WalkKit
import Derived.WalkSpells
import Derived.WalkLawsBesides
import Derived.Handy
namespace Go.Proofs.Ytgaagggcilchbaa
open Go.RowKit

theorem hidIn {p : Prop} (h : p) : Hid p := h
theorem ret_int {k : IntKind} {a b : Int} (h : a = b) : Ending.returned (.int k a) = .returned (.int k b) := by rw [h]
theorem int_int {k : IntKind} {a b : Int} (h : a = b) : Value.int k a = .int k b := by rw [h]

theorem u16_in' (s c : Nat) (h : s < 65536) (hc : c < 256) : bits .xor .u16 (s : Int) (c * 256 : Int) = ((s ^^^ (c * 256) : Nat) : Int) := by
  rw [show ((c : Int) * 256) = ((c * 256 : Nat) : Int) from by omega, u16_xor_nat _ _ h (by omega)]

set_option maxHeartbeats 400000 in
theorem addByte_any (s c : Nat) (hs : s < 65536) (hc : c < 256) (w : World) :
    Calls Try.prog 23 #[.int .u16 s, .int .u8 c] w fun e w' => e = .returned (.int .u16 (add1 s c : Nat)) ∧ w' = w := by
  go_enter Try.func23, Try.ntmps23
  go_wp2
  go_loop [0, 11] (fun t i => ∃ k : Nat, k ≤ 8 ∧ i = .int .i64 k ∧ t = .int .u16 (shN k (s ^^^ (c * 256)) : Nat)) (fun _ i => 8 - (intOf i).toNat)
  case atStart => exact ⟨0, Nat.zero_le _, rfl, int_int (u16_in' s c hs hc)⟩
  case round =>
    obtain ⟨k, hk, rfl, rfl⟩ := hrel
    have hS := shN_lt k _ (in_lt hs hc)
    obtain ⟨S, eS⟩ : ∃ S, S = shN k (s ^^^ (c * 256)) := ⟨_, rfl⟩
    rw [← eS] at hS ⊢
    have HS := hidIn eS
    clear eS
    by_cases hlt : k < 8
    · have hh := u16_high S hS
      by_cases ht : 32768 ≤ S
      · rw [if_pos ht] at hh
        go_wp2
        go_round
        case rel => exact ⟨k + 1, by omega, by go_num, int_int (by
          simp only [shN]; rw [← HS.out]; unfold sh1; rw [if_pos ht]; exact u16_poly S hS)⟩
        case measure => simp [intOf]; omega
      · rw [if_neg ht] at hh
        go_wp2
        go_round
        case rel => exact ⟨k + 1, by omega, by go_num, int_int (by
          simp only [shN]; rw [← HS.out]; unfold sh1; rw [if_neg ht]; omega)⟩
        case measure => simp [intOf]; omega
    · obtain rfl : k = 8 := by omega
      go_wp2
      go_ret
      exact ⟨ret_int (by rw [HS.out]; rfl), rfl⟩

set_option maxHeartbeats 400000 in
theorem isSize_yes (n : Int) (h : n = 1 ∨ n = 2 ∨ n = 4 ∨ n = 8) (w : World) :
    Calls Try.prog 19 #[.int .i64 n] w fun e w' => e = .returned (.bool true) ∧ w' = w := by
  rcases h with rfl | rfl | rfl | rfl
  all_goals
    go_enter Try.func19, Try.ntmps19
    go_wp2
    go_ret
    exact ⟨rfl, rfl⟩
set_option maxHeartbeats 400000 in
theorem isSize_no (n : Int) (h1 : n ≠ 1) (h2 : n ≠ 2) (h4 : n ≠ 4) (h8 : n ≠ 8) (w : World) :
    Calls Try.prog 19 #[.int .i64 n] w fun e w' => e = .returned (.bool false) ∧ w' = w := by
  have e1 : (n == 1) = false := by simpa using h1
  have e2 : (n == 2) = false := by simpa using h2
  have e4 : (n == 4) = false := by simpa using h4
  have e8 : (n == 8) = false := by simpa using h8
  clear h1 h2 h4 h8
  go_enter Try.func19, Try.ntmps19
  go_wp2
  go_ret
  exact ⟨rfl, rfl⟩
end Go.Proofs.Ytgaagggcilchbaa
