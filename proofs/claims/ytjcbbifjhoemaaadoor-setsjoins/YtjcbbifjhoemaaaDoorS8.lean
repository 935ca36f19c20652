/- dandelionlaw04.width, SetsBack, SetsPlaces; the document's Width, IsId, Place, Id. -/
import Derived.Test.YtjcbbifjhoemaaaDoorS7
namespace Go.Proofs.YtjcbbifjhoemaaaDoor
open Go.RowKit

/-- The law's width. -/
def lw (k : Nat) : Nat := 8 * 2 ^ (k % 6)
theorem lw_cases (k : Nat) : (k % 6 = 0 ∧ lw k = 8) ∨ (k % 6 = 1 ∧ lw k = 16) ∨ (k % 6 = 2 ∧ lw k = 32) ∨ (k % 6 = 3 ∧ lw k = 64) ∨ (k % 6 = 4 ∧ lw k = 128) ∨ (k % 6 = 5 ∧ lw k = 256) := by
  have h : k % 6 < 6 := Nat.mod_lt _ (by decide)
  unfold lw
  generalize k % 6 = j at h
  match j, h with
  | 0, _ => simp
  | 1, _ => simp
  | 2, _ => simp
  | 3, _ => simp
  | 4, _ => simp
  | 5, _ => simp
theorem lw_is (k : Nat) : IsW (lw k) := by
  have := lw_cases k
  unfold IsW
  omega
theorem rwidth_yes (W : Int) (h : IsW W) (w : World) : Calls Tryd.prog 15 #[.int .i64 W] w fun e w' => e = .returned (.bool true) ∧ w' = w := by
  rcases h with rfl | rfl | rfl | rfl | rfl | rfl
  all_goals
    go_enter Tryd.func15, Tryd.ntmps15
    go_wp2
    go_ret
    exact ⟨rfl, rfl⟩
theorem rwidth_no (W : Int) (h : ¬ IsW W) (w : World) : Calls Tryd.prog 15 #[.int .i64 W] w fun e w' => e = .returned (.bool false) ∧ w' = w := by
  unfold IsW at h
  have h1 : ¬ W = 8 := by omega
  have h2 : ¬ W = 16 := by omega
  have h3 : ¬ W = 32 := by omega
  have h4 : ¬ W = 64 := by omega
  have h5 : ¬ W = 128 := by omega
  have h6 : ¬ W = 256 := by omega
  clear h
  go_enter Tryd.func15, Tryd.ntmps15
  go_wp2
  go_ret
  refine ⟨?_, rfl⟩
  show Ending.returned (Value.bool (W == 8 || W == 16 || W == 32 || W == 64 || W == 128 || W == 256)) = _
  simp [h1, h2, h3, h4, h5, h6]
theorem risId_yes (i : Int) (h0 : 1 ≤ i) (h1 : i ≤ 1024) (w : World) : Calls Tryd.prog 16 #[.int .i64 i] w fun e w' => e = .returned (.bool true) ∧ w' = w := by
  go_enter Tryd.func16, Tryd.ntmps16
  go_wp2
  go_ret
  exact ⟨rfl, rfl⟩
theorem risId_no (i : Int) (h : i < 1 ∨ 1024 < i) (w : World) : Calls Tryd.prog 16 #[.int .i64 i] w fun e w' => e = .returned (.bool false) ∧ w' = w := by
  rcases h with h | h
  · go_enter Tryd.func16, Tryd.ntmps16
    go_wp2
    go_ret
    exact ⟨rfl, rfl⟩
  · have h0 : 1 ≤ i := by omega
    have h1 : ¬ i ≤ 1024 := by omega
    go_enter Tryd.func16, Tryd.ntmps16
    go_wp2
    go_ret
    exact ⟨rfl, rfl⟩
set_option maxHeartbeats 1000000 in
theorem rplace_yes (k W : Nat) (hk : k < 1024) (hW : IsW W) (w : World) :
    Calls Tryd.prog 17 #[.int .i64 ((k : Int) + 1), .int .i64 W] w fun e w' => e = .returned (.tuple #[.int .i64 ((k / W : Nat) : Int), .int .i64 (((k % W : Nat) : Int) + 1), .int .i64 0]) ∧ Below w.heap.size w w' := by
  have hWp : (W : Int) ≠ 0 := by have := isW_pos hW; omega
  have q1 : IntKind.i64.wrap ((k : Int) + 1 - 1) = (k : Int) := by rw [Int.add_sub_cancel, IntKind.wrap_i64]; omega
  go_enter Tryd.func17, Tryd.ntmps17
  go_wp2_with (first
    | (go_at_call 15; refine (rwidth_yes W hW _).mono ?_; rintro e w1 ⟨rfl, rfl⟩)
    | (go_at_call 16; refine (risId_yes _ (by omega) (by omega) _).mono ?_; rintro e w1 ⟨rfl, rfl⟩))
  go_region
  go_wp2
  go_returns
  refine ⟨?_, Below.drew (Below.refl _ _)⟩
  show Ending.returned (Value.tuple #[.int .i64 (wrap64 ((k : Int) / (W : Int))), .int .i64 (wrap64 ((k : Int) % (W : Int) + 1)), .int .i64 0]) = _
  rw [div_w k W hk, mod_w k W hk]
set_option maxHeartbeats 1000000 in
theorem rplace_no (i W : Int) (h : ¬ IsW W ∨ i < 1 ∨ 1024 < i) (w : World) :
    Calls Tryd.prog 17 #[.int .i64 i, .int .i64 W] w fun e w' => e = .returned (.tuple #[.int .i64 0, .int .i64 0, .int .i64 2]) ∧ w' = w := by
  by_cases hW : IsW W
  · have h' : i < 1 ∨ 1024 < i := by rcases h with h | h; exact absurd hW h; exact h
    clear h
    go_enter Tryd.func17, Tryd.ntmps17
    go_wp2_with (first
      | (go_at_call 15; refine (rwidth_yes W hW _).mono ?_; rintro e w1 ⟨rfl, rfl⟩)
      | (go_at_call 16; refine (risId_no _ h' _).mono ?_; rintro e w1 ⟨rfl, rfl⟩))
    go_returns
    exact ⟨rfl, rfl⟩
  · clear h
    go_enter Tryd.func17, Tryd.ntmps17
    go_wp2_with (go_at_call 15; refine (rwidth_no W hW _).mono ?_; rintro e w1 ⟨rfl, rfl⟩)
    go_returns
    exact ⟨rfl, rfl⟩
set_option maxHeartbeats 1000000 in
theorem rid_any (s b W : Int) (w : World) :
    Calls Tryd.prog 26 #[.int .i64 s, .int .i64 b, .int .i64 W] w fun e w' => e = .returned (idV s b W) ∧ w' = w := by
  by_cases hW : IsW W
  · by_cases hs0 : s < 0
    · unfold idV
      rw [if_neg (by omega)]
      go_enter Tryd.func26, Tryd.ntmps26
      go_wp2_with (go_at_call 15; refine (rwidth_yes W hW _).mono ?_; rintro e w1 ⟨rfl, rfl⟩)
      go_ret2
      exact ⟨rfl, rfl⟩
    · by_cases hs1 : 128 ≤ s
      · unfold idV
        rw [if_neg (by omega)]
        go_enter Tryd.func26, Tryd.ntmps26
        go_wp2_with (go_at_call 15; refine (rwidth_yes W hW _).mono ?_; rintro e w1 ⟨rfl, rfl⟩)
        go_ret2
        exact ⟨rfl, rfl⟩
      · by_cases hb1 : b < 1
        · unfold idV
          rw [if_neg (by omega)]
          go_enter Tryd.func26, Tryd.ntmps26
          go_wp2_with (go_at_call 15; refine (rwidth_yes W hW _).mono ?_; rintro e w1 ⟨rfl, rfl⟩)
          go_ret2
          exact ⟨rfl, rfl⟩
        · by_cases hb2 : W < b
          · unfold idV
            rw [if_neg (by omega)]
            go_enter Tryd.func26, Tryd.ntmps26
            go_wp2_with (go_at_call 15; refine (rwidth_yes W hW _).mono ?_; rintro e w1 ⟨rfl, rfl⟩)
            go_ret2
            exact ⟨rfl, rfl⟩
          · have hWb : 8 ≤ W ∧ W ≤ 256 := by unfold IsW at hW; omega
            have hm : 0 ≤ s * W ∧ s * W ≤ 127 * 256 := ⟨Int.mul_nonneg (by omega) (by omega), Int.mul_le_mul (by omega) (by omega) (by omega) (by omega)⟩
            obtain ⟨m, hm'⟩ : ∃ m, s * W = m := ⟨_, rfl⟩
            unfold idV
            rw [if_pos ⟨hW, ⟨by omega, by omega⟩, by omega, by omega⟩, hm']
            rw [hm'] at hm
            have q1 : IntKind.i64.wrap (s * W) = m := by rw [hm', IntKind.wrap_i64]; omega
            have q1' : wrap64 (s * W) = m := by rw [hm']; unfold wrap64; omega
            have q2 : wrap64 (m + b) = m + b := by unfold wrap64; omega
            have Hm := hidIn hm'
            clear hm'
            by_cases hl : 1024 < m + b
            · rw [if_neg (by omega)]
              go_enter Tryd.func26, Tryd.ntmps26
              go_wp2_with (go_at_call 15; refine (rwidth_yes W hW _).mono ?_; rintro e w1 ⟨rfl, rfl⟩)
              go_ret2
              exact ⟨rfl, rfl⟩
            · rw [if_pos (by omega)]
              go_enter Tryd.func26, Tryd.ntmps26
              go_wp2_with (go_at_call 15; refine (rwidth_yes W hW _).mono ?_; rintro e w1 ⟨rfl, rfl⟩)
              go_ret2
              exact ⟨rfl, rfl⟩
  · unfold idV
    rw [if_neg (by intro h; exact hW h.1)]
    go_enter Tryd.func26, Tryd.ntmps26
    go_wp2_with (go_at_call 15; refine (rwidth_no W hW _).mono ?_; rintro e w1 ⟨rfl, rfl⟩)
    go_ret2
    exact ⟨rfl, rfl⟩

/-- Id of a place. -/
theorem idV_place {m W : Nat} (hm : m < 1024) (hW : IsW W) : idV ((m / W : Nat) : Int) (((m % W : Nat) : Int) + 1) W = .tuple #[.int .i64 ((m : Int) + 1), .int .i64 0] := by
  have hWb := isW_pos hW
  have h1 : m / W ≤ m / 8 := Nat.div_le_div_left hWb.1 (by omega)
  have h2 := Nat.mod_lt m (show 0 < W by omega)
  have h3 : ((m / W : Nat) : Int) * (W : Int) + (((m % W : Nat) : Int) + 1) = (m : Int) + 1 := by
    have := Nat.div_add_mod m W
    rw [← Int.add_assoc, ← Int.natCast_mul, ← Int.natCast_add, Nat.mul_comm, this]
  have h4 : m / W < 128 := by omega
  clear h1
  generalize m / W = q at h3 h4 ⊢
  generalize m % W = r at h2 h3 ⊢
  unfold idV
  rw [if_pos ⟨hW, ⟨by omega, by omega⟩, by omega, by omega⟩, h3, if_pos (by omega)]

end Go.Proofs.YtjcbbifjhoemaaaDoor
