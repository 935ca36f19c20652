/- dandelionlaw04.width, SetsBack, SetsPlaces; the document's Width, IsId, Place, Id. -/
import Derived.Test.YtpjbfijmlbbipaaDoorS7
namespace Go.Proofs.YtpjbfijmlbbipaaDoor
open Go.RowKit

/-- The law's width. -/
def lw (k : Nat) : Nat := 8 * 2 ^ (k % 6)
theorem lw_cases (k : Nat) : (k % 6 = 0 ∧ lw k = 8) ∨ (k % 6 = 1 ∧ lw k = 16) ∨ (k % 6 = 2 ∧ lw k = 32) ∨ (k % 6 = 3 ∧ lw k = 64) ∨ (k % 6 = 4 ∧ lw k = 128) ∨ (k % 6 = 5 ∧ lw k = 256) := by
  have h : k % 6 < 6 := Nat.mod_lt _ (by decide)
  unfold lw
  generalize k % 6 = j at h
  match j, h with
  | 0, _ => simp
  | 1, _ => simp
  | 2, _ => simp
  | 3, _ => simp
  | 4, _ => simp
  | 5, _ => simp
theorem lw_is (k : Nat) : IsW (lw k) := by
  have := lw_cases k
  unfold IsW
  omega
set_option maxHeartbeats 1000000 in
theorem width_any (k : Nat) (w : World) : Calls Tryd.prog 21 #[.int .u8 k] w fun e w' => e = .returned (.int .i64 (lw k)) ∧ w' = w := by
  rcases lw_cases k with ⟨h, e⟩ | ⟨h, e⟩ | ⟨h, e⟩ | ⟨h, e⟩ | ⟨h, e⟩ | ⟨h, e⟩
  · have h' : (k : Int) % 6 = 0 := by omega
    rw [e]
    clear h e
    go_enter Tryd.func21, Tryd.ntmps21
    go_wp2
    go_ret
    exact ⟨rfl, rfl⟩
  · have h' : (k : Int) % 6 = 1 := by omega
    rw [e]
    clear h e
    go_enter Tryd.func21, Tryd.ntmps21
    go_wp2
    go_ret
    exact ⟨rfl, rfl⟩
  · have h' : (k : Int) % 6 = 2 := by omega
    rw [e]
    clear h e
    go_enter Tryd.func21, Tryd.ntmps21
    go_wp2
    go_ret
    exact ⟨rfl, rfl⟩
  · have h' : (k : Int) % 6 = 3 := by omega
    rw [e]
    clear h e
    go_enter Tryd.func21, Tryd.ntmps21
    go_wp2
    go_ret
    exact ⟨rfl, rfl⟩
  · have h' : (k : Int) % 6 = 4 := by omega
    rw [e]
    clear h e
    go_enter Tryd.func21, Tryd.ntmps21
    go_wp2
    go_ret
    exact ⟨rfl, rfl⟩
  · have h' : (k : Int) % 6 = 5 := by omega
    rw [e]
    clear h e
    go_enter Tryd.func21, Tryd.ntmps21
    go_wp2
    go_ret
    exact ⟨rfl, rfl⟩

theorem rwidth_yes (W : Int) (h : IsW W) (w : World) : Calls Tryd.prog 24 #[.int .i64 W] w fun e w' => e = .returned (.bool true) ∧ w' = w := by
  rcases h with rfl | rfl | rfl | rfl | rfl | rfl
  all_goals
    go_enter Tryd.func24, Tryd.ntmps24
    go_wp2
    go_ret
    exact ⟨rfl, rfl⟩
theorem rwidth_no (W : Int) (h : ¬ IsW W) (w : World) : Calls Tryd.prog 24 #[.int .i64 W] w fun e w' => e = .returned (.bool false) ∧ w' = w := by
  unfold IsW at h
  have h1 : ¬ W = 8 := by omega
  have h2 : ¬ W = 16 := by omega
  have h3 : ¬ W = 32 := by omega
  have h4 : ¬ W = 64 := by omega
  have h5 : ¬ W = 128 := by omega
  have h6 : ¬ W = 256 := by omega
  clear h
  go_enter Tryd.func24, Tryd.ntmps24
  go_wp2
  go_ret
  refine ⟨?_, rfl⟩
  show Ending.returned (Value.bool (W == 8 || W == 16 || W == 32 || W == 64 || W == 128 || W == 256)) = _
  simp [h1, h2, h3, h4, h5, h6]
theorem risId_yes (i : Int) (h0 : 1 ≤ i) (h1 : i ≤ 1024) (w : World) : Calls Tryd.prog 25 #[.int .i64 i] w fun e w' => e = .returned (.bool true) ∧ w' = w := by
  go_enter Tryd.func25, Tryd.ntmps25
  go_wp2
  go_ret
  exact ⟨rfl, rfl⟩
theorem risId_no (i : Int) (h : i < 1 ∨ 1024 < i) (w : World) : Calls Tryd.prog 25 #[.int .i64 i] w fun e w' => e = .returned (.bool false) ∧ w' = w := by
  rcases h with h | h
  · go_enter Tryd.func25, Tryd.ntmps25
    go_wp2
    go_ret
    exact ⟨rfl, rfl⟩
  · have h0 : 1 ≤ i := by omega
    have h1 : ¬ i ≤ 1024 := by omega
    go_enter Tryd.func25, Tryd.ntmps25
    go_wp2
    go_ret
    exact ⟨rfl, rfl⟩
set_option maxHeartbeats 1000000 in
theorem rplace_yes (k W : Nat) (hk : k < 1024) (hW : IsW W) (w : World) :
    Calls Tryd.prog 10 #[.int .i64 ((k : Int) + 1), .int .i64 W] w fun e w' => e = .returned (.tuple #[.int .i64 ((k / W : Nat) : Int), .int .i64 (((k % W : Nat) : Int) + 1), .int .i64 0]) ∧ Below w.heap.size w w' := by
  have hWp : (W : Int) ≠ 0 := by have := isW_pos hW; omega
  have q1 : IntKind.i64.wrap ((k : Int) + 1 - 1) = (k : Int) := by rw [Int.add_sub_cancel, IntKind.wrap_i64]; omega
  go_enter Tryd.func10, Tryd.ntmps10
  go_wp2_with (first
    | (go_at_call 24; refine (rwidth_yes W hW _).mono ?_; rintro e w1 ⟨rfl, rfl⟩)
    | (go_at_call 25; refine (risId_yes _ (by omega) (by omega) _).mono ?_; rintro e w1 ⟨rfl, rfl⟩))
  go_region
  go_wp2
  go_returns
  refine ⟨?_, Below.drew (Below.refl _ _)⟩
  show Ending.returned (Value.tuple #[.int .i64 (wrap64 ((k : Int) / (W : Int))), .int .i64 (wrap64 ((k : Int) % (W : Int) + 1)), .int .i64 0]) = _
  rw [div_w k W hk, mod_w k W hk]
set_option maxHeartbeats 1000000 in
theorem rplace_no (i W : Int) (h : ¬ IsW W ∨ i < 1 ∨ 1024 < i) (w : World) :
    Calls Tryd.prog 10 #[.int .i64 i, .int .i64 W] w fun e w' => e = .returned (.tuple #[.int .i64 0, .int .i64 0, .int .i64 2]) ∧ w' = w := by
  by_cases hW : IsW W
  · have h' : i < 1 ∨ 1024 < i := by rcases h with h | h; exact absurd hW h; exact h
    clear h
    go_enter Tryd.func10, Tryd.ntmps10
    go_wp2_with (first
      | (go_at_call 24; refine (rwidth_yes W hW _).mono ?_; rintro e w1 ⟨rfl, rfl⟩)
      | (go_at_call 25; refine (risId_no _ h' _).mono ?_; rintro e w1 ⟨rfl, rfl⟩))
    go_returns
    exact ⟨rfl, rfl⟩
  · clear h
    go_enter Tryd.func10, Tryd.ntmps10
    go_wp2_with (go_at_call 24; refine (rwidth_no W hW _).mono ?_; rintro e w1 ⟨rfl, rfl⟩)
    go_returns
    exact ⟨rfl, rfl⟩
set_option maxHeartbeats 1000000 in
theorem rid_any (s b W : Int) (w : World) :
    Calls Tryd.prog 12 #[.int .i64 s, .int .i64 b, .int .i64 W] w fun e w' => e = .returned (idV s b W) ∧ w' = w := by
  by_cases hW : IsW W
  · by_cases hs0 : s < 0
    · unfold idV
      rw [if_neg (by omega)]
      go_enter Tryd.func12, Tryd.ntmps12
      go_wp2_with (go_at_call 24; refine (rwidth_yes W hW _).mono ?_; rintro e w1 ⟨rfl, rfl⟩)
      go_ret2
      exact ⟨rfl, rfl⟩
    · by_cases hs1 : 128 ≤ s
      · unfold idV
        rw [if_neg (by omega)]
        go_enter Tryd.func12, Tryd.ntmps12
        go_wp2_with (go_at_call 24; refine (rwidth_yes W hW _).mono ?_; rintro e w1 ⟨rfl, rfl⟩)
        go_ret2
        exact ⟨rfl, rfl⟩
      · by_cases hb1 : b < 1
        · unfold idV
          rw [if_neg (by omega)]
          go_enter Tryd.func12, Tryd.ntmps12
          go_wp2_with (go_at_call 24; refine (rwidth_yes W hW _).mono ?_; rintro e w1 ⟨rfl, rfl⟩)
          go_ret2
          exact ⟨rfl, rfl⟩
        · by_cases hb2 : W < b
          · unfold idV
            rw [if_neg (by omega)]
            go_enter Tryd.func12, Tryd.ntmps12
            go_wp2_with (go_at_call 24; refine (rwidth_yes W hW _).mono ?_; rintro e w1 ⟨rfl, rfl⟩)
            go_ret2
            exact ⟨rfl, rfl⟩
          · have hWb : 8 ≤ W ∧ W ≤ 256 := by unfold IsW at hW; omega
            have hm : 0 ≤ s * W ∧ s * W ≤ 127 * 256 := ⟨Int.mul_nonneg (by omega) (by omega), Int.mul_le_mul (by omega) (by omega) (by omega) (by omega)⟩
            obtain ⟨m, hm'⟩ : ∃ m, s * W = m := ⟨_, rfl⟩
            unfold idV
            rw [if_pos ⟨hW, ⟨by omega, by omega⟩, by omega, by omega⟩, hm']
            rw [hm'] at hm
            have q1 : IntKind.i64.wrap (s * W) = m := by rw [hm', IntKind.wrap_i64]; omega
            have q1' : wrap64 (s * W) = m := by rw [hm']; unfold wrap64; omega
            have q2 : wrap64 (m + b) = m + b := by unfold wrap64; omega
            have Hm := hidIn hm'
            clear hm'
            by_cases hl : 1024 < m + b
            · rw [if_neg (by omega)]
              go_enter Tryd.func12, Tryd.ntmps12
              go_wp2_with (go_at_call 24; refine (rwidth_yes W hW _).mono ?_; rintro e w1 ⟨rfl, rfl⟩)
              go_ret2
              exact ⟨rfl, rfl⟩
            · rw [if_pos (by omega)]
              go_enter Tryd.func12, Tryd.ntmps12
              go_wp2_with (go_at_call 24; refine (rwidth_yes W hW _).mono ?_; rintro e w1 ⟨rfl, rfl⟩)
              go_ret2
              exact ⟨rfl, rfl⟩
  · unfold idV
    rw [if_neg (by intro h; exact hW h.1)]
    go_enter Tryd.func12, Tryd.ntmps12
    go_wp2_with (go_at_call 24; refine (rwidth_no W hW _).mono ?_; rintro e w1 ⟨rfl, rfl⟩)
    go_ret2
    exact ⟨rfl, rfl⟩

/-- Id of a place. -/
theorem idV_place {m W : Nat} (hm : m < 1024) (hW : IsW W) : idV ((m / W : Nat) : Int) (((m % W : Nat) : Int) + 1) W = .tuple #[.int .i64 ((m : Int) + 1), .int .i64 0] := by
  have hWb := isW_pos hW
  have h1 : m / W ≤ m / 8 := Nat.div_le_div_left hWb.1 (by omega)
  have h2 := Nat.mod_lt m (show 0 < W by omega)
  have h3 : ((m / W : Nat) : Int) * (W : Int) + (((m % W : Nat) : Int) + 1) = (m : Int) + 1 := by
    have := Nat.div_add_mod m W
    rw [← Int.add_assoc, ← Int.natCast_mul, ← Int.natCast_add, Nat.mul_comm, this]
  have h4 : m / W < 128 := by omega
  clear h1
  generalize m / W = q at h3 h4 ⊢
  generalize m % W = r at h2 h3 ⊢
  unfold idV
  rw [if_pos ⟨hW, ⟨by omega, by omega⟩, by omega, by omega⟩, h3, if_pos (by omega)]

set_option maxRecDepth 100000 in
set_option maxHeartbeats 2000000 in
theorem back_core (m k x W s b : Nat) (hm : m < 65536) (hx : x < 1024) (hmm : (m : Int) % 1024 = (x : Int)) (hs : s < 128) (hb : b < W)
    (Hw : Hid (∀ w, Calls Tryd.prog 21 #[.int .u8 k] w fun e w' => e = .returned (.int .i64 W) ∧ w' = w))
    (Hp : Hid (∀ (w' : World), Wid w' → Calls Tryd.prog 9 #[.int .i64 (1 + (x : Int)), .int .i64 (W : Int)] w' fun e w'' => e = .returned (.tuple #[.int .i64 (s : Int), .int .i64 ((b : Int) + 1), .int .i64 0]) ∧ Below w'.heap.size w' w''))
    (Hq : Hid (∀ (w' : World), Wid w' → Calls Tryd.prog 11 #[.int .i64 (s : Int), .int .i64 ((b : Int) + 1), .int .i64 (W : Int)] w' fun e w'' => e = .returned (.tuple #[.int .i64 (1 + (x : Int)), .int .i64 0]) ∧ w'' = w'))
    (w : World) (ht : Wid w) : Calls Tryd.prog 6 #[.int .u16 m, .int .u8 k] w fun e w' => e = .returned (.bool true) ∧ Below w.heap.size w w' := by
  have g1 : (b : Int) + 1 ≤ (W : Int) := by omega
  have g2 : (s : Int) < 128 := by omega
  have e0 : wrap64 (m : Int) = (m : Int) := by unfold wrap64; omega
  have e1 : (m : Int).tmod 1024 = (x : Int) := by rw [Int.tmod_eq_emod_of_nonneg (by omega)]; exact hmm
  have e2 : wrap64 (1 + (x : Int)) = 1 + (x : Int) := by unfold wrap64; omega
  clear hmm
  go_enter Tryd.func6, Tryd.ntmps6
  go_wp2_with (first
    | (go_at_call 13; refine (works_any _ ht).mono ?_; rintro e w1 ⟨rfl, hb1⟩; have ht1 := ht.keep hb1)
    | (go_at_call 21; refine (Hw.out _).mono ?_; rintro e w2 ⟨rfl, rfl⟩)
    | (go_at_call 9; refine (Hp.out _ ht1).mono ?_; rintro e w3 ⟨rfl, hb3⟩; have ht3 := ht1.keep hb3)
    | (go_at_call 11; refine (Hq.out _ ht3).mono ?_; rintro e w4 ⟨rfl, rfl⟩))
  go_ret
  exact ⟨rfl, hb1.trans (hb3.mono hb1.size)⟩
theorem back_walk (m k : Nat) (hm : m < 65536) (w : World) (ht : Wid w) : Calls Tryd.prog 6 #[.int .u16 m, .int .u8 k] w fun e w' => e = .returned (.bool true) ∧ Below w.heap.size w w' := by
  have hx : m % 1024 < 1024 := Nat.mod_lt _ (by decide)
  have hW := lw_is k
  have hWb := isW_pos hW
  have h1 : m % 1024 / lw k ≤ m % 1024 / 8 := Nat.div_le_div_left hWb.1 (by omega)
  have e2 : (1 : Int) + ((m % 1024 : Nat) : Int) = ((m % 1024 : Nat) : Int) + 1 := by omega
  refine back_core m k (m % 1024) (lw k) (m % 1024 / lw k) (m % 1024 % lw k) hm hx (by simp) (by omega) (Nat.mod_lt _ (by omega)) (hidIn (width_any k)) (hidIn ?_) (hidIn ?_) w ht
  · intro w' h'
    rw [e2]
    exact place_yes (m % 1024) (lw k) hx hW w' h'
  · intro w' h'
    rw [e2, ← idV_place hx hW]
    exact id_any _ _ _ w' h'
theorem back_ints (n k : Int) (hn : (Lit.int .u16 n).wf = true) (hk : (Lit.int .u8 k).wf = true) (w : World) (ht : Wid w) : Calls Tryd.prog 6 #[.int .u16 n, .int .u8 k] w fun e w' => e = .returned (.bool true) ∧ Below w.heap.size w w' := by
  simp [Lit.wf, IntKind.min, IntKind.max, IntKind.bits, IntKind.signed] at hn hk
  obtain ⟨m, rfl⟩ := Int.eq_ofNat_of_zero_le hn.1
  obtain ⟨j, rfl⟩ := Int.eq_ofNat_of_zero_le hk.1
  exact back_walk m j (by omega) w ht
end Go.Proofs.YtpjbfijmlbbipaaDoor
