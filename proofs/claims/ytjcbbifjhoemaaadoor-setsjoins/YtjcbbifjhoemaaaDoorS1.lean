/- sets.isId, isSet, Place, Id; the document's Width, IsId, Place, Id. -/
import Derived.Test.YtjcbbifjhoemaaaDoorH1
import Derived.Test.YtjcbbifjhoemaaaDoorB1
namespace Go.Proofs.YtjcbbifjhoemaaaDoor
open Go.RowKit

theorem isId_yes (i : Int) (h0 : 1 ≤ i) (h1 : i ≤ 1024) (w : World) : Calls Tryd.prog 29 #[.int .i64 i] w fun e w' => e = .returned (.bool true) ∧ w' = w := by
  go_enter Tryd.func29, Tryd.ntmps29
  go_wp2
  go_ret
  exact ⟨rfl, rfl⟩
theorem isId_no (i : Int) (h : i < 1 ∨ 1024 < i) (w : World) : Calls Tryd.prog 29 #[.int .i64 i] w fun e w' => e = .returned (.bool false) ∧ w' = w := by
  rcases h with h | h
  · go_enter Tryd.func29, Tryd.ntmps29
    go_wp2
    go_ret
    exact ⟨rfl, rfl⟩
  · have h0 : 1 ≤ i := by omega
    have h1 : ¬ i ≤ 1024 := by omega
    go_enter Tryd.func29, Tryd.ntmps29
    go_wp2
    go_ret
    exact ⟨rfl, rfl⟩
theorem isSet_yes (i : Int) (h0 : 0 ≤ i) (h1 : i < 128) (w : World) : Calls Tryd.prog 21 #[.int .i64 i] w fun e w' => e = .returned (.bool true) ∧ w' = w := by
  go_enter Tryd.func21, Tryd.ntmps21
  go_wp2
  go_ret
  exact ⟨rfl, rfl⟩
theorem isSet_no (i : Int) (h : i < 0 ∨ 128 ≤ i) (w : World) : Calls Tryd.prog 21 #[.int .i64 i] w fun e w' => e = .returned (.bool false) ∧ w' = w := by
  rcases h with h | h
  · go_enter Tryd.func21, Tryd.ntmps21
    go_wp2
    go_ret
    exact ⟨rfl, rfl⟩
  · have h0 : 0 ≤ i := by omega
    have h1 : ¬ i < 128 := by omega
    go_enter Tryd.func21, Tryd.ntmps21
    go_wp2
    go_ret
    exact ⟨rfl, rfl⟩

theorem isW_pos {W : Nat} (h : IsW W) : 8 ≤ W ∧ W ≤ 256 := by unfold IsW at h; omega
theorem div_w (k W : Nat) (hk : k < 1024) : wrap64 ((k : Int) / (W : Int)) = ((k / W : Nat) : Int) := by
  rw [← Int.natCast_ediv]
  have := Nat.div_le_self k W
  generalize k / W = q at this ⊢
  unfold wrap64; omega
theorem mod_w (k W : Nat) (hk : k < 1024) : wrap64 ((k : Int) % (W : Int) + 1) = ((k % W : Nat) : Int) + 1 := by
  rw [← Int.natCast_emod]
  have := Nat.mod_le k W
  generalize k % W = q at this ⊢
  unfold wrap64; omega
set_option maxHeartbeats 1000000 in
theorem place_yes (k W : Nat) (hk : k < 1024) (hW : IsW W) (w : World) (ht : Wid w) :
    Calls Tryd.prog 19 #[.int .i64 ((k : Int) + 1), .int .i64 W] w fun e w' => e = .returned (.tuple #[.int .i64 ((k / W : Nat) : Int), .int .i64 (((k % W : Nat) : Int) + 1), .int .i64 0]) ∧ Below w.heap.size w w' := by
  have hWp : (W : Int) ≠ 0 := by have := isW_pos hW; omega
  have q1 : IntKind.i64.wrap ((k : Int) + 1 - 1) = (k : Int) := by rw [Int.add_sub_cancel, IntKind.wrap_i64]; omega
  go_enter Tryd.func19, Tryd.ntmps19
  go_wp2_with (first
    | (go_at_call 20; refine (wide_yes W hW _ ht).mono ?_; rintro e w1 ⟨rfl, rfl⟩)
    | (go_at_call 29; refine (isId_yes _ (by omega) (by omega) _).mono ?_; rintro e w1 ⟨rfl, rfl⟩))
  go_region
  go_wp2
  go_returns
  refine ⟨?_, Below.drew (Below.refl _ _)⟩
  show Ending.returned (Value.tuple #[.int .i64 (wrap64 ((k : Int) / (W : Int))), .int .i64 (wrap64 ((k : Int) % (W : Int) + 1)), .int .i64 0]) = _
  rw [div_w k W hk, mod_w k W hk]
set_option maxHeartbeats 1000000 in
theorem place_no (i W : Int) (h : ¬ IsW W ∨ i < 1 ∨ 1024 < i) (w : World) (ht : Wid w) :
    Calls Tryd.prog 19 #[.int .i64 i, .int .i64 W] w fun e w' => e = .returned (.tuple #[.int .i64 0, .int .i64 0, .int .i64 2]) ∧ w' = w := by
  by_cases hW : IsW W
  · have h' : i < 1 ∨ 1024 < i := by rcases h with h | h; exact absurd hW h; exact h
    clear h
    go_enter Tryd.func19, Tryd.ntmps19
    go_wp2_with (first
      | (go_at_call 20; refine (wide_yes W hW _ ht).mono ?_; rintro e w1 ⟨rfl, rfl⟩)
      | (go_at_call 29; refine (isId_no _ h' _).mono ?_; rintro e w1 ⟨rfl, rfl⟩))
    go_returns
    exact ⟨rfl, rfl⟩
  · clear h
    go_enter Tryd.func19, Tryd.ntmps19
    go_wp2_with (go_at_call 20; refine (wide_no W hW _ ht).mono ?_; rintro e w1 ⟨rfl, rfl⟩)
    go_returns
    exact ⟨rfl, rfl⟩

/-- What Id answers. -/
def idV (s b W : Int) : Value := if (W = 8 ∨ W = 16 ∨ W = 32 ∨ W = 64 ∨ W = 128 ∨ W = 256) ∧ (0 ≤ s ∧ s < 128) ∧ 1 ≤ b ∧ b ≤ W then (if s * W + b ≤ 1024 then .tuple #[.int .i64 (s * W + b), .int .i64 0] else .tuple #[.int .i64 0, .int .i64 3]) else .tuple #[.int .i64 0, .int .i64 2]
set_option maxHeartbeats 1000000 in
theorem id_any (s b W : Int) (w : World) (ht : Wid w) :
    Calls Tryd.prog 33 #[.int .i64 s, .int .i64 b, .int .i64 W] w fun e w' => e = .returned (idV s b W) ∧ w' = w := by
  by_cases hW : IsW W
  · by_cases hs : 0 ≤ s ∧ s < 128
    · by_cases hb1 : 1 ≤ b
      · by_cases hb2 : b ≤ W
        · have hWb : 8 ≤ W ∧ W ≤ 256 := by unfold IsW at hW; omega
          have hm : 0 ≤ s * W ∧ s * W ≤ 127 * 256 := ⟨Int.mul_nonneg hs.1 (by omega), Int.mul_le_mul (by omega) (by omega) (by omega) (by omega)⟩
          obtain ⟨m, hm'⟩ : ∃ m, s * W = m := ⟨_, rfl⟩
          unfold idV
          rw [if_pos ⟨hW, hs, hb1, hb2⟩, hm']
          rw [hm'] at hm
          have q1 : IntKind.i64.wrap (s * W) = m := by rw [hm', IntKind.wrap_i64]; omega
          have q1' : wrap64 (s * W) = m := by rw [hm']; unfold wrap64; omega
          have q2 : wrap64 (m + b) = m + b := by unfold wrap64; omega
          have Hm := hidIn hm'
          clear hm'
          by_cases hl : m + b ≤ 1024
          · rw [if_pos hl]
            go_enter Tryd.func33, Tryd.ntmps33
            go_wp2_with (first
              | (go_at_call 20; refine (wide_yes W hW _ ht).mono ?_; rintro e w1 ⟨rfl, rfl⟩)
              | (go_at_call 21; refine (isSet_yes _ hs.1 hs.2 _).mono ?_; rintro e w1 ⟨rfl, rfl⟩)
              | (go_at_call 29; refine (isId_yes _ (by omega) (by omega) _).mono ?_; rintro e w1 ⟨rfl, rfl⟩))
            go_ret2
            exact ⟨rfl, rfl⟩
          · rw [if_neg hl]
            go_enter Tryd.func33, Tryd.ntmps33
            go_wp2_with (first
              | (go_at_call 20; refine (wide_yes W hW _ ht).mono ?_; rintro e w1 ⟨rfl, rfl⟩)
              | (go_at_call 21; refine (isSet_yes _ hs.1 hs.2 _).mono ?_; rintro e w1 ⟨rfl, rfl⟩)
              | (go_at_call 29; refine (isId_no _ (by omega) _).mono ?_; rintro e w1 ⟨rfl, rfl⟩))
            go_ret2
            exact ⟨rfl, rfl⟩
        · unfold idV
          rw [if_neg (by omega)]
          go_enter Tryd.func33, Tryd.ntmps33
          go_wp2_with (first
            | (go_at_call 20; refine (wide_yes W hW _ ht).mono ?_; rintro e w1 ⟨rfl, rfl⟩)
            | (go_at_call 21; refine (isSet_yes _ hs.1 hs.2 _).mono ?_; rintro e w1 ⟨rfl, rfl⟩))
          go_ret2
          exact ⟨rfl, rfl⟩
      · unfold idV
        rw [if_neg (by omega)]
        go_enter Tryd.func33, Tryd.ntmps33
        go_wp2_with (first
          | (go_at_call 20; refine (wide_yes W hW _ ht).mono ?_; rintro e w1 ⟨rfl, rfl⟩)
          | (go_at_call 21; refine (isSet_yes _ hs.1 hs.2 _).mono ?_; rintro e w1 ⟨rfl, rfl⟩))
        go_ret2
        exact ⟨rfl, rfl⟩
    · have hs' : s < 0 ∨ 128 ≤ s := by omega
      unfold idV
      rw [if_neg (by intro h; exact hs h.2.1)]
      clear hs
      go_enter Tryd.func33, Tryd.ntmps33
      go_wp2_with (first
        | (go_at_call 20; refine (wide_yes W hW _ ht).mono ?_; rintro e w1 ⟨rfl, rfl⟩)
        | (go_at_call 21; refine (isSet_no _ hs' _).mono ?_; rintro e w1 ⟨rfl, rfl⟩))
      go_ret2
      exact ⟨rfl, rfl⟩
  · unfold idV
    rw [if_neg (by intro h; exact hW h.1)]
    go_enter Tryd.func33, Tryd.ntmps33
    go_wp2_with (go_at_call 20; refine (wide_no W hW _ ht).mono ?_; rintro e w1 ⟨rfl, rfl⟩)
    go_ret2
    exact ⟨rfl, rfl⟩
end Go.Proofs.YtjcbbifjhoemaaaDoor
