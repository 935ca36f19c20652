/- dandelionlaw04.SetsPlaces. -/
import Derived.Test.YtpjbfijmlbbipaaDoorS8
namespace Go.Proofs.YtpjbfijmlbbipaaDoor
open Go.RowKit

theorem place_same (i W : Int) : ∃ a b c : Int, (∀ w, Wid w → Calls Tryd.prog 9 #[.int .i64 i, .int .i64 W] w fun e w' => e = .returned (.tuple #[.int .i64 a, .int .i64 b, .int .i64 c]) ∧ Below w.heap.size w w') ∧
    (∀ w, Calls Tryd.prog 10 #[.int .i64 i, .int .i64 W] w fun e w' => e = .returned (.tuple #[.int .i64 a, .int .i64 b, .int .i64 c]) ∧ Below w.heap.size w w') := by
  by_cases h : IsW W ∧ 1 ≤ i ∧ i ≤ 1024
  · obtain ⟨hW, h1, h2⟩ := h
    obtain ⟨V, rfl⟩ := Int.eq_ofNat_of_zero_le (show 0 ≤ W by unfold IsW at hW; omega)
    obtain ⟨k, hk⟩ := Int.eq_ofNat_of_zero_le (show 0 ≤ i - 1 by omega)
    obtain rfl : i = (k : Int) + 1 := by omega
    exact ⟨_, _, _, fun w ht => place_yes k V (by omega) hW w ht, fun w => rplace_yes k V (by omega) hW w⟩
  · have h' : ¬ IsW W ∨ i < 1 ∨ 1024 < i := by
      by_cases hW : IsW W
      · right
        by_cases h1 : 1 ≤ i
        · right
          by_cases h2 : i ≤ 1024
          · exact absurd ⟨hW, h1, h2⟩ h
          · omega
        · left; omega
      · exact .inl hW
    exact ⟨0, 0, 2, fun w ht => (place_no i W h' w ht).mono (fun _ _ ⟨he, hw⟩ => ⟨he, by rw [hw]; exact Below.refl _ _⟩), fun w => (rplace_no i W h' w).mono (fun _ _ ⟨he, hw⟩ => ⟨he, by rw [hw]; exact Below.refl _ _⟩)⟩
theorem id_form (s b W : Int) : ∃ n e : Int, idV s b W = .tuple #[.int .i64 n, .int .i64 e] := by
  unfold idV
  split
  · split
    · exact ⟨_, _, rfl⟩
    · exact ⟨_, _, rfl⟩
  · exact ⟨_, _, rfl⟩
set_option maxHeartbeats 2000000 in
theorem places_core (i A B W a b c n e : Int) (HP : Hid (∀ w, Wid w → Calls Tryd.prog 9 #[.int .i64 i, .int .i64 W] w fun e w' => e = .returned (.tuple #[.int .i64 a, .int .i64 b, .int .i64 c]) ∧ Below w.heap.size w w'))
    (HQ : Hid (∀ w, Calls Tryd.prog 10 #[.int .i64 i, .int .i64 W] w fun e w' => e = .returned (.tuple #[.int .i64 a, .int .i64 b, .int .i64 c]) ∧ Below w.heap.size w w'))
    (HI : Hid (∀ w, Wid w → Calls Tryd.prog 11 #[.int .i64 A, .int .i64 B, .int .i64 W] w fun x w' => x = .returned (.tuple #[.int .i64 n, .int .i64 e]) ∧ w' = w))
    (HJ : Hid (∀ w, Calls Tryd.prog 12 #[.int .i64 A, .int .i64 B, .int .i64 W] w fun x w' => x = .returned (.tuple #[.int .i64 n, .int .i64 e]) ∧ w' = w))
    (w : World) (ht : Wid w) :
    Calls Tryd.prog 3 #[.int .i64 i, .agg #[.int .i64 A, .int .i64 B], .int .i64 W] w fun e w' => e = .returned (.bool true) ∧ Below w.heap.size w w' := by
  have b0 : Below w.heap.size w (w.alloc (.cells #[.int .i64 A, .int .i64 B] 22)) := (Below.refl _ w).alloc (Nat.le_refl _) _
  have hh := heap_alloc_last w (.cells #[.int .i64 A, .int .i64 B] 22)
  have ht0 := ht.keep b0
  have c0 := cell_of_row _ _ 0 _ _ _ hh
  have c1 := cell_of_row _ _ 1 _ _ _ hh
  clear hh
  go_enter Tryd.func3, Tryd.ntmps3
  go_wp2_with (first
    | (go_at_call 9; refine (HP.out _ ht0).mono ?_; rintro e w1 ⟨rfl, hb1⟩; have ht1 := ht0.keep hb1)
    | (go_at_call 10; refine (HQ.out _).mono ?_; rintro e w2 ⟨rfl, hb2⟩; have ht2 := ht1.keep hb2; have d0 := (hb2.cell (p := ⟨w.heap.size, 0, none⟩) (show w.heap.size < w1.heap.size from by have := hb1.size; simp at this; omega)).trans ((hb1.cell (p := ⟨w.heap.size, 0, none⟩) (show w.heap.size < _ by simp)).trans c0); have d1 := (hb2.cell (p := ⟨w.heap.size, 1, none⟩) (show w.heap.size < w1.heap.size from by have := hb1.size; simp at this; omega)).trans ((hb1.cell (p := ⟨w.heap.size, 1, none⟩) (show w.heap.size < _ by simp)).trans c1); simp at d0 d1)
    | (go_at_call 11; refine (HI.out _ ht2).mono ?_; rintro e w3 ⟨rfl, rfl⟩)
    | (go_at_call 12; refine (HJ.out _).mono ?_; rintro e w4 ⟨rfl, rfl⟩)
    | (go_at_call 13; refine (works_any _ ht2).mono ?_; rintro e w5 ⟨rfl, hb5⟩))
  go_ret
  refine ⟨rfl, ?_⟩
  have s1 := hb1.size
  have s2 := hb2.size
  simp at s1
  exact ((b0.trans (hb1.mono (by simp))).trans (hb2.mono (by omega))).trans (hb5.mono (by omega))
theorem places_walk (i A B W : Int) (w : World) (ht : Wid w) :
    Calls Tryd.prog 3 #[.int .i64 i, .agg #[.int .i64 A, .int .i64 B], .int .i64 W] w fun e w' => e = .returned (.bool true) ∧ Below w.heap.size w w' := by
  obtain ⟨a, b, c, h1, h2⟩ := place_same i W
  obtain ⟨n, e, h3⟩ := id_form A B W
  exact places_core i A B W a b c n e (hidIn h1) (hidIn h2) (hidIn (by rw [← h3]; exact fun w ht => id_any A B W w ht)) (hidIn (by rw [← h3]; exact fun w => rid_any A B W w)) w ht
end Go.Proofs.YtpjbfijmlbbipaaDoor
