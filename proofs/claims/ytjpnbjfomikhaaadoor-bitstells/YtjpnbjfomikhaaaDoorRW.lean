/- What is asked of one bit string: both answers. -/
import Derived.Test.YtjpnbjfomikhaaaDoorRV
import Derived.Test.YtjpnbjfomikhaaaDoorLL
import Derived.Test.YtjpnbjfomikhaaaDoorLP
import Derived.Test.YtjpnbjfomikhaaaDoorO3
namespace Go.Proofs.YtjpnbjfomikhaaaDoor
open Go.RowKit

theorem bit_or (n : Int) : (n < 1 ∨ 256 < n) ∨ ∃ m : Nat, m < 256 ∧ n = (m : Int) + 1 := by
  by_cases h : n < 1 ∨ 256 < n
  · exact .inl h
  · exact .inr ⟨(n - 1).toNat, by omega, by omega⟩
theorem has_both (N : Nat) (hN : N < 2 ^ 256) (n : Int) : ∃ r : Bool, (∀ w, Calls Tryd.prog 5 #[bs N, .int .i64 n] w fun e w' => e = .returned (.bool r) ∧ Below w.heap.size w w') ∧ (∀ w, Calls Tryd.prog 6 #[bs N, .int .i64 n] w fun e w' => e = .returned (.bool r) ∧ Below w.heap.size w w') := by
  rcases bit_or n with h | ⟨m, hm, rfl⟩
  · exact ⟨_, fun w => has_no N n h w, fun w => rhas_off N n h w⟩
  · exact ⟨_, fun w => has_yes N hN m hm w, fun w => rhas_any N m hm w⟩
theorem lowest_both (N : Nat) (hN : N < 2 ^ 256) : ∃ r : Int, (∀ w, Tabs w → Calls Tryd.prog 7 #[bs N] w fun e w' => e = .returned (.int .i64 r) ∧ Below w.heap.size w w') ∧ (∀ w, Calls Tryd.prog 8 #[bs N] w fun e w' => e = .returned (.int .i64 r) ∧ Below w.heap.size w w') := by
  cases hl : lst N with
  | nil =>
    obtain rfl := lst_nil hN hl
    exact ⟨_, fun w _ => lowest_zero w, fun w => rlowest_zero w⟩
  | cons m r => exact ⟨_, fun w ht => lowest_any N m (least_of_lst hl) w ht, fun w => rlowest_some N m (by rw [hl]; rfl) w⟩
theorem count_both (N : Nat) : ∃ r : Int, (∀ w, Calls Tryd.prog 9 #[bs N] w fun e w' => e = .returned (.int .i64 r) ∧ Below w.heap.size w w') ∧ (∀ w, Calls Tryd.prog 10 #[bs N] w fun e w' => e = .returned (.int .i64 r) ∧ Below w.heap.size w w') := by
  have h := rcount_any N
  rw [lst_length] at h
  exact ⟨_, fun w => count_any N w, h⟩
theorem below_both (N : Nat) (hN : N < 2 ^ 256) (n : Int) : ∃ r : Bool, (∀ w, Calls Tryd.prog 11 #[bs N, .int .i64 n] w fun e w' => e = .returned (.bool r) ∧ Below w.heap.size w w') ∧ (∀ w, Calls Tryd.prog 12 #[bs N, .int .i64 n] w fun e w' => e = .returned (.bool r) ∧ Below w.heap.size w w') := by
  by_cases h : n < 0 ∨ 256 < n
  · exact ⟨_, fun w => below_no N hN n (by omega) w, fun w => rbelow_off N n h w⟩
  · by_cases h2 : (bl N : Int) ≤ n
    · refine ⟨true, fun w => below_yes N hN n (by omega) (by omega) h2 w, fun w => ?_⟩
      by_cases hz : N = 0
      · subst hz; exact rbelow_zero n (by omega) (by omega) w
      · exact rbelow_yes N hN hz n (by omega) (by omega) h2 w
    · exact ⟨_, fun w => below_no N hN n (by omega) w, fun w => rbelow_long N hN n (by omega) (by omega) (by omega) w⟩
theorem text_both (N : Nat) (hN : N < 2 ^ 256) : ∃ r : ByteArray, (∀ w, Tabs w → Calls Tryd.prog 13 #[bs N] w fun e w' => e = .returned (.string r) ∧ Below w.heap.size w w') ∧ (∀ w, Calls Tryd.prog 14 #[bs N] w fun e w' => e = .returned (.string r) ∧ Below w.heap.size w w') := by
  by_cases hz : N = 0
  · subst hz; exact ⟨_, fun w _ => text_none w, fun w => rtext_none w⟩
  · exact ⟨_, fun w ht => text_some N hN hz w ht, fun w => rtext_some N hN hz w⟩
theorem with_both (N : Nat) (n : Int) : ∃ (M : Nat) (x : Int), (∀ w, Calls Tryd.prog 15 #[bs N, .int .i64 n] w fun e w' => e = .returned (.tuple #[bs M, .int .i64 x]) ∧ Below w.heap.size w w') ∧ (∀ w, Calls Tryd.prog 16 #[bs N, .int .i64 n] w fun e w' => e = .returned (.tuple #[bs M, .int .i64 x]) ∧ Below w.heap.size w w') := by
  rcases bit_or n with h | ⟨m, hm, rfl⟩
  · exact ⟨_, _, fun w => with_no N n h w, fun w => rwith_no N n h w⟩
  · exact ⟨_, _, fun w => with_yes N m hm w, fun w => rwith_yes N m hm w⟩
theorem without_both (N : Nat) (hN : N < 2 ^ 256) (n : Int) : ∃ (M : Nat) (x : Int), (∀ w, Calls Tryd.prog 17 #[bs N, .int .i64 n] w fun e w' => e = .returned (.tuple #[bs M, .int .i64 x]) ∧ Below w.heap.size w w') ∧ (∀ w, Calls Tryd.prog 18 #[bs N, .int .i64 n] w fun e w' => e = .returned (.tuple #[bs M, .int .i64 x]) ∧ Below w.heap.size w w') := by
  rcases bit_or n with h | ⟨m, hm, rfl⟩
  · exact ⟨_, _, fun w => without_no N n h w, fun w => rwithout_no N n h w⟩
  · exact ⟨_, _, fun w => without_yes N m hm w, fun w => rwithout_yes N m hN hm w⟩
/-- Two lists of bits, the same: what the law's comparison answers. -/
theorem same_bits {W : World} {b1 b2 : Nat} {l : List Nat} {a b : Option Addr} {c d : Nat} (hl : l.length ≤ 256) (h1 : BitsAt W b1 a l) (h2 : BitsAt W b2 b l) :
    Calls Tryd.prog 20 #[.slice a l.length c, .slice b l.length d] W fun e w' => e = .returned (.bool true) ∧ Below W.heap.size W w' := by
  cases l with
  | nil => exact same_nil a b c d W
  | cons m r =>
    obtain ⟨g1, rfl, _⟩ := h1 0 m rfl
    obtain ⟨g2, rfl, _⟩ := h2 0 m rfl
    have key : ∀ {base g : Nat}, BitsAt W base (some ⟨g, 0, none⟩) (m :: r) → ∀ j, j < ((m :: r).map fun x : Nat => ((x : Int) + 1)).length → W.cell? ⟨g, 0 + j, none⟩ = some (.int .i64 ((((m :: r).map fun x : Nat => ((x : Int) + 1))[j]?).getD 0)) := fun h j hj => by
      rw [List.length_map] at hj
      obtain ⟨g', e, _, _, hc⟩ := h j _ (List.getElem?_eq_getElem hj)
      cases e
      rw [Nat.zero_add, hc, List.getElem?_map, List.getElem?_eq_getElem hj]
      rfl
    have := same_yes ((m :: r).map fun x : Nat => ((x : Int) + 1)) g1 0 c g2 0 d W (by rw [List.length_map]; omega) (key h1) (key h2)
    rw [List.length_map] at this
    exact this
theorem list_bits (N : Nat) (hN : N < 2 ^ 256) (w : World) (ht : Tabs w) :
    Calls Tryd.prog 21 #[bs N] w fun e w' => (∃ a cap, e = .returned (.slice a (lst N).length cap) ∧ BitsAt w' 0 a (lst N)) ∧ Below w.heap.size w w' := by
  refine (list_cells N hN w ht).mono ?_
  rintro e w' ⟨a, cap, rfl, hc, hb⟩
  refine ⟨⟨a, cap, rfl, fun j m hj => ?_⟩, hb⟩
  obtain ⟨g, rfl, h1, h2⟩ := hc j m hj
  exact ⟨g, rfl, Nat.zero_le _, h1, h2⟩
end Go.Proofs.YtjpnbjfomikhaaaDoor
