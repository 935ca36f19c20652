/- The law BitsKnown, walked: its parts. -/
import Derived.Test.YtlfmceochemeaabDoorLC
import Derived.Test.YtlfmceochemeaabDoorP4
namespace Go.Proofs.YtlfmceochemeaabDoor
open Go.RowKit Go.Shelf

theorem itoa_1 (n : Nat) (h : n < 10) : Lib.itoa (n : Int) = [UInt8.ofNat (48 + n)] := by
  unfold Lib.itoa
  rw [if_neg (by omega), Int.toNat_natCast, Lib.decDigits_one h]
theorem itoa_257 : Lib.itoa 257 = [50, 53, 55] := by
  unfold Lib.itoa
  rw [if_neg (by decide), show (257 : Int).toNat = 257 from rfl, Lib.decDigits, dif_neg (by decide), Lib.decDigits, dif_neg (by decide), Lib.decDigits, dif_pos (by decide)]
  decide
theorem num_1 (m : Nat) (h : m + 1 < 10) : num m = [UInt8.ofNat (48 + (m + 1))] := by unfold num; rw [Lib.decDigits_one h]
theorem bad_none (s : ByteArray) (la : Int) (hl : s.size ≤ 18) (ha : Lib.atoi s.data.toList = none) : Bad s la 0 false :=
  ⟨fun w _ he => number_none s hl ha w he, .inl rfl⟩
theorem bad_form (s : ByteArray) (la : Int) (n : Nat) (l : List UInt8) (hl : s.size ≤ 18) (ha : Lib.atoi s.data.toList = some (n : Int)) (hn : n ≤ 1000) (hi : Lib.itoa (n : Int) = l) (hne : l ≠ s.data.toList) : Bad s la 0 false := by
  refine ⟨fun w ht _ => ?_, .inl rfl⟩
  have := number_some s n hl ha (by omega) (by omega) false (by
    rw [hi, ByteArray.toList_eq, ByteArray.toList_eq]
    exact beq_eq_false_iff_ne.2 hne) w ht
  exact this
theorem bad_bit (s : ByteArray) (la : Int) (n : Nat) (hl : s.size ≤ 18) (ha : Lib.atoi s.data.toList = some (n : Int)) (hn : n ≤ 1000) (hi : Lib.itoa (n : Int) = s.data.toList) (hb : n = 0 ∨ 256 < n ∨ (1 ≤ n ∧ n ≤ 256 ∧ (n : Int) ≤ la)) : Bad s la n true := by
  refine ⟨fun w ht _ => ?_, ?_⟩
  · have := number_some s n hl ha (by omega) (by omega) true (by
      rw [hi]
      exact beq_self_eq_true _) w ht
    exact this
  · rcases hb with h | h | ⟨h1, h2, h3⟩
    · exact .inr (.inl ⟨rfl, by omega⟩)
    · exact .inr (.inl ⟨rfl, by omega⟩)
    · exact .inr (.inr ⟨rfl, by omega, by omega, h3⟩)
/-- The texts that are none. -/
def noTexts : Nat → ByteArray
  | 0 => ⟨#[]⟩
  | 1 => ⟨#[51, 32, 49]⟩
  | 2 => ⟨#[49, 32, 49]⟩
  | 3 => ⟨#[48, 49]⟩
  | 4 => ⟨#[50, 53, 55]⟩
  | 5 => ⟨#[48]⟩
  | 6 => ⟨#[49, 32, 32, 50]⟩
  | 7 => ⟨#[32, 49]⟩
  | 8 => ⟨#[49, 32]⟩
  | 9 => ⟨#[43, 49]⟩
  | _ => ⟨#[45, 45]⟩
theorem no_text (k : Nat) (hk : k < 11) : ((noTexts k).toList == [45]) = false ∧ (noTexts k).size ≤ 1000 ∧ (Bad0 (noTexts k) 0 ∨ Bad1 (noTexts k)) := by
  have hcs : k = 0 ∨ k = 1 ∨ k = 2 ∨ k = 3 ∨ k = 4 ∨ k = 5 ∨ k = 6 ∨ k = 7 ∨ k = 8 ∨ k = 9 ∨ k = 10 := by omega
  rw [ByteArray.toList_eq]
  rcases hcs with rfl | rfl | rfl | rfl | rfl | rfl | rfl | rfl | rfl | rfl | rfl
  · exact ⟨by decide, by decide, .inl ⟨⟨#[]⟩, ⟨#[]⟩, false, 0, false, by decide, bad_none _ _ (by decide) (by decide)⟩⟩
  · exact ⟨by decide, by decide, .inr ⟨2, ⟨#[49]⟩, by decide, by rw [num_1 2 (by decide)]; decide, by decide, ⟨#[49]⟩, ⟨#[]⟩, false, 1, true, by decide, bad_bit _ _ 1 (by decide) (by decide) (by decide) (by rw [itoa_1 1 (by decide)]; decide) (.inr (.inr (by decide)))⟩⟩
  · exact ⟨by decide, by decide, .inr ⟨0, ⟨#[49]⟩, by decide, by rw [num_1 0 (by decide)]; decide, by decide, ⟨#[49]⟩, ⟨#[]⟩, false, 1, true, by decide, bad_bit _ _ 1 (by decide) (by decide) (by decide) (by rw [itoa_1 1 (by decide)]; decide) (.inr (.inr (by decide)))⟩⟩
  · exact ⟨by decide, by decide, .inl ⟨⟨#[48, 49]⟩, ⟨#[]⟩, false, 0, false, by decide, bad_form _ _ 1 [49] (by decide) (by decide) (by decide) (by rw [itoa_1 1 (by decide)]; decide) (by decide)⟩⟩
  · exact ⟨by decide, by decide, .inl ⟨⟨#[50, 53, 55]⟩, ⟨#[]⟩, false, 257, true, by decide, bad_bit _ _ 257 (by decide) (by decide) (by decide) (by rw [show ((257 : Nat) : Int) = 257 from rfl, itoa_257]) (.inr (.inl (by decide)))⟩⟩
  · exact ⟨by decide, by decide, .inl ⟨⟨#[48]⟩, ⟨#[]⟩, false, 0, true, by decide, bad_bit _ _ 0 (by decide) (by decide) (by decide) (by rw [itoa_1 0 (by decide)]; decide) (.inl rfl)⟩⟩
  · exact ⟨by decide, by decide, .inr ⟨0, ⟨#[32, 50]⟩, by decide, by rw [num_1 0 (by decide)]; decide, by decide, ⟨#[]⟩, ⟨#[50]⟩, true, 0, false, by decide, bad_none _ _ (by decide) (by decide)⟩⟩
  · exact ⟨by decide, by decide, .inl ⟨⟨#[]⟩, ⟨#[49]⟩, true, 0, false, by decide, bad_none _ _ (by decide) (by decide)⟩⟩
  · exact ⟨by decide, by decide, .inr ⟨0, ⟨#[]⟩, by decide, by rw [num_1 0 (by decide)]; decide, by decide, ⟨#[]⟩, ⟨#[]⟩, false, 0, false, by decide, bad_none _ _ (by decide) (by decide)⟩⟩
  · exact ⟨by decide, by decide, .inl ⟨⟨#[43, 49]⟩, ⟨#[]⟩, false, 0, false, by decide, bad_form _ _ 1 [49] (by decide) (by decide) (by decide) (by rw [itoa_1 1 (by decide)]; decide) (by decide)⟩⟩
  · exact ⟨by decide, by decide, .inl ⟨⟨#[45, 45]⟩, ⟨#[]⟩, false, 0, false, by decide, bad_none _ _ (by decide) (by decide)⟩⟩
end Go.Proofs.YtlfmceochemeaabDoor
