/- Decode of any bytes: it refuses, or they are a header's. -/
import Derived.Test.YtgfmlonhjmdfjaaDoorH16
namespace Go.Proofs.YtgfmlonhjmdfjaaDoor
open Go.RowKit

theorem byteOf_numTo (s : ByteArray) (k i : Nat) (h : i < k) : byteOf (numTo s k) i = byteAt s i := by
  apply Nat.eq_of_testBit_eq
  intro j
  unfold byteOf
  rw [show (256 : Nat) = 2 ^ 8 from rfl, Nat.testBit_mod_two_pow, Nat.testBit_div_two_pow, testBit_numTo]
  by_cases hj : j < 8
  · have h1 : j + 8 * i < 8 * k := by omega
    have h2 : (j + 8 * i) / 8 = i := by omega
    have h3 : (j + 8 * i) % 8 = j := by omega
    simp [hj, h1, h2, h3]
  · rw [testBit_byteAt s i j (by omega)]
    simp [hj]
theorem u8_back (x : UInt8) : UInt8.ofNat (x.toNat % 256) = x := by
  have h : x.toNat % 256 = x.toNat := Nat.mod_eq_of_lt x.toNat_lt
  rw [h, UInt8.ofNat_toNat]
theorem bitsS_numTo (s : ByteArray) (k : Nat) (h : s.size = k) : bitsS (numTo s k) k = s := by
  apply Wi.ext_bytes
  rw [bitsS_data]
  apply List.ext_getElem?
  intro i
  unfold bitsL
  rw [List.getElem?_map]
  by_cases hi : i < k
  · rw [List.getElem?_range hi, Option.map_some, byteOf_numTo s k i hi]
    unfold byteAt
    rw [dif_pos (by omega), UInt8.ofNat_toNat, List.getElem?_eq_getElem (by simpa using (show i < s.size by omega))]
    rfl
  · rw [List.getElem?_eq_none (by simpa using hi), List.getElem?_eq_none (by simp; omega)]
    rfl
theorem thirteen {α : Type} {l : List α} (h : 13 ≤ l.length) : ∃ a0 a1 a2 a3 a4 a5 a6 a7 a8 a9 b0 b1 b2 r, l = a0 :: a1 :: a2 :: a3 :: a4 :: a5 :: a6 :: a7 :: a8 :: a9 :: b0 :: b1 :: b2 :: r := by
  match l, h with
  | a0 :: a1 :: a2 :: a3 :: a4 :: a5 :: a6 :: a7 :: a8 :: a9 :: b0 :: b1 :: b2 :: r, _ => exact ⟨a0, a1, a2, a3, a4, a5, a6, a7, a8, a9, b0, b1, b2, r, rfl⟩
theorem four_back (a b c d : UInt8) : UInt8.ofNat ((((a.toNat * 256 + b.toNat) * 256 + c.toNat) * 256 + d.toNat) / 16777216 % 256) = a ∧ UInt8.ofNat ((((a.toNat * 256 + b.toNat) * 256 + c.toNat) * 256 + d.toNat) / 65536 % 256) = b ∧
    UInt8.ofNat ((((a.toNat * 256 + b.toNat) * 256 + c.toNat) * 256 + d.toNat) / 256 % 256) = c ∧ UInt8.ofNat ((((a.toNat * 256 + b.toNat) * 256 + c.toNat) * 256 + d.toNat) % 256) = d := by
  have ha := a.toNat_lt; have hb := b.toNat_lt; have hc := c.toNat_lt; have hd := d.toNat_lt
  have e1 : (((a.toNat * 256 + b.toNat) * 256 + c.toNat) * 256 + d.toNat) / 16777216 % 256 = a.toNat := by omega
  have e2 : (((a.toNat * 256 + b.toNat) * 256 + c.toNat) * 256 + d.toNat) / 65536 % 256 = b.toNat := by omega
  have e3 : (((a.toNat * 256 + b.toNat) * 256 + c.toNat) * 256 + d.toNat) / 256 % 256 = c.toNat := by omega
  have e4 : (((a.toNat * 256 + b.toNat) * 256 + c.toNat) * 256 + d.toNat) % 256 = d.toNat := by omega
  rw [e1, e2, e3, e4]
  simp only [UInt8.ofNat_toNat, and_self]
theorem body_back (b : ByteArray) (c k : Nat) (hs : b.size = 13 + k) (hc : Wi.tk b 0 1 = 16 + c) :
    bodyS c (Wi.tk b 1 1) (Wi.tk b 2 4) (Wi.tk b 6 1) (Wi.tk b 7 1) (Wi.tk b 8 1) (Wi.tk b 9 4) (dN b k) k = b := by
  apply Wi.ext_bytes
  rw [bodyS_data]
  have hl : b.data.toList.length = b.size := by simp
  have hr : (b.extract 13 b.size).data.toList = b.data.toList.drop 13 := by rw [extract_data, List.take_of_length_le (by omega)]
  have hz : (b.extract 13 b.size).size = k := by simp; omega
  have hbits : bitsL (dN b k) k = b.data.toList.drop 13 := by
    rw [← bitsS_data, ← hr]
    unfold dN
    rw [bitsS_numTo _ _ hz]
  rw [hbits]
  simp only [tk1, tk4] at hc ⊢
  obtain ⟨a0, a1, a2, a3, a4, a5, a6, a7, a8, a9, b0, b1, b2, r, hb⟩ := thirteen (l := b.data.toList) (by omega)
  rw [hb] at hc ⊢
  simp only [List.getD_cons_zero, List.getD_cons_succ, Nat.reduceAdd] at hc ⊢
  obtain ⟨p1, p2, p3, p4⟩ := four_back a2 a3 a4 a5
  obtain ⟨q1, q2, q3, q4⟩ := four_back a9 b0 b1 b2
  rw [p1, p2, p3, p4, q1, q2, q3, q4, ← hc, u8_back, u8_back, u8_back, u8_back, u8_back]
  rfl

/-- **Any bytes: Decode refuses them, or they are those of the header that it tells.** -/
theorem dec_any (Y : ByteArray) (hY : Y.size ≤ 140737488351232) :
    (∃ x : Int, (x = 4 ∨ x = 5) ∧ ∀ w, Wid w → Calls Tryd.prog 18 #[.string Y] w fun e w' => e = .returned (.tuple #[hd0, .int .i64 x]) ∧ Below w.heap.size w w') ∨
    (∃ c S E H O G I N k : Nat, Good c S E H O G I N k ∧ Y = encS c S E H O G I N k ∧ ∀ w, Wid w → Calls Tryd.prog 18 #[.string Y] w fun e w' => e = .returned (.tuple #[hd (8 * (k : Int)) S E H O G I N, .int .i64 0]) ∧ Below w.heap.size w w') := by
  by_cases hn : NoW Y
  · exact .inl ⟨4, .inl rfl, fun w ht => decode_now Y hn w ht⟩
  · obtain ⟨h0, c, hc, h1⟩ : ∃ h0 : 0 < Y.size, ∃ c, c ≤ 5 ∧ Y[0].toNat = 16 + c := by
      have h0 : 0 < Y.size := by
        rcases Nat.eq_zero_or_pos Y.size with e | e
        · exact absurd (.inl e) hn
        · exact e
      have h2 : ¬ (Y[0].toNat < 16 ∨ 22 ≤ Y[0].toNat) := fun e => hn (.inr ⟨h0, e⟩)
      exact ⟨h0, Y[0].toNat - 16, by omega, by omega⟩
    by_cases hl : Y.size = 15 + 2 ^ c
    · have hk := k_bd hc
      obtain ⟨b, hb⟩ : ∃ b, b = Y.extract 0 (Y.size - 2) := ⟨_, rfl⟩
      have hbs : b.size = 13 + 2 ^ c := by rw [hb, Wi.ahead_size]; omega
      by_cases hs : Wi.sealS (Y.extract 0 (Y.size - 2)) = Y
      · have he : Wi.sealS b = Y := by rw [hb]; exact hs
        by_cases hok : OkB b (2 ^ c)
        · right
          have h00 : Wi.tk b 0 1 = 16 + c := by
            rw [← h1, first_eq Y h0, tk1, tk1, ← he, Wi.sealS_data]
            unfold Wi.sealed
            have hbl : b.data.toList.length = b.size := by simp
            rw [List.getD_eq_getElem?_getD, List.getD_eq_getElem?_getD, List.getElem?_append_left (by omega)]
          have hbb := body_back b c (2 ^ c) hbs h00
          have hok' := hok
          obtain ⟨o1, o2, o3, o4, o5, o6⟩ := hok
          refine ⟨c, _, _, _, _, _, _, _, 2 ^ c, ⟨hc, rfl, ?_, Wi.tk_lt b 2 4, ?_, ?_, ?_, ?_, Wi.tk_lt b 9 4, bl_le.1 (by omega)⟩, ?_, fun w ht => decode_ok' Y b c hc h0 h1 hl he hok' w ht⟩
          · omega
          · omega
          · omega
          · omega
          · omega
          · unfold encS
            rw [hbb, he]
        · exact .inl ⟨4, .inl rfl, fun w ht => decode_bad Y b c hc h0 h1 hl he hok w ht⟩
      · exact .inl ⟨5, .inr rfl, fun w ht => decode_sum Y c hc h0 h1 hl hs w ht⟩
    · exact .inl ⟨4, .inl rfl, fun w ht => decode_len Y c hc h0 h1 hl w ht⟩
end Go.Proofs.YtgfmlonhjmdfjaaDoor
