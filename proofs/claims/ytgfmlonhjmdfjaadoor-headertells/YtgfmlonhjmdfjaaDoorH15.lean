/- A header's bytes, there and back: plain lists and numbers. -/
import Derived.Test.YtgfmlonhjmdfjaaDoorH14
namespace Go.Proofs.YtgfmlonhjmdfjaaDoor
open Go.RowKit

theorem ly1_data (v : Nat) : (ly v 1).data.toList = [UInt8.ofNat (v % 256)] := by
  unfold ly
  rw [strOfNums_data]
  simp [Wi.layN, List.range_succ]
  congr 1
theorem ly4_data (v : Nat) : (ly v 4).data.toList = [UInt8.ofNat (v / 16777216 % 256), UInt8.ofNat (v / 65536 % 256), UInt8.ofNat (v / 256 % 256), UInt8.ofNat (v % 256)] := by
  unfold ly
  rw [strOfNums_data]
  simp [Wi.layN, List.range_succ]
  refine ⟨?_, ?_, ?_, ?_⟩ <;> congr 1
/-- The bytes of bits. -/
def bitsL (N k : Nat) : List UInt8 := (List.range k).map fun i => UInt8.ofNat (byteOf N i)
theorem bitsS_data (N k : Nat) : (bitsS N k).data.toList = bitsL N k := by
  unfold bitsS bitsL
  rw [strOfNums_data]
  simp
theorem bodyS_data (c S E H O G I N k : Nat) : (bodyS c S E H O G I N k).data.toList =
    UInt8.ofNat ((16 + c) % 256) :: UInt8.ofNat (S % 256) :: UInt8.ofNat (E / 16777216 % 256) :: UInt8.ofNat (E / 65536 % 256) :: UInt8.ofNat (E / 256 % 256) :: UInt8.ofNat (E % 256) :: UInt8.ofNat (H % 256) :: UInt8.ofNat (O % 256) :: UInt8.ofNat (G % 256) ::
    UInt8.ofNat (I / 16777216 % 256) :: UInt8.ofNat (I / 65536 % 256) :: UInt8.ofNat (I / 256 % 256) :: UInt8.ofNat (I % 256) :: bitsL N k := by
  unfold bodyS
  simp only [Wi.app_toList, ly1_data, ly4_data, bitsS_data]
  rfl
theorem tk1 (b : ByteArray) (a : Nat) : Wi.tk b a 1 = (b.data.toList.getD a 0).toNat := by simp [Wi.tk]
theorem tk4 (b : ByteArray) (a : Nat) : Wi.tk b a 4 = (((b.data.toList.getD a 0).toNat * 256 + (b.data.toList.getD (a + 1) 0).toNat) * 256 + (b.data.toList.getD (a + 2) 0).toNat) * 256 + (b.data.toList.getD (a + 3) 0).toNat := by simp [Wi.tk]
theorem u8_mod (n : Nat) : (UInt8.ofNat (n % 256)).toNat = n % 256 := by simp
theorem body_tk (c S E H O G I N k : Nat) (hc : c ≤ 5) (hS : S < 256) (hE : E < 4294967296) (hH : H < 256) (hO : O < 256) (hG : G < 256) (hI : I < 4294967296) :
    Wi.tk (bodyS c S E H O G I N k) 0 1 = 16 + c ∧ Wi.tk (bodyS c S E H O G I N k) 1 1 = S ∧ Wi.tk (bodyS c S E H O G I N k) 2 4 = E ∧ Wi.tk (bodyS c S E H O G I N k) 6 1 = H ∧ Wi.tk (bodyS c S E H O G I N k) 7 1 = O ∧ Wi.tk (bodyS c S E H O G I N k) 8 1 = G ∧ Wi.tk (bodyS c S E H O G I N k) 9 4 = I := by
  simp only [tk1, tk4, bodyS_data]
  simp only [List.getD_cons_zero, List.getD_cons_succ, u8_mod, Nat.reduceAdd]
  refine ⟨?_, ?_, ?_, ?_, ?_, ?_, ?_⟩ <;> omega
theorem extract_data (b : ByteArray) (i j : Nat) : (b.extract i j).data.toList = (b.data.toList.take j).drop i := by
  rw [ByteArray.data_extract, Array.toList_extract, List.extract_eq_take_drop]
  rw [List.drop_take]
theorem body_rest (c S E H O G I N k : Nat) : (bodyS c S E H O G I N k).extract 13 (bodyS c S E H O G I N k).size = bitsS N k := by
  apply Wi.ext_bytes
  rw [extract_data, List.take_of_length_le (by simp), bodyS_data, bitsS_data]
  rfl
theorem byteAt_bitsS (N k i : Nat) (h : i < k) : byteAt (bitsS N k) i = byteOf N i := by
  have hs := bitsS_size N k
  unfold byteAt
  rw [dif_pos (by omega)]
  have e : (bitsS N k)[i]'(by omega) = (bitsS N k).data.toList[i]'(by simpa using (show i < (bitsS N k).size by omega)) := rfl
  rw [e]
  have e2 : (bitsS N k).data.toList = bitsL N k := bitsS_data N k
  simp only [e2, bitsL, List.getElem_map, List.getElem_range]
  have := Nat.mod_lt (N / 2 ^ (8 * i)) (show 0 < 256 by decide)
  simp [byteOf]
theorem numTo_bitsS (N k : Nat) : numTo (bitsS N k) k = N % 2 ^ (8 * k) := by
  apply Nat.eq_of_testBit_eq
  intro j
  rw [testBit_numTo, Nat.testBit_mod_two_pow]
  by_cases h : j < 8 * k
  · rw [byteAt_bitsS N k (j / 8) (by omega)]
    unfold byteOf
    rw [show (256 : Nat) = 2 ^ 8 from rfl, Nat.testBit_mod_two_pow, Nat.testBit_div_two_pow]
    have h1 : j % 8 < 8 := Nat.mod_lt _ (by decide)
    have h2 : j % 8 + 8 * (j / 8) = j := by omega
    simp [h, h1, h2]
  · simp [h]
theorem body_dN (c S E H O G I N k : Nat) (hN : N < 2 ^ (8 * k)) : dN (bodyS c S E H O G I N k) k = N := by
  unfold dN
  rw [body_rest, numTo_bitsS, Nat.mod_eq_of_lt hN]
end Go.Proofs.YtgfmlonhjmdfjaaDoor
