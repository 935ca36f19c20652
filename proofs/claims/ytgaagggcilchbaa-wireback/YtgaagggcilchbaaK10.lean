/- wire.Seal. -/
import Derived.Test.YtgaagggcilchbaaK9
import Derived.Test.YtgaagggcilchbaaK2
import Derived.Test.YtgaagggcilchbaaL6
namespace Go.Proofs.Ytgaagggcilchbaa
open Go.RowKit

/-- Bytes with their sum behind, as a string. -/
def sealS (b : ByteArray) : ByteArray := ⟨(sealed b.data.toList).toArray⟩
theorem sealS_data (b : ByteArray) : (sealS b).data.toList = sealed b.data.toList := rfl
theorem sealS_size (b : ByteArray) : (sealS b).size = b.size + 2 := by
  have h := sealed_length b.data.toList
  have h1 : (sealS b).size = (sealed b.data.toList).length := by unfold sealS; simp only [ByteArray.size, List.size_toArray]
  have h2 : b.data.toList.length = b.size := by simp
  omega
theorem layN_2 (v : Nat) : layN v 2 = [((v / 256 % 256 : Nat) : Int), ((v % 256 : Nat) : Int)] := by simp [layN, List.range_succ]
theorem ext_bytes {a b : ByteArray} (h : a.data.toList = b.data.toList) : a = b := by
  cases a; cases b; simp at h; simp [h]
theorem seal_eq (b : ByteArray) : b ++ strOfNums (layN (crc 65535 b.data.toList) 2) = sealS b := by
  have hS : crc 65535 b.data.toList < 65536 := crc_lt (by decide) _
  apply ext_bytes
  rw [app_toList, sealS_data, layN_2, strOfNums_data]
  unfold sealed
  generalize crc 65535 b.data.toList = S at hS
  have h1 : S / 256 % 256 = S / 256 := by omega
  rw [h1]
  simp only [List.map_cons, List.map_nil, Int.toNat_natCast]

set_option maxHeartbeats 400000 in
theorem seal_any (b : ByteArray) (hb : b.size ≤ 1000000000000000) (w : World) :
    Calls Try.prog 15 #[.string b] w fun e w' => e = .returned (.string (sealS b)) ∧ Below w.heap.size w w' := by
  have hm : b.size ≤ maxLen := by unfold maxLen; omega
  have hS : sumF (strs #[.string b]) 1 < 65536 := sumF_lt _ _
  have HE := hidIn (show sumF (strs #[.string b]) 1 = crc 65535 b.data.toList from rfl)
  go_enter Try.func15, Try.ntmps15
  go_wp2_with (go_at_call 18; refine (sum_new _ _ _ _ _ _ (by simp) (by rfl) (by decide) (by exact ⟨hm, trivial⟩)).mono ?_; rintro e w3 ⟨rfl, rfl⟩)
  generalize sumF (strs #[.string b]) 1 = S at hS HE ⊢
  have hq : ¬ 9223372036854775807 < b.size + (strOfNums (layN S 2)).size := by rw [strOfNums_size, layN_length]; omega
  go_wp2_with (go_at_call 20; refine (lay_lit2 S (by omega) _).mono ?_; rintro e w1 ⟨rfl, hb1⟩)
  go_ret
  refine ⟨?_, ((Below.refl _ _).alloc (Nat.le_refl _) _).trans (hb1.mono (by simp))⟩
  rw [← seal_eq, ← HE.out]
  rfl
end Go.Proofs.Ytgaagggcilchbaa
