/- RecordAgain. -/
import Derived.Test.YtclnhohfiimcdabX6
namespace Go.Proofs.Ytclnhohfiimcdab
open Go.RowKit

theorem deA_yes {b : ByteArray} (h : rdOk b = true) : deA b = (rdR b, 0) := by unfold deA; rw [h]; rfl
theorem deA_no {b : ByteArray} (h : rdOk b = false) : deA b = (zeroR, 4) := by unfold deA; rw [h]; rfl
theorem rdOk_parts {b : ByteArray} (h : rdOk b = true) : 13 + 3 * tkz b 12 1 = b.size ∧ recOk (rdR b) = true := by
  unfold rdOk at h
  simp only [Bool.and_eq_true, decide_eq_true_eq] at h
  exact ⟨h.1, h.2.2⟩
theorem enA_rd {b : ByteArray} (h : rdOk b = true) : enA (rdR b) = (b, 0) := by
  unfold enA
  rw [(rdOk_parts h).2, enc_rd h]
  rfl
theorem dsA_yes {b : ByteArray} (h : stOk b = true) : dsA b = ((((tkz b 0 1 : Nat) : Int), ((tkz b 1 4 : Nat) : Int), ((tkz b 5 4 : Nat) : Int)), 0) := by unfold dsA; rw [h]; rfl
theorem dsA_no {b : ByteArray} (h : stOk b = false) : dsA b = ((0, 0, 0), 4) := by unfold dsA; rw [h]; rfl
theorem stOk_parts {b : ByteArray} (h : stOk b = true) : 9 = b.size ∧ mayS (tkz b 0 1 : Nat) (tkz b 1 4 : Nat) (tkz b 5 4 : Nat) = true := by
  unfold stOk at h
  simpa using h
theorem esA_st {b : ByteArray} (h : stOk b = true) : esA (tkz b 0 1 : Nat) (tkz b 1 4 : Nat) (tkz b 5 4 : Nat) = (b, 0) := by
  unfold esA
  rw [(stOk_parts h).2]
  simp only [Int.toNat_natCast]
  rw [st_rd (stOk_parts h).1]
  rfl
end Go.Proofs.Ytclnhohfiimcdab
