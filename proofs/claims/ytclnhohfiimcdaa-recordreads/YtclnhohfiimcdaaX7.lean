/- RecordAgain. -/
import Derived.Test.YtclnhohfiimcdaaX6
namespace Go.Proofs.Ytclnhohfiimcdaa
open Go.RowKit

theorem deA_yes {b : ByteArray} (h : rdOk b = true) : deA b = (rdR b, 0) := by unfold deA; rw [h]; rfl
theorem deA_no {b : ByteArray} (h : rdOk b = false) : deA b = (zeroR, 4) := by unfold deA; rw [h]; rfl
theorem rdOk_parts {b : ByteArray} (h : rdOk b = true) : 13 + 3 * tkz b 12 1 = b.size ∧ recOk (rdR b) = true := by
  unfold rdOk at h
  simp only [Bool.and_eq_true, decide_eq_true_eq] at h
  exact ⟨h.1, h.2.2⟩
theorem enA_rd {b : ByteArray} (h : rdOk b = true) : enA (rdR b) = (b, 0) := by
  unfold enA
  rw [(rdOk_parts h).2, enc_rd h]
  rfl
theorem dsA_yes {b : ByteArray} (h : stOk b = true) : dsA b = ((((tkz b 0 1 : Nat) : Int), ((tkz b 1 4 : Nat) : Int), ((tkz b 5 4 : Nat) : Int)), 0) := by unfold dsA; rw [h]; rfl
theorem dsA_no {b : ByteArray} (h : stOk b = false) : dsA b = ((0, 0, 0), 4) := by unfold dsA; rw [h]; rfl
theorem stOk_parts {b : ByteArray} (h : stOk b = true) : 9 = b.size ∧ mayS (tkz b 0 1 : Nat) (tkz b 1 4 : Nat) (tkz b 5 4 : Nat) = true := by
  unfold stOk at h
  simpa using h
theorem esA_st {b : ByteArray} (h : stOk b = true) : esA (tkz b 0 1 : Nat) (tkz b 1 4 : Nat) (tkz b 5 4 : Nat) = (b, 0) := by
  unfold esA
  rw [(stOk_parts h).2]
  simp only [Int.toNat_natCast]
  rw [st_rd (stOk_parts h).1]
  rfl
set_option maxRecDepth 100000 in
set_option maxHeartbeats 2000000 in
theorem recordAgain_walk (b : ByteArray) (hb : b.size ≤ maxLen) (w : World) :
    Calls Try.prog 8 #[.string b] w fun e w' => e = .returned (.bool true) ∧ Below w.heap.size w w' := by
  have HD := hidIn (fun w1 => decode_any b hb w1)
  have HS := hidIn (fun w1 => decSt_any b hb w1)
  have heq : (b.toList == b.toList) = true := by simp
  have hne : (b.toList != b.toList) = false := by simp
  go_enter Try.func8, Try.ntmps8
  go_wp2_with fail
  refine (rworks_any _).mono ?_
  rintro e w1 ⟨rfl, hb1⟩
  have HB1 := hidIn hb1
  clear hb1
  go_wp2_with fail
  refine (HD.out _).mono ?_
  rintro e w2 ⟨⟨v, rfl, hrow⟩, hb2⟩
  have HB2 := hidIn (HB1.out.trans (hb2.mono HB1.out.size))
  clear hb2 HB1 HD
  obtain ⟨ok, hok⟩ : ∃ ok, rdOk b = ok := ⟨_, rfl⟩
  cases ok
  · rw [deA_no hok] at hrow ⊢
    obtain ⟨va, cap, rfl⟩ := row_shape hrow
    simp only [zeroR]
    clear hrow
    go_wp2_with fail
    have HB3 := hidIn (HB2.out.alloc (o := .cells #[.int .i64 0, .int .u32 0, .int .u32 0, .int .i64 0, .bool false, .slice va 0 cap] 25) HB2.out.size)
    refine (HS.out _).mono ?_
    rintro e w4 ⟨rfl, hb4⟩
    have HB4 := hidIn (HB3.out.trans (hb4.mono HB3.out.size))
    clear hb4 HB3 HB2 HS
    obtain ⟨so, hso⟩ : ∃ so, stOk b = so := ⟨_, rfl⟩
    cases so
    · rw [dsA_no hso]
      clear heq hne
      go_wp2_with fail
      go_ret
      exact ⟨rfl, by have := HB4.out.alloc (o := .cells #[.int .i64 0, .int .u32 0, .int .u32 0] 32) HB4.out.size; exact this⟩
    · have HE := hidIn (fun w1 => encSt_any (tkz b 0 1 : Nat) (tkz b 1 4 : Nat) (tkz b 5 4 : Nat) (by have := tkz_lt b 1 4; omega) (by have := tkz_lt b 5 4; omega) w1)
      rw [esA_st hso] at HE
      rw [dsA_yes hso]
      simp only
      generalize tkz b 0 1 = T0 at *
      generalize tkz b 1 4 = T1 at *
      generalize tkz b 5 4 = T2 at *
      clear hok hso
      go_wp2_with fail
      have HB5 := hidIn (HB4.out.alloc (o := stO (T0 : Int) (T1 : Int) (T2 : Int)) HB4.out.size)
      refine (HE.out _).mono ?_
      rintro e w5 ⟨rfl, hb5⟩
      have HB6 := hidIn (HB5.out.trans (hb5.mono HB5.out.size))
      clear hb5 HB5 HB4 HE
      go_wp2_with fail
      go_ret
      exact ⟨rfl, HB6.out⟩
  · rw [deA_yes hok] at hrow ⊢
    have hsz := (rdOk_parts hok).1
    have hso : stOk b = false := by
      unfold stOk
      rw [decide_eq_false (by omega)]
      rfl
    simp only at hrow
    have HRow := hidIn hrow
    obtain ⟨va, cap, rfl⟩ := row_shape hrow
    have HEn := hidIn (enA_rd hok)
    have HRb := hidIn (rdR_b b)
    clear hrow hok hsz
    generalize rdR b = R at *
    obtain ⟨W3, hW3⟩ : ∃ W3, w2.alloc (recO R (.slice va R.adjs.length cap)) = W3 := ⟨_, rfl⟩
    have b3 : Below w2.heap.size w2 W3 := by rw [← hW3]; exact (Below.refl _ w2).alloc (Nat.le_refl _) _
    have hX3 : W3.heap[w2.heap.size]? = some (recO R (.slice va R.adjs.length cap)) := by rw [← hW3]; exact heap_alloc_last w2 _
    have hE := encode_any (slAt_of_row (cs := ac) (fun _ => rfl) (row_below HRow.out b3 (Nat.le_refl _)) rfl) HRb.out
    rw [HEn.out] at hE
    have HE := hidIn hE
    have HB3 := hidIn (HB2.out.trans (b3.mono HB2.out.size))
    have HW := hidIn hW3
    obtain ⟨O, E, Q, C, I, A⟩ := R
    have x0 := cell_of_row _ _ 0 _ _ _ hX3
    have x1 := cell_of_row _ _ 1 _ _ _ hX3
    have x2 := cell_of_row _ _ 2 _ _ _ hX3
    have x3 := cell_of_row _ _ 3 _ _ _ hX3
    have x4 := cell_of_row _ _ 4 _ _ _ hX3
    have x5 := cell_of_row _ _ 5 _ _ _ hX3
    simp at x0 x1 x2 x3 x4 x5
    clear hE b3 hX3 hW3 HRow HEn HRb HB2
    simp only at HE HW ⊢
    generalize A.length = an at *
    go_upto_region 4 with fail
    rw [HW.out]
    clear HW
    go_wp2_with fail
    refine HE.out.mono ?_
    rintro e w4 ⟨rfl, hb4⟩
    have HB4 := hidIn (HB3.out.trans (hb4.mono HB3.out.size))
    clear hb4 HB3 HE x0 x1 x2 x3 x4 x5
    go_wp2_with fail
    refine (HS.out _).mono ?_
    rintro e w5 ⟨rfl, hb5⟩
    rw [dsA_no hso]
    have HB5 := hidIn (HB4.out.trans (hb5.mono HB4.out.size))
    clear hb5 HB4 HS heq hne hso
    go_wp2_with fail
    go_ret
    exact ⟨rfl, by have := HB5.out.alloc (o := .cells #[.int .i64 0, .int .u32 0, .int .u32 0] 32) HB5.out.size; exact this⟩
end Go.Proofs.Ytclnhohfiimcdaa
