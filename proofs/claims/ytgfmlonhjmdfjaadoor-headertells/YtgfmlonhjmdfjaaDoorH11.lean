/- header.Decode. -/
import Derived.Test.YtgfmlonhjmdfjaaDoorH10
namespace Go.Proofs.YtgfmlonhjmdfjaaDoor
open Go.RowKit

theorem wOf_k (c : Nat) : wOf c = 8 * ((2 ^ c : Nat) : Int) := by unfold wOf; simp
theorem isW_k {c : Nat} (hc : c ≤ 5) : IsW (8 * ((2 ^ c : Nat) : Int)) := by
  have hcs : c = 0 ∨ c = 1 ∨ c = 2 ∨ c = 3 ∨ c = 4 ∨ c = 5 := by omega
  rcases hcs with rfl | rfl | rfl | rfl | rfl | rfl <;> simp [IsW]
theorem k_bd {c : Nat} (hc : c ≤ 5) : 1 ≤ 2 ^ c ∧ 2 ^ c ≤ 32 := by
  have hcs : c = 0 ∨ c = 1 ∨ c = 2 ∨ c = 3 ∨ c = 4 ∨ c = 5 := by omega
  rcases hcs with rfl | rfl | rfl | rfl | rfl | rfl <;> simp
theorem cOf_k {c : Nat} (hc : c ≤ 5) : cOf (8 * ((2 ^ c : Nat) : Int)) = c := by
  have hcs : c = 0 ∨ c = 1 ∨ c = 2 ∨ c = 3 ∨ c = 4 ∨ c = 5 := by omega
  rcases hcs with rfl | rfl | rfl | rfl | rfl | rfl <;> simp [cOf]
theorem size_k (k : Nat) (h : IsW (8 * (k : Int))) (w : World) (ht : Wid w) :
    Calls Tryd.prog 9 #[.int .i64 (8 * (k : Int))] w fun e w' => e = .returned (.tuple #[.int .i64 (15 + (k : Int)), .int .i64 0]) ∧ w' = w := by
  have := size_yes (8 * (k : Int)) h w ht
  rw [show 15 + 8 * (k : Int) / 8 = 15 + (k : Int) from by omega] at this
  exact this

/-- The first byte is no width's. -/
def NoW (s : ByteArray) : Prop := s.size = 0 ∨ ∃ h : 0 < s.size, s[0].toNat < 16 ∨ 22 ≤ s[0].toNat
theorem widthOf_no (s : ByteArray) (h : NoW s) (w : World) : Calls Tryd.prog 31 #[.string s] w fun e w' => e = .returned (.int .i64 0) ∧ w' = w := by
  rcases h with h | ⟨h, h1 | h1⟩
  · have e : s = ⟨#[]⟩ := Wi.ext_bytes (List.eq_nil_of_length_eq_zero (by simpa using h))
    rw [e]
    exact widthOf_nil w
  · exact widthOf_low s h h1 w
  · exact widthOf_high s h h1 w
set_option maxRecDepth 100000 in
set_option maxHeartbeats 400000 in
theorem decode_now (s : ByteArray) (h : NoW s) (w : World) (ht : Wid w) :
    Calls Tryd.prog 18 #[.string s] w fun e w' => e = .returned (.tuple #[hd0, .int .i64 4]) ∧ Below w.heap.size w w' := by
  have HW := hidIn (widthOf_no s h)
  clear h
  have hn := hasHd_zero w
  have htn := ht.keep ((Below.refl _ w).alloc (Nat.le_refl _) hob0)
  go_enter Tryd.func18, Tryd.ntmps18
  go_wp2_with fail
  refine (HW.out _).mono ?_
  rintro e w1 ⟨rfl, hw⟩
  replace hw := hw.symm
  subst hw
  go_wp2_with fail
  refine (size_no 0 (by unfold IsW; decide) _ htn).mono ?_
  rintro e w1 ⟨rfl, hw⟩
  replace hw := hw.symm
  subst hw
  obtain ⟨c0, c1, c2, c3, c4, c5, c6, c7, c8, c9, ca, f0, f1, f2, f3, f4, f5, f6, f7, f8, f9, fa, lt⟩ := hn
  go_wp2
  refine bodyPost_ret (v := .tuple #[hd0, .int .i64 4]) ?_ rfl ⟨rfl, by go_grown⟩
  simp [results, Tryd.results18, go_sem]
set_option maxRecDepth 100000 in
set_option maxHeartbeats 400000 in
theorem decode_len (s : ByteArray) (c : Nat) (hc : c ≤ 5) (h : 0 < s.size) (h1 : s[0].toNat = 16 + c) (hl : s.size ≠ 15 + 2 ^ c) (w : World) (ht : Wid w) :
    Calls Tryd.prog 18 #[.string s] w fun e w' => e = .returned (.tuple #[hd0, .int .i64 4]) ∧ Below w.heap.size w w' := by
  have hW := widthOf_ok s h c h1 hc
  rw [wOf_k] at hW
  have HW := hidIn hW
  have HS := hidIn (size_k (2 ^ c) (isW_k hc))
  have hk := k_bd hc
  clear hW h1
  generalize 2 ^ c = k at *
  have hne : ((s.size : Int) != 15 + (k : Int)) = true := by rw [bne_iff_ne]; omega
  clear hl
  have hn := hasHd_zero w
  have htn := ht.keep ((Below.refl _ w).alloc (Nat.le_refl _) hob0)
  go_enter Tryd.func18, Tryd.ntmps18
  go_wp2_with fail
  refine (HW.out _ htn).mono ?_
  rintro e w1 ⟨rfl, hw⟩
  replace hw := hw.symm
  subst hw
  go_wp2_with fail
  refine (HS.out _ htn).mono ?_
  rintro e w1 ⟨rfl, hw⟩
  replace hw := hw.symm
  subst hw
  obtain ⟨c0, c1, c2, c3, c4, c5, c6, c7, c8, c9, ca, f0, f1, f2, f3, f4, f5, f6, f7, f8, f9, fa, lt⟩ := hn
  go_wp2
  refine bodyPost_ret (v := .tuple #[hd0, .int .i64 4]) ?_ rfl ⟨rfl, by go_grown⟩
  simp [results, Tryd.results18, go_sem]
set_option maxRecDepth 100000 in
set_option maxHeartbeats 400000 in
theorem decode_sum (s : ByteArray) (c : Nat) (hc : c ≤ 5) (h : 0 < s.size) (h1 : s[0].toNat = 16 + c) (hl : s.size = 15 + 2 ^ c) (hne : Wi.sealS (s.extract 0 (s.size - 2)) ≠ s) (w : World) (ht : Wid w) :
    Calls Tryd.prog 18 #[.string s] w fun e w' => e = .returned (.tuple #[hd0, .int .i64 5]) ∧ Below w.heap.size w w' := by
  have hW := widthOf_ok s h c h1 hc
  rw [wOf_k] at hW
  have HW := hidIn hW
  have HS := hidIn (size_k (2 ^ c) (isW_k hc))
  have hk := k_bd hc
  have HO := hidIn (Wi.open_sum s (by omega) (by omega) hne)
  clear hW h1
  generalize 2 ^ c = k at *
  have hle : ((s.size : Int) != 15 + (k : Int)) = false := by rw [bne_eq_false_iff_eq]; omega
  have HH := hidIn hl
  clear hl hne
  have hn := hasHd_zero w
  have htn := ht.keep ((Below.refl _ w).alloc (Nat.le_refl _) hob0)
  go_enter Tryd.func18, Tryd.ntmps18
  go_wp2_with fail
  refine (HW.out _ htn).mono ?_
  rintro e w1 ⟨rfl, hw⟩
  replace hw := hw.symm
  subst hw
  go_wp2_with fail
  refine (HS.out _ htn).mono ?_
  rintro e w1 ⟨rfl, hw⟩
  replace hw := hw.symm
  subst hw
  go_wp2_with fail
  refine (HO.out _).mono ?_
  rintro e w2 ⟨rfl, hb2⟩
  obtain ⟨c0, c1, c2, c3, c4, c5, c6, c7, c8, c9, ca, f0, f1, f2, f3, f4, f5, f6, f7, f8, f9, fa, lt⟩ := hn.keep hb2 hn.lt
  have hB2 : Below w.heap.size w w2 := ((Below.refl _ w).alloc (Nat.le_refl _) _).trans (hb2.mono (by simp))
  clear hn hb2 htn
  go_wp2
  refine bodyPost_ret (v := .tuple #[hd0, .int .i64 5]) ?_ rfl ⟨rfl, below_putHd hB2 (Nat.le_refl _) _ _ _ _ _ _ _ _ _ _ _⟩
  simp [results, Tryd.results18, go_sem, *]
end Go.Proofs.YtgfmlonhjmdfjaaDoor
