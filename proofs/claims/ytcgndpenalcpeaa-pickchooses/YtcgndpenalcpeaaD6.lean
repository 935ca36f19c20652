/- The document's Best, Choose. -/
import Derived.Test.YtcgndpenalcpeaaD5
namespace Go.Proofs.Ytcgndpenalcpeaa
open Go.RowKit

set_option maxRecDepth 100000 in
set_option maxHeartbeats 1000000 in
theorem dbest_any {e : Nat} (he : e < 4294967296) {l : List Int} {v : Value} {w : World} (h : SlAt ic 1 w v l) (h0 : 0 < l.length) :
    Calls Try.prog 24 #[.int .u32 e, v] w fun r w' => r = .returned (.int .i64 (best (mix e) l)) ∧ w' = w := by
  obtain ⟨a, cap, rfl, hl, _, hat⟩ := h.ints
  obtain ⟨bk, o, rfl, hbk, hcell⟩ := hat h0
  have HR := hidIn (fun n => dmix_any he n w)
  generalize mix e = r at *
  obtain ⟨ln, hln⟩ : ∃ ln, l.length = ln := ⟨_, rfl⟩
  have Hln := hidIn hln
  rw [hln] at hl h0 ⊢
  obtain ⟨x0, hx0⟩ : ∃ x, l[0]? = some x := ⟨l[0]'(by omega), List.getElem?_eq_getElem _⟩
  have c00 := hcell 0 x0 hx0
  rw [Nat.add_zero] at c00
  have H0 := hidIn (best_one r hx0)
  have HCl := hidIn hcell
  have hn1 : (0 : Int) < (ln : Int) := by omega
  obtain ⟨b, hb⟩ : ∃ b, best r l = b := ⟨_, rfl⟩
  have HB := hidIn hb
  rw [hb]
  clear h hat hln hx0 hcell hb
  go_enter Try.func24, Try.ntmps24
  go_wp2_with fail
  go_loop [5, 6] (fun m i => ∃ k : Nat, 0 < k ∧ k ≤ ln ∧ i = .int .i64 k ∧ m = .int .i64 (best r (l.take k))) (fun _ i => ln - (intOf i).toNat)
  case atStart => exact ⟨1, by omega, by omega, rfl, by rw [H0.out]⟩
  case round =>
    clear c00
    obtain ⟨k, hk0, hk, rfl, rfl⟩ := hrel
    by_cases hlt : k < ln
    · obtain ⟨x, hx⟩ : ∃ x, l[k]? = some x := ⟨l[k]'(by have := Hln.out; omega), List.getElem?_eq_getElem _⟩
      have c0 := HCl.out k x hx
      have hki : (k : Int) < (ln : Int) := by omega
      have hbn := best_next r hk0 hx
      obtain ⟨m, hm⟩ : ∃ m, best r (l.take k) = m := ⟨_, rfl⟩
      rw [hm] at hbn ⊢
      by_cases hlr : r m < r x
      · have HE : Hid (best r (l.take (k + 1)) = x) := hidIn (by rw [hbn, if_pos hlr])
        have hlz : ((r m : Nat) : Int) < ((r x : Nat) : Int) := by omega
        clear hbn hm hx
        go_wp2_with fail
        refine (HR.out _).mono ?_
        rintro e1 w1 ⟨rfl, hw1⟩
        rw [hw1]
        clear hw1 w1
        go_wp2_with fail
        refine (HR.out _).mono ?_
        rintro e1 w1 ⟨rfl, hw1⟩
        rw [hw1]
        clear hw1 w1
        go_wp2_with fail
        go_round
        case rel => exact ⟨k + 1, by omega, by omega, by go_num, by rw [HE.out]⟩
        case measure => simp [intOf]; omega
      · have HE : Hid (best r (l.take (k + 1)) = m) := hidIn (by rw [hbn, if_neg hlr])
        have hlz : ¬ ((r m : Nat) : Int) < ((r x : Nat) : Int) := by omega
        clear hbn hm hx
        go_wp2_with fail
        refine (HR.out _).mono ?_
        rintro e1 w1 ⟨rfl, hw1⟩
        rw [hw1]
        clear hw1 w1
        go_wp2_with fail
        refine (HR.out _).mono ?_
        rintro e1 w1 ⟨rfl, hw1⟩
        rw [hw1]
        clear hw1 w1
        go_wp2_with fail
        go_round
        case rel => exact ⟨k + 1, by omega, by omega, by go_num, by rw [HE.out]⟩
        case measure => simp [intOf]; omega
    · have hki : ¬ ((k : Int) < (ln : Int)) := by omega
      have HE : best r (l.take k) = b := by rw [List.take_of_length_le (by have := Hln.out; omega)]; exact HB.out
      rw [HE]
      clear HE
      go_wp2_with fail
      go_ret
      exact ⟨rfl, rfl⟩
set_option maxRecDepth 100000 in
theorem dchoose_any {e : Nat} (he : e < 4294967296) {l : List Int} {v : Value} {w : World} (h : SlAt ic 1 w v l) :
    Calls Try.prog 10 #[.int .u32 e, v] w fun r w' => r = .returned (.tuple #[.int .i64 (chN e l), .int .i64 (chE l)]) ∧ ∃ q, w' = w.drewN q := by
  have HN := hidIn (dnb_any h)
  have HF := hidIn (fun q h0 => dbest_any he (h.keep (w' := w.drewN q) (below_drewN (Below.refl _ _) q) (Nat.le_refl _)) h0)
  obtain ⟨a, cap, rfl, _⟩ := h
  obtain ⟨bq, hbq⟩ : ∃ bq, nbOk l = bq := ⟨_, rfl⟩
  rw [hbq] at HN
  cases bq
  · have HE := hidIn (ch_no e hbq)
    generalize l.length = ln at *
    generalize chN e l = c1 at *
    generalize chE l = c2 at *
    clear hbq HF
    go_enter Try.func10, Try.ntmps10
    go_wp2_with fail
    refine HN.out.mono ?_
    rintro x w1 ⟨rfl, q, hw1⟩
    rw [hw1]
    clear hw1 w1 HN
    go_wp2_with fail
    go_ret2
    exact ⟨by rw [HE.out.1, HE.out.2]; rfl, q, rfl⟩
  · by_cases h0 : l.length = 0
    · have HE := hidIn (ch_nil e hbq h0)
      have hz : ((l.length : Int) == 0) = true := by rw [h0]; rfl
      generalize l.length = ln at *
      generalize chN e l = c1 at *
      generalize chE l = c2 at *
      clear hbq HF h0
      go_enter Try.func10, Try.ntmps10
      go_wp2_with fail
      refine HN.out.mono ?_
      rintro x w1 ⟨rfl, q, hw1⟩
      rw [hw1]
      clear hw1 w1 HN
      go_wp2_with fail
      go_ret2
      exact ⟨by rw [HE.out.1, HE.out.2]; rfl, q, rfl⟩
    · have HE := hidIn (ch_yes e hbq (by omega))
      have hz : ((l.length : Int) == 0) = false := by simp; intro h; exact h0 (by rw [h]; rfl)
      have HF' := hidIn (fun q => HF.out q (by omega))
      clear hbq HF h0
      generalize l.length = ln at *
      generalize chN e l = c1 at *
      generalize chE l = c2 at *
      generalize best (mix e) l = b at *
      go_enter Try.func10, Try.ntmps10
      go_wp2_with fail
      refine HN.out.mono ?_
      rintro x w1 ⟨rfl, q, hw1⟩
      rw [hw1]
      clear hw1 w1 HN
      go_wp2_with fail
      refine (HF'.out q).mono ?_
      rintro x w1 ⟨rfl, hw1⟩
      rw [hw1]
      clear hw1 w1 HF'
      go_wp2_with fail
      go_ret2
      exact ⟨by rw [HE.out.1, HE.out.2]; rfl, q, rfl⟩
end Go.Proofs.Ytcgndpenalcpeaa
