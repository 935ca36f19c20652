/- slices.MinFunc, first, Choose; the document's Best, Choose. -/
import Derived.Test.YtcgndpenalcpeaaD4
namespace Go.Proofs.Ytcgndpenalcpeaa
open Go.RowKit

theorem cmpN_neg (x y : Nat) : decide (cmpN x y < 0) = decide (x < y) := by
  unfold cmpN
  by_cases h : x < y
  · simp [h]
  · by_cases h2 : y < x <;> simp [h, h2]
theorem take_ne {l : List Int} {k : Nat} (h : 0 < k) (hl : 0 < l.length) : l.take k ≠ [] := fun e => by
  have := congrArg List.length e
  rw [List.length_take, List.length_nil] at this
  omega
theorem best_one (r : Int → Nat) {l : List Int} {x : Int} (h : l[0]? = some x) : best r (l.take 1) = x := by
  cases l with
  | nil => simp at h
  | cons y l => simp at h; subst h; rfl
theorem best_next (r : Int → Nat) {l : List Int} {k : Nat} {x : Int} (hk : 0 < k) (h : l[k]? = some x) : best r (l.take (k + 1)) = if r (best r (l.take k)) < r x then x else best r (l.take k) := by
  rw [take_snoc h, best_snoc r (take_ne hk (by have := (List.getElem?_eq_some_iff.1 h).1; omega))]
set_option maxRecDepth 100000 in
set_option maxHeartbeats 1000000 in
theorem minF_any {e : Nat} (he : e < 4294967296) {l : List Int} {v : Value} {B : Nat} {w : World} (h : SlAt ic 1 w v l) (h0 : 0 < l.length) (hc : w.cell? ⟨B, 0, none⟩ = some (rkF e)) :
    Calls Try.prog 29 #[v, gfF B] w fun r w' => r = .returned (.int .i64 (best (mix e) l)) ∧ ∃ q, w' = w.drewN q := by
  obtain ⟨a, cap, rfl, hl, _, hat⟩ := h.ints
  obtain ⟨bk, o, rfl, hbk, hcell⟩ := hat h0
  have HR := hidIn (fun q x y => less_any he (w := w.drewN q) (B := B) hc x y)
  generalize mix e = r at *
  obtain ⟨ln, hln⟩ : ∃ ln, l.length = ln := ⟨_, rfl⟩
  have Hln := hidIn hln
  rw [hln] at hl h0 ⊢
  obtain ⟨x0, hx0⟩ : ∃ x, l[0]? = some x := ⟨l[0]'(by omega), List.getElem?_eq_getElem _⟩
  have c00 := hcell 0 x0 hx0
  rw [Nat.add_zero] at c00
  have H0 := hidIn (best_one r hx0)
  have HCl := hidIn hcell
  have hn1 : ¬ (ln : Int) < 1 := by omega
  obtain ⟨b, hb⟩ : ∃ b, best r l = b := ⟨_, rfl⟩
  have HB := hidIn hb
  rw [hb]
  clear h hat hln hx0 hcell hb hc
  go_enter Try.func29, Try.ntmps29
  go_wp2_with fail
  go_loopw [5, 6] (fun m i wr => ∃ k q : Nat, 0 < k ∧ k ≤ ln ∧ i = .int .i64 k ∧ m = .int .i64 (best r (l.take k)) ∧ wr = w.drewN q) (fun _ i _ => ln - (intOf i).toNat)
  case atStart => exact ⟨1, 0, by omega, by omega, rfl, by rw [H0.out], rfl⟩
  case round =>
    clear c00
    obtain ⟨k, q, hk0, hk, rfl, rfl, rfl⟩ := hrel
    by_cases hlt : k < ln
    · obtain ⟨x, hx⟩ : ∃ x, l[k]? = some x := ⟨l[k]'(by have := Hln.out; omega), List.getElem?_eq_getElem _⟩
      have c0 := HCl.out k x hx
      have hki : (k : Int) < (ln : Int) := by omega
      have hbn := best_next r hk0 hx
      obtain ⟨m, hm⟩ : ∃ m, best r (l.take k) = m := ⟨_, rfl⟩
      rw [hm] at hbn ⊢
      have hneg := cmpN_neg (r m) (r x)
      have hL := HR.out q x m
      generalize cmpN (r m) (r x) = cr at hneg hL
      by_cases hlr : r m < r x
      · have HE : Hid (best r (l.take (k + 1)) = x) := hidIn (by rw [hbn, if_pos hlr])
        have hcr : cr < 0 := by have : decide (cr < 0) = true := by rw [hneg]; simpa using hlr
                                simpa using this
        have HL := hidIn hL
        clear hbn hm hneg hL hx hlr
        go_wp2_with fail
        refine HL.out.mono ?_
        rintro e1 w1 ⟨rfl, q1, hw1⟩
        rw [hw1]
        clear hw1 w1 HL
        go_wp2_with fail
        go_roundw
        case rel => exact ⟨k + 1, q + q1, by omega, by omega, by go_num, by rw [HE.out], by first | rfl | rw [World.drewN_drewN]⟩
        case measure => simp [intOf]; omega
      · have HE : Hid (best r (l.take (k + 1)) = m) := hidIn (by rw [hbn, if_neg hlr])
        have hcr : ¬ cr < 0 := by have : decide (cr < 0) = false := by rw [hneg]; simpa using hlr
                                  simpa using this
        have HL := hidIn hL
        clear hbn hm hneg hL hx hlr
        go_wp2_with fail
        refine HL.out.mono ?_
        rintro e1 w1 ⟨rfl, q1, hw1⟩
        rw [hw1]
        clear hw1 w1 HL
        go_wp2_with fail
        go_roundw
        case rel => exact ⟨k + 1, q + q1, by omega, by omega, by go_num, by rw [HE.out], by first | rfl | rw [World.drewN_drewN]⟩
        case measure => simp [intOf]; omega
    · have hki : ¬ ((k : Int) < (ln : Int)) := by omega
      have HE : best r (l.take k) = b := by rw [List.take_of_length_le (by have := Hln.out; omega)]; exact HB.out
      rw [HE]
      clear HE
      go_wp2_with fail
      go_ret
      exact ⟨rfl, q, rfl⟩
set_option maxRecDepth 100000 in
theorem first_any {e : Nat} (he : e < 4294967296) {l : List Int} {v : Value} {w : World} (h : SlAt ic 1 w v l) (h0 : 0 < l.length) :
    Calls Try.prog 22 #[.int .u32 e, v] w fun r w' => r = .returned (.int .i64 (best (mix e) l)) ∧ Below w.heap.size w w' := by
  have HG := hidIn (great_any e w)
  have hb : Below w.heap.size w (w.alloc (.cells #[rkF e] 46)) := (Below.refl _ w).alloc (Nat.le_refl _) _
  have hcell : (w.alloc (.cells #[rkF e] 46)).cell? ⟨w.heap.size, 0, none⟩ = some (rkF e) := cell_of_row _ _ 0 _ _ _ (heap_alloc_last w _)
  have HM := hidIn (minF_any he (h.keep hb (Nat.le_refl _)) h0 hcell)
  have HB := hidIn hb
  obtain ⟨a, cap, rfl, _⟩ := h
  generalize best (mix e) l = b at *
  generalize l.length = ln at *
  clear hb hcell
  go_enter Try.func22, Try.ntmps22
  go_wp2_with fail
  refine HG.out.mono ?_
  rintro x w1 ⟨rfl, hw1⟩
  rw [hw1]
  clear hw1 w1 HG
  generalize World.alloc _ _ = W at HM HB ⊢
  go_wp2_with fail
  refine HM.out.mono ?_
  rintro x w1 ⟨rfl, q, hw1⟩
  rw [hw1]
  clear hw1 w1 HM
  go_wp2_with fail
  go_ret
  exact ⟨rfl, below_drewN HB.out _⟩
/-- What Choose answers. -/
def chN (e : Nat) (l : List Int) : Int := if nbOk l = true ∧ l ≠ [] then best (mix e) l else 0
def chE (l : List Int) : Int := if nbOk l = true then (if l = [] then 6 else 0) else 2
theorem ch_no {l : List Int} (e : Nat) (h : nbOk l = false) : chN e l = 0 ∧ chE l = 2 := by simp [chN, chE, h]
theorem ch_nil {l : List Int} (e : Nat) (h : nbOk l = true) (h0 : l.length = 0) : chN e l = 0 ∧ chE l = 6 := by
  have := List.length_eq_zero_iff.1 h0
  subst this
  simp [chN, chE, h]
theorem ch_yes {l : List Int} (e : Nat) (h : nbOk l = true) (h0 : 0 < l.length) : chN e l = best (mix e) l ∧ chE l = 0 := by
  have : l ≠ [] := fun e => by rw [e] at h0; simp at h0
  simp [chN, chE, h, this]
set_option maxRecDepth 100000 in
theorem choose_any {e : Nat} (he : e < 4294967296) {l : List Int} {v : Value} {w : World} (h : SlAt ic 1 w v l) :
    Calls Try.prog 9 #[.int .u32 e, v] w fun r w' => r = .returned (.tuple #[.int .i64 (chN e l), .int .i64 (chE l)]) ∧ Below w.heap.size w w' := by
  have HN := hidIn (areNb_any h)
  have HF := hidIn (fun h0 => first_any he h h0)
  obtain ⟨a, cap, rfl, _⟩ := h
  obtain ⟨bq, hbq⟩ : ∃ bq, nbOk l = bq := ⟨_, rfl⟩
  rw [hbq] at HN
  cases bq
  · have HE := hidIn (ch_no e hbq)
    generalize l.length = ln at *
    generalize chN e l = c1 at *
    generalize chE l = c2 at *
    clear hbq HF
    go_enter Try.func9, Try.ntmps9
    go_wp2_with fail
    refine HN.out.mono ?_
    rintro x w1 ⟨rfl, hw1⟩
    rw [hw1]
    clear hw1 w1 HN
    go_wp2_with fail
    go_ret2
    exact ⟨by rw [HE.out.1, HE.out.2]; rfl, Below.refl _ _⟩
  · by_cases h0 : l.length = 0
    · have HE := hidIn (ch_nil e hbq h0)
      have hz : ((l.length : Int) == 0) = true := by rw [h0]; rfl
      generalize l.length = ln at *
      generalize chN e l = c1 at *
      generalize chE l = c2 at *
      clear hbq HF h0
      go_enter Try.func9, Try.ntmps9
      go_wp2_with fail
      refine HN.out.mono ?_
      rintro x w1 ⟨rfl, hw1⟩
      rw [hw1]
      clear hw1 w1 HN
      go_wp2_with fail
      go_ret2
      exact ⟨by rw [HE.out.1, HE.out.2]; rfl, Below.refl _ _⟩
    · have HE := hidIn (ch_yes e hbq (by omega))
      have hz : ((l.length : Int) == 0) = false := by simp; intro h; exact h0 (by rw [h]; rfl)
      have HF' := hidIn (HF.out (by omega))
      clear hbq HF h0
      generalize l.length = ln at *
      generalize chN e l = c1 at *
      generalize chE l = c2 at *
      generalize best (mix e) l = b at *
      go_enter Try.func9, Try.ntmps9
      go_wp2_with fail
      refine HN.out.mono ?_
      rintro x w1 ⟨rfl, hw1⟩
      rw [hw1]
      clear hw1 w1 HN
      go_wp2_with fail
      refine HF'.out.mono ?_
      rintro x w1 ⟨rfl, hb1⟩
      have HB := hidIn hb1
      clear hb1 HF'
      go_wp2_with fail
      go_ret2
      exact ⟨by rw [HE.out.1, HE.out.2]; rfl, HB.out⟩
end Go.Proofs.Ytcgndpenalcpeaa
