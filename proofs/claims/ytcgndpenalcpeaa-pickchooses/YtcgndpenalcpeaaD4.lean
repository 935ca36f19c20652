/- areNeighbours; the document's Neighbours. -/
import Derived.Test.YtcgndpenalcpeaaD2
import Derived.Test.YtcgndpenalcpeaaD3
namespace Go.Proofs.Ytcgndpenalcpeaa
open Go.RowKit

theorem up_no {l : List Int} {k : Nat} {x : Int} (hx : l[k]? = some x) (h : ¬ (lastF 0 (l.take k) < x ∧ x ≤ 24)) : nbOk l = false := by
  have hs : upF 0 (l.take (k + 1)) = false := by
    rw [take_snoc hx, upF_snoc]
    have : (decide (lastF 0 (l.take k) < x) && decide (x ≤ 24)) = false := by
      rw [Bool.and_eq_false_iff, decide_eq_false_iff_not, decide_eq_false_iff_not]
      omega
    rw [this, Bool.and_false]
  unfold nbOk
  rw [← List.take_append_drop (k + 1) l, upF_app, hs, Bool.false_and]
theorem up_yes {l : List Int} {k : Nat} {x : Int} (hx : l[k]? = some x) (h0 : upF 0 (l.take k) = true) (h : lastF 0 (l.take k) < x ∧ x ≤ 24) : upF 0 (l.take (k + 1)) = true ∧ lastF 0 (l.take (k + 1)) = x := by
  rw [take_snoc hx, upF_snoc, lastF_snoc, h0]
  simp [h.1, h.2]
set_option maxRecDepth 100000 in
theorem areNb_any {l : List Int} {v : Value} {w : World} (h : SlAt ic 1 w v l) : Calls Try.prog 21 #[v] w fun e w' => e = .returned (.bool (nbOk l)) ∧ w' = w := by
  obtain ⟨a, cap, rfl, hl, _, hat⟩ := h.ints
  have Ha := hidIn hat
  obtain ⟨ln, hln⟩ : ∃ ln, l.length = ln := ⟨_, rfl⟩
  have Hln := hidIn hln
  rw [hln] at hl ⊢
  obtain ⟨bq, hbq⟩ : ∃ bq, nbOk l = bq := ⟨_, rfl⟩
  rw [hbq]
  have HQ := hidIn hbq
  clear h hat hln hbq
  go_enter Try.func21, Try.ntmps21
  go_wp2_with fail
  go_loop [3, 8] (fun p i => ∃ k : Nat, k ≤ ln ∧ i = .int .i64 k ∧ p = .int .i64 (lastF 0 (l.take k)) ∧ Hid (upF 0 (l.take k) = true)) (fun _ i => ln - (intOf i).toNat)
  case atStart => exact ⟨0, Nat.zero_le _, rfl, rfl, hidIn rfl⟩
  case round =>
    obtain ⟨k, hk, rfl, rfl, HC⟩ := hrel
    by_cases hlt : k < ln
    · obtain ⟨bk, o, rfl, hbk, hcell⟩ := Ha.out (by have := Hln.out; omega)
      obtain ⟨x, hx⟩ : ∃ x, l[k]? = some x := ⟨l[k]'(by have := Hln.out; omega), List.getElem?_eq_getElem _⟩
      have c0 := hcell k x hx
      have hki : (k : Int) < (ln : Int) := by omega
      obtain ⟨p, hp⟩ : ∃ p, lastF 0 (l.take k) = p := ⟨_, rfl⟩
      by_cases hxn : p < x ∧ x ≤ 24
      · have HE := hidIn (up_yes hx HC.out (by rw [hp]; exact hxn))
        rw [hp]
        obtain ⟨d1, d2⟩ := hxn
        clear hcell hx hp HC
        go_wp2_with fail
        go_round
        case rel => exact ⟨k + 1, by omega, by go_num, by rw [HE.out.2], hidIn HE.out.1⟩
        case measure => simp [intOf]; omega
      · have HE : Hid (bq = false) := hidIn (by rw [← HQ.out]; exact up_no hx (by rw [hp]; exact hxn))
        rw [hp]
        clear hcell hx hp HC
        by_cases d1 : p < x
        · have d2 : ¬ x ≤ 24 := fun h => hxn ⟨d1, h⟩
          clear hxn
          go_wp2_with fail
          go_ret
          exact ⟨by rw [HE.out]; rfl, rfl⟩
        · clear hxn
          go_wp2_with fail
          go_ret
          exact ⟨by rw [HE.out]; rfl, rfl⟩
    · have hki : ¬ ((k : Int) < (ln : Int)) := by omega
      have HE : Hid (bq = true) := hidIn (by rw [← HQ.out]; have := HC.out; rw [List.take_of_length_le (by have := Hln.out; omega)] at this; exact this)
      go_wp2_with fail
      go_ret
      exact ⟨by rw [HE.out]; rfl, rfl⟩
theorem last_get {l : List Int} {k : Nat} {x : Int} (hx : l[k]? = some x) : lastF 0 (l.take (k + 1)) = x := by rw [take_snoc hx, lastF_snoc]
set_option maxRecDepth 100000 in
set_option maxHeartbeats 2000000 in
theorem dnb_any {l : List Int} {v : Value} {w : World} (h : SlAt ic 1 w v l) : Calls Try.prog 23 #[v] w fun e w' => e = .returned (.bool (nbOk l)) ∧ ∃ q, w' = w.drewN q := by
  obtain ⟨a, cap, rfl, hl, _, hat⟩ := h.ints
  have Ha := hidIn hat
  obtain ⟨ln, hln⟩ : ∃ ln, l.length = ln := ⟨_, rfl⟩
  have Hln := hidIn hln
  rw [hln] at hl ⊢
  obtain ⟨bq, hbq⟩ : ∃ bq, nbOk l = bq := ⟨_, rfl⟩
  rw [hbq]
  have HQ := hidIn hbq
  clear h hat hln hbq
  go_enter Try.func23, Try.ntmps23
  go_wp2_with fail
  go_loopw [3] (fun i wr => ∃ k q : Nat, k ≤ ln ∧ i = .int .i64 k ∧ wr = w.drewN q ∧ Hid (upF 0 (l.take k) = true)) (fun i _ => ln - (intOf i).toNat)
  case atStart => exact ⟨0, 0, Nat.zero_le _, rfl, rfl, hidIn rfl⟩
  case round =>
    obtain ⟨k, q, hk, rfl, rfl, HC⟩ := hrel
    by_cases hlt : k < ln
    · obtain ⟨bk, o, rfl, hbk, hcell⟩ := Ha.out (by have := Hln.out; omega)
      obtain ⟨x, hx⟩ : ∃ x, l[k]? = some x := ⟨l[k]'(by have := Hln.out; omega), List.getElem?_eq_getElem _⟩
      have c0 := hcell k x hx
      have hki : (k : Int) < (ln : Int) := by omega
      have hno : ¬ (lastF 0 (l.take k) < x ∧ x ≤ 24) → bq = false := fun hh => by rw [← HQ.out]; exact up_no hx hh
      by_cases h1 : x < 1
      · have d1 : decide (x < 1) = true := by simpa using h1
        have HE : Hid (bq = false) := hidIn (hno (fun hh => by
          have : 0 ≤ lastF 0 (l.take k) := by
            rcases Nat.eq_zero_or_pos k with rfl | hk0
            · exact Int.le_refl _
            · obtain ⟨y, hy⟩ : ∃ y, l[k - 1]? = some y := ⟨l[k - 1]'(by have := Hln.out; omega), List.getElem?_eq_getElem _⟩
              have h3 := last_get hy
              rw [Nat.sub_add_cancel hk0] at h3
              rw [h3]
              have := (upF_ok HC.out).1 y (by have := take_snoc hy; rw [Nat.sub_add_cancel hk0] at this; rw [this]; simp)
              omega
          omega))
        clear hno hcell hx
        go_wp2_with fail
        go_quiet (fail)
        go_wp2_with fail
        go_ret
        exact ⟨by rw [HE.out]; rfl, q + nq, by rw [World.drewN_drewN]⟩
      · have d1 : decide (x < 1) = false := by simpa using h1
        by_cases h2 : 24 < x
        · have d2 : decide (24 < x) = true := by simpa using h2
          have HE : Hid (bq = false) := hidIn (hno (fun hh => by omega))
          clear hno hcell hx
          go_wp2_with fail
          go_quiet (fail)
          go_wp2_with fail
          go_ret
          exact ⟨by rw [HE.out]; rfl, q + nq, by rw [World.drewN_drewN]⟩
        · have d2 : decide (24 < x) = false := by simpa using h2
          rcases Nat.eq_zero_or_pos k with hk0 | hk0
          · have d3 : decide ((0 : Int) < (k : Int)) = false := by simp; omega
            have d3' : decide (0 < k) = false := by simp; omega
            have HE := hidIn (up_yes hx HC.out (by rw [hk0]; simp [lastF]; omega))
            clear hno hcell hx hk0
            go_wp2_with fail
            go_quiet (fail)
            go_wp2_with fail
            go_roundw
            case rel => exact ⟨k + 1, q + nq, by omega, by go_num, rfl, hidIn HE.out.1⟩
            case measure => simp [intOf]; omega
          · obtain ⟨m, hm⟩ : ∃ m, k = m + 1 := ⟨k - 1, by omega⟩
            obtain ⟨y, hy⟩ : ∃ y, l[m]? = some y := ⟨l[m]'(by have := Hln.out; omega), List.getElem?_eq_getElem _⟩
            have c1 := hcell m y hy
            have d3 : decide ((0 : Int) < (k : Int)) = true := by simp; omega
            have d3' : decide (0 < k) = true := by simp; omega
            have hw1 : IntKind.i64.wrap ((k : Int) - 1) = (m : Int) := by rw [IntKind.wrap_i64]; omega
            have hmi : (m : Int) < (ln : Int) := by omega
            have hlk := last_get hy
            rw [← hm] at hlk
            by_cases h3 : x ≤ y
            · have d4 : decide (x ≤ y) = true := by simpa using h3
              have HE : Hid (bq = false) := hidIn (hno (fun hh => by rw [hlk] at hh; omega))
              clear hno hcell hx hlk hy hm
              go_wp2_with fail
              go_quiet (fail)
              go_wp2_with fail
              go_ret
              exact ⟨by rw [HE.out]; rfl, q + nq, by rw [World.drewN_drewN]⟩
            · have d4 : decide (x ≤ y) = false := by simpa using h3
              have HE := hidIn (up_yes hx HC.out (by rw [hlk]; omega))
              clear hno hcell hx hlk hy hm
              go_wp2_with fail
              go_quiet (fail)
              go_wp2_with fail
              go_roundw
              case rel => exact ⟨k + 1, q + nq, by omega, by go_num, rfl, hidIn HE.out.1⟩
              case measure => simp [intOf]; omega
    · have hki : ¬ ((k : Int) < (ln : Int)) := by omega
      have HE : Hid (bq = true) := hidIn (by rw [← HQ.out]; have := HC.out; rw [List.take_of_length_le (by have := Hln.out; omega)] at this; exact this)
      go_wp2_with fail
      go_ret
      exact ⟨by rw [HE.out]; rfl, q, rfl⟩
end Go.Proofs.Ytcgndpenalcpeaa
