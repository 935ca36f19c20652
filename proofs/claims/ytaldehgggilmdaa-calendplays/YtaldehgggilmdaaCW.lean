/- Two lists of texts; works. -/
import Derived.Test.YtaldehgggilmdaaC9S
namespace Go.Proofs.Ytaldehgggilmdaa.Ca.S
open Go.RowKit Go.Maps

theorem sl_txt {w : World} {v : Value} {l : List ByteArray} (h : SlAt tc 1 w v l) : ∃ a cap, v = .slice a l.length cap ∧ l.length ≤ 9223372036854775807 ∧ l.length ≤ cap ∧ (0 < l.length → ∃ bk o, a = some ⟨bk, o, none⟩ ∧ bk < w.heap.size ∧ ∀ j x, l[j]? = some x → w.cell? ⟨bk, o + j, none⟩ = some (.string x)) := by
  obtain ⟨a, cap, rfl, h1, h2, h3⟩ := h
  refine ⟨a, cap, rfl, h1, h2, fun h0 => ?_⟩
  obtain ⟨bk, o, rfl, hb, hc⟩ := h3 h0
  refine ⟨bk, o, rfl, hb, fun j x hx => ?_⟩
  have := hc j x hx 0 _ rfl
  simpa using this
set_option maxRecDepth 100000 in
set_option maxHeartbeats 2000000 in
theorem same_yes {w : World} {a b : Value} {l : List ByteArray} (ha : SlAt tc 1 w a l) (hb : SlAt tc 1 w b l) :
    Calls Try.prog 21 #[a, b] w fun e w' => e = .returned (.bool true) ∧ Below w.heap.size w w' := by
  obtain ⟨pa, ca, rfl, hl, _, hca⟩ := sl_txt ha
  obtain ⟨pb, cb, rfl, _, _, hcb⟩ := sl_txt hb
  have HA := hidIn hca
  have HB := hidIn hcb
  clear ha hb hca hcb
  go_enter Try.func21, Try.ntmps21
  go_wp2_with fail
  go_loopw [5] (fun i wr => ∃ k : Nat, k ≤ l.length ∧ i = .int .i64 k ∧ Hid (Below w.heap.size w wr)) (fun i _ => l.length - (intOf i).toNat)
  case atStart => exact ⟨0, Nat.zero_le _, rfl, hidIn (Below.refl _ _)⟩
  case round =>
    obtain ⟨k, hk, rfl, HR⟩ := hrel
    by_cases hlt : k < l.length
    · obtain ⟨b1, o1, rfl, hb1, h1⟩ := HA.out (by omega)
      obtain ⟨b2, o2, rfl, hb2, h2⟩ := HB.out (by omega)
      obtain ⟨x, hx⟩ : ∃ x, l[k]? = some x := ⟨l[k], List.getElem?_eq_getElem hlt⟩
      have x1 := cell_regrown ((HR.out.cell (p := ⟨b1, o1 + k, none⟩) hb1).trans (h1 k x hx))
      have x2 := cell_regrown ((HR.out.cell (p := ⟨b2, o2 + k, none⟩) hb2).trans (h2 k x hx))
      have hki : (k : Int) < (l.length : Int) := by omega
      clear h1 h2 hx
      go_wp2_with fail
      refine wp_region_quiet_below (by kernel_rfl) (by kernel_rfl) ?_
      repeat (go_big_quiet_step (fail))
      refine wpQuiet_nil ?_
      intro _ hw'
      obtain ⟨⟨dq, osq⟩, hw''⟩ := hw'
      subst hw''
      have hbr := hidIn (HR.out.trans ((below_regrown wr dq osq).mono HR.out.size))
      generalize Go.Sort.grow (redrawn wr dq) osq = U at hbr ⊢
      clear x1 x2
      go_wp2
      go_roundw
      case rel => exact ⟨k + 1, by omega, by go_num, hbr⟩
      case measure => simp [intOf]; omega
    · have hki : ¬ ((k : Int) < (l.length : Int)) := by omega
      go_wp2
      go_returns
      exact ⟨rfl, HR.out⟩
theorem lit1 {w : World} {b : Nat} {x : ByteArray} {t : TypeId} (h : w.heap[b]? = some (.cells #[.string x] t)) : SlAt tc 1 w (.slice (some ⟨b, 0, none⟩) 1 1) [x] := by
  refine ⟨_, 1, rfl, by simp, by simp, fun _ => ⟨b, 0, rfl, block_lt h, fun j y hj i u hu => ?_⟩⟩
  have hj0 := (List.getElem?_eq_some_iff.1 hj).1
  have hi0 := (List.getElem?_eq_some_iff.1 hu).1
  simp at hj0 hi0
  subst hj0 hi0
  simp at hj
  subst hj
  simp at hu
  subst hu
  exact cell_of_row _ _ 0 _ _ _ h
theorem lit2 {w : World} {b : Nat} {x y : ByteArray} {t : TypeId} (h : w.heap[b]? = some (.cells #[.string x, .string y] t)) : SlAt tc 1 w (.slice (some ⟨b, 0, none⟩) 2 2) [x, y] := by
  refine ⟨_, 2, rfl, by simp, by simp, fun _ => ⟨b, 0, rfl, block_lt h, fun j z hj i u hu => ?_⟩⟩
  have hj0 := (List.getElem?_eq_some_iff.1 hj).1
  have hi0 := (List.getElem?_eq_some_iff.1 hu).1
  simp at hj0 hi0
  subst hi0
  rcases (show j = 0 ∨ j = 1 by omega) with rfl | rfl
  · simp at hj
    subst hj
    simp at hu
    subst hu
    exact cell_of_row _ _ 0 _ _ _ h
  · simp at hj
    subst hj
    simp at hu
    subst hu
    exact cell_of_row _ _ 1 _ _ _ h
theorem extq {q : Nat} {w w' : World} (hq : q ≤ w.heap.size) : ∀ k, k < w'.heap.size → ext (fun k => q ≤ k) w w' k → q ≤ k := fun k _ h => by
  rcases h with h | h
  · exact h
  · have := h.1; omega
abbrev tA : ByteArray := ⟨#[97]⟩
abbrev tB : ByteArray := ⟨#[98]⟩
abbrev tC : ByteArray := ⟨#[99]⟩
set_option maxRecDepth 100000 in
set_option maxHeartbeats 2000000 in
theorem works_ok (w : World) : Calls Try.prog 10 #[] w fun e w' => e = .returned (.bool true) ∧ Below w.heap.size w w' := by
  obtain ⟨q, hq⟩ : ∃ q, w.heap.size = q := ⟨_, rfl⟩
  rw [hq]
  have Hq := hidIn hq
  clear hq
  go_enter Try.func10, Try.ntmps10
  go_wp2_with fail
  refine (new_ok w).mono ?_
  rintro e w1 ⟨cp, rfl, hC1, hb1⟩
  have C1 : Hid (Cal w1 (fun k => q ≤ k) cp [] 0) := hidIn (hC1.mono (fun k _ h => by have := Hq.out; omega))
  have B1 : Hid (Below q w w1) := hidIn (by rw [← Hq.out]; exact hb1)
  have P1 : Hid (Calls Try.prog 11 #[ptr cp, .int .u64 5, .string tA] w1 fun e w' => e = .returned (.int .i64 1) ∧ Cal w' (ext (fun k => q ≤ k) w1 w') cp [((tA, 5), 1)] 1 ∧ Fr (fun k => q ≤ k) w1 w') := hidIn (put_ok tA 5 C1.out (by omega) (by simp))
  have s1 : q ≤ w1.heap.size := by have := B1.out.size; have := Hq.out; omega
  clear hC1 hb1
  go_wp2_with fail
  refine P1.out.mono ?_
  rintro e w2 ⟨rfl, hC2, hF2⟩
  have C2 := hidIn (hC2.mono (extq s1))
  have B2 := hidIn (B1.out.trans (hF2.below s1 (fun _ h => h)))
  have P2 : Hid (Calls Try.prog 11 #[ptr cp, .int .u64 3, .string tB] w2 fun e w' => e = .returned (.int .i64 2) ∧ Cal w' (ext (fun k => q ≤ k) w2 w') cp [((tB, 3), 2), ((tA, 5), 1)] 2 ∧ Fr (fun k => q ≤ k) w2 w') := hidIn (put_ok tB 3 C2.out (by omega) (by simp))
  have s2 : q ≤ w2.heap.size := Nat.le_trans s1 hF2.size
  clear hC2 hF2 P1 C1
  go_wp2_with fail
  refine P2.out.mono ?_
  rintro e w3 ⟨rfl, hC3, hF3⟩
  have C3 := hidIn (hC3.mono (extq s2))
  have B3 := hidIn (B2.out.trans (hF3.below s2 (fun _ h => h)))
  have P3 : Hid (Calls Try.prog 11 #[ptr cp, .int .u64 5, .string tC] w3 fun e w' => e = .returned (.int .i64 3) ∧ Cal w' (ext (fun k => q ≤ k) w3 w') cp [((tB, 3), 2), ((tA, 5), 1), ((tC, 5), 3)] 3 ∧ Fr (fun k => q ≤ k) w3 w') := hidIn (put_ok tC 5 C3.out (by omega) (by simp))
  have s3 : q ≤ w3.heap.size := Nat.le_trans s2 hF3.size
  clear hC3 hF3 P2 C2
  go_wp2_with fail
  refine P3.out.mono ?_
  rintro e w4 ⟨rfl, hC4, hF4⟩
  have C4 := hidIn (hC4.mono (extq s3))
  have B4 := hidIn (B3.out.trans (hF4.below s3 (fun _ h => h)))
  have s4 : q ≤ w4.heap.size := Nat.le_trans s3 hF4.size
  have N4 : Hid (Calls Try.prog 15 #[ptr cp] w4 fun e w' => e = .returned (.tuple #[.int .u64 3, .bool true]) ∧ w' = w4) := hidIn (next_some C4.out)
  have L4 : Hid (Calls Try.prog 6 #[ptr cp] w4 fun e w' => e = .returned (.int .i64 3) ∧ w' = w4) := hidIn (len_ok C4.out)
  have T4 : Hid (Calls Try.prog 8 #[ptr cp, .int .u64 4] w4 fun e w' => (∃ u, e = .returned u ∧ w'.ownsRow w4.heap.size 9 1 u 1 (fl tc [tB])) ∧ Cal w' (fun k => q ≤ k) cp [((tA, 5), 1), ((tC, 5), 3)] 3 ∧ Fr (fun k => q ≤ k) w4 w') := hidIn (take_ok C4.out (by omega) (by simp))
  clear hC4 hF4 P3 C3
  go_wp2_with fail
  refine N4.out.mono ?_
  rintro e w5 ⟨rfl, hw5⟩
  rw [hw5]
  clear hw5 w5
  go_wp2_with fail
  refine L4.out.mono ?_
  rintro e w5 ⟨rfl, hw5⟩
  rw [hw5]
  clear hw5 w5
  go_wp2_with fail
  refine T4.out.mono ?_
  rintro e w5 ⟨⟨u, rfl, hrow⟩, hC5, hF5⟩
  obtain ⟨ua, uc, rfl⟩ := row_shape hrow
  have C5 := hidIn hC5
  have B5 := hidIn (B4.out.trans (hF5.below s4 (fun _ h => h)))
  have s5 : q ≤ w5.heap.size := Nat.le_trans s4 hF5.size
  obtain ⟨W5, hW5⟩ : ∃ W5, w5.alloc (.cells #[.string tB] 9) = W5 := ⟨_, rfl⟩
  have b5 : Below w5.heap.size w5 W5 := by rw [← hW5]; exact (Below.refl _ w5).alloc (Nat.le_refl _) _
  have C5' := hidIn (hC5.below b5)
  have h5 : W5.heap[w5.heap.size]? = some (.cells #[.string tB] 9) := by rw [← hW5]; exact heap_alloc_last w5 _
  have S5 := hidIn (same_yes (slAt_of_row (cs := tc) (fun _ => rfl) (row_below hrow b5 (Nat.le_refl _)) rfl) (lit1 h5))
  have B5' := hidIn (B5.out.trans (b5.mono s5))
  have HW5 := hidIn hW5
  have s5' : q ≤ W5.heap.size := Nat.le_trans s5 b5.size
  clear hrow hC5 hF5 hW5 b5 h5 N4 L4 T4 C4
  go_wp2_with fail
  rw [HW5.out]
  refine S5.out.mono ?_
  rintro e w6 ⟨rfl, hb6⟩
  have C6 := hidIn (C5'.out.below hb6)
  have B6 := hidIn (B5'.out.trans (hb6.mono s5'))
  have s6 : q ≤ w6.heap.size := Nat.le_trans s5' hb6.size
  have T6 : Hid (Calls Try.prog 8 #[ptr cp, .int .u64 5] w6 fun e w' => (∃ u, e = .returned u ∧ w'.ownsRow w6.heap.size 9 1 u 2 (fl tc [tA, tC])) ∧ Cal w' (fun k => q ≤ k) cp [] 3 ∧ Fr (fun k => q ≤ k) w6 w') := hidIn (take_ok C6.out (by omega) (by simp))
  clear hb6 S5 HW5
  go_wp2_with fail
  refine T6.out.mono ?_
  rintro e w7 ⟨⟨u, rfl, hrow⟩, hC7, hF7⟩
  obtain ⟨va, vc, rfl⟩ := row_shape hrow
  have B7 := hidIn (B6.out.trans (hF7.below s6 (fun _ h => h)))
  have s7 : q ≤ w7.heap.size := Nat.le_trans s6 hF7.size
  obtain ⟨W7, hW7⟩ : ∃ W7, w7.alloc (.cells #[.string tA, .string tC] 9) = W7 := ⟨_, rfl⟩
  have b7 : Below w7.heap.size w7 W7 := by rw [← hW7]; exact (Below.refl _ w7).alloc (Nat.le_refl _) _
  have C7 := hidIn (hC7.below b7)
  have h7 : W7.heap[w7.heap.size]? = some (.cells #[.string tA, .string tC] 9) := by rw [← hW7]; exact heap_alloc_last w7 _
  have S7 := hidIn (same_yes (slAt_of_row (cs := tc) (fun _ => rfl) (row_below hrow b7 (Nat.le_refl _)) rfl) (lit2 h7))
  have B7' := hidIn (B7.out.trans (b7.mono s7))
  have HW7 := hidIn hW7
  have s7' : q ≤ W7.heap.size := Nat.le_trans s7 b7.size
  clear hrow hC7 hF7 hW7 b7 h7 T6 C6
  go_wp2_with fail
  rw [HW7.out]
  refine S7.out.mono ?_
  rintro e w8 ⟨rfl, hb8⟩
  have L8 : Hid (Calls Try.prog 6 #[ptr cp] w8 fun e w' => e = .returned (.int .i64 0) ∧ w' = w8) := hidIn (len_ok (C7.out.below hb8))
  have B8 := hidIn (B7'.out.trans (hb8.mono s7'))
  clear hb8 S7 HW7
  go_wp2_with fail
  refine L8.out.mono ?_
  rintro e w9 ⟨rfl, hw9⟩
  rw [hw9]
  clear hw9 w9
  go_wp2
  go_ret
  exact ⟨rfl, B8.out⟩
end Go.Proofs.Ytaldehgggilmdaa.Ca.S
