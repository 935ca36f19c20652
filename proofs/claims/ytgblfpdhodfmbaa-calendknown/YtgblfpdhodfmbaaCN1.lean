/- CalendKnown: the walk. -/
import Derived.Test.YtgblfpdhodfmbaaCOS
import Derived.Test.YtgblfpdhodfmbaaCCS
import Derived.Test.YtgblfpdhodfmbaaCW
namespace Go.Proofs.Ytgblfpdhodfmbaa.Ca
open Go.RowKit Go.Maps
open Go.Proofs.Ytgblfpdhodfmbaa.Ca.S

abbrev tP : ByteArray := ⟨#[112]⟩
abbrev tQ : ByteArray := ⟨#[113]⟩
abbrev tX : ByteArray := ⟨#[120]⟩
abbrev tY : ByteArray := ⟨#[121]⟩
abbrev tZ : ByteArray := ⟨#[122]⟩
theorem isP_eq (x : ByteArray) : (x.toList == [112]) = decide (x = tP) := by
  rw [Bool.eq_iff_iff]
  simp only [beq_iff_eq, decide_eq_true_eq]
  constructor
  · intro h
    rw [ByteArray.toList_eq] at h
    have h1 : x.data = #[112] := Array.toList_inj.1 h
    cases x
    exact congrArg ByteArray.mk h1
  · intro h
    rw [h, ByteArray.toList_eq]
theorem isP_ok (x : ByteArray) (W : World) : Calls Try.prog 32 (#[.string x] ++ #[]) W fun e W' => e = .returned (.bool (decide (x = tP))) ∧ W' = W := by
  show Calls Try.prog 32 #[.string x] W _
  go_enter Try.func32, Try.ntmps32
  go_wp2
  go_ret
  exact ⟨congrArg _ (congrArg _ (isP_eq x)), rfl⟩
theorem enterP (args : Array Value) (w : World) : (callFunc 32 args).run Try.prog w = .ok (Next.enter 32 args) w := by kernel_rfl
set_option maxRecDepth 100000 in
set_option maxHeartbeats 8000000 in
theorem calendKnown_walk (w : World) : Calls Try.prog 7 #[] w fun e w' => e = .returned (.bool true) ∧ Below w.heap.size w w' := by
  obtain ⟨q, hq⟩ : ∃ q, w.heap.size = q := ⟨_, rfl⟩
  rw [hq]
  have Hq := hidIn hq
  clear hq
  go_enter Try.func7, Try.ntmps7
  go_wp2_with fail
  refine (new_ok w).mono ?_
  rintro e w1 ⟨cp, rfl, hC1, hb1⟩
  have C1 : Hid (Cal w1 (fun k => q ≤ k) cp [] 0) := hidIn (hC1.mono (fun k _ h => by have := Hq.out; omega))
  have B1 : Hid (Below q w w1) := hidIn (by rw [← Hq.out]; exact hb1)
  have s1 : q ≤ w1.heap.size := by have := B1.out.size; have := Hq.out; omega
  clear hC1 hb1
  have P : Hid (Calls Try.prog 27 #[ptr cp, .int .u64 5, .string tA] w1 fun e w' => e = .returned (.int .i64 1) ∧ Cal w' (ext (fun k => q ≤ k) w1 w') cp [((tA, 5), 1)] 1 ∧ Fr (fun k => q ≤ k) w1 w') := hidIn (put_ok tA 5 C1.out (by omega) (by simp))
  go_wp2_with fail
  refine P.out.mono ?_
  rintro e w2 ⟨rfl, hC, hF⟩
  have C2 := hidIn (hC.mono (extq s1))
  have B2 := hidIn (B1.out.trans (hF.below s1 (fun _ h => h)))
  have s2 : q ≤ w2.heap.size := Nat.le_trans s1 hF.size
  clear hC hF P C1 B1
  have P : Hid (Calls Try.prog 27 #[ptr cp, .int .u64 3, .string tB] w2 fun e w' => e = .returned (.int .i64 2) ∧ Cal w' (ext (fun k => q ≤ k) w2 w') cp [((tB, 3), 2), ((tA, 5), 1)] 2 ∧ Fr (fun k => q ≤ k) w2 w') := hidIn (put_ok tB 3 C2.out (by omega) (by simp))
  go_wp2_with fail
  refine P.out.mono ?_
  rintro e w3 ⟨rfl, hC, hF⟩
  have C3 := hidIn (hC.mono (extq s2))
  have B3 := hidIn (B2.out.trans (hF.below s2 (fun _ h => h)))
  have s3 : q ≤ w3.heap.size := Nat.le_trans s2 hF.size
  clear hC hF P C2 B2
  have P : Hid (Calls Try.prog 27 #[ptr cp, .int .u64 5, .string tC] w3 fun e w' => e = .returned (.int .i64 3) ∧ Cal w' (ext (fun k => q ≤ k) w3 w') cp [((tB, 3), 2), ((tA, 5), 1), ((tC, 5), 3)] 3 ∧ Fr (fun k => q ≤ k) w3 w') := hidIn (put_ok tC 5 C3.out (by omega) (by simp))
  go_wp2_with fail
  refine P.out.mono ?_
  rintro e w4 ⟨rfl, hC, hF⟩
  have C4 := hidIn (hC.mono (extq s3))
  have B4 := hidIn (B3.out.trans (hF.below s3 (fun _ h => h)))
  have s4 : q ≤ w4.heap.size := Nat.le_trans s3 hF.size
  clear hC hF P C3 B3
  have P : Hid (Calls Try.prog 12 #[ptr cp, .int .u64 9] w4 fun e w' => (∃ u, e = .returned u ∧ w'.ownsRow w4.heap.size 9 1 u 3 (fl tc [tB, tA, tC])) ∧ Cal w' (fun k => q ≤ k) cp [] 3 ∧ Fr (fun k => q ≤ k) w4 w') := hidIn (take_ok C4.out (by omega) (by simp))
  go_wp2_with fail
  refine P.out.mono ?_
  rintro e w5 ⟨⟨u, rfl, hrow⟩, hC, hF⟩
  clear hrow
  obtain ⟨u, rfl⟩ : ∃ u', u = u' := ⟨_, rfl⟩
  have C5 := hidIn hC
  have B5 := hidIn (B4.out.trans (hF.below s4 (fun _ h => h)))
  have s5 : q ≤ w5.heap.size := Nat.le_trans s4 hF.size
  clear hC hF P C4 B4
  have P : Hid (Calls Try.prog 28 #[ptr cp] w5 fun e w' => e = .returned (.tuple #[.int .u64 0, .bool false]) ∧ w' = w5) := hidIn (next_none C5.out)
  go_wp2_with fail
  refine P.out.mono ?_
  rintro e w6 ⟨rfl, hw⟩
  rw [hw]
  clear hw w6 P
  have P : Hid (Calls Try.prog 27 #[ptr cp, .int .u64 1, .string tX] w5 fun e w' => e = .returned (.int .i64 4) ∧ Cal w' (ext (fun k => q ≤ k) w5 w') cp [((tX, 1), 4)] 4 ∧ Fr (fun k => q ≤ k) w5 w') := hidIn (put_ok tX 1 C5.out (by omega) (by simp))
  go_wp2_with fail
  refine P.out.mono ?_
  rintro e w6 ⟨rfl, hC, hF⟩
  have C6 := hidIn (hC.mono (extq s5))
  have B6 := hidIn (B5.out.trans (hF.below s5 (fun _ h => h)))
  have s6 : q ≤ w6.heap.size := Nat.le_trans s5 hF.size
  clear hC hF P C5 B5
  have P : Hid (Calls Try.prog 27 #[ptr cp, .int .u64 1, .string tY] w6 fun e w' => e = .returned (.int .i64 5) ∧ Cal w' (ext (fun k => q ≤ k) w6 w') cp [((tX, 1), 4), ((tY, 1), 5)] 5 ∧ Fr (fun k => q ≤ k) w6 w') := hidIn (put_ok tY 1 C6.out (by omega) (by simp))
  go_wp2_with fail
  refine P.out.mono ?_
  rintro e w7 ⟨rfl, hC, hF⟩
  have C7 := hidIn (hC.mono (extq s6))
  have B7 := hidIn (B6.out.trans (hF.below s6 (fun _ h => h)))
  have s7 : q ≤ w7.heap.size := Nat.le_trans s6 hF.size
  clear hC hF P C6 B6
  have P : Hid (Calls Try.prog 29 #[ptr cp, .int .i64 4] w7 fun e w' => e = .returned (.bool true) ∧ Cal w' (fun k => q ≤ k) cp [((tY, 1), 5)] 5 ∧ Fr (fun k => q ≤ k) w7 w') := hidIn (drop_ok 4 (wf9 (by omega)) C7.out (by omega) (by simp))
  go_wp2_with fail
  refine P.out.mono ?_
  rintro e w8 ⟨rfl, hC, hF⟩
  have C8 := hidIn hC
  have B8 := hidIn (B7.out.trans (hF.below s7 (fun _ h => h)))
  have s8 : q ≤ w8.heap.size := Nat.le_trans s7 hF.size
  clear hC hF P C7 B7
  have P : Hid (Calls Try.prog 29 #[ptr cp, .int .i64 4] w8 fun e w' => e = .returned (.bool false) ∧ Cal w' (fun k => q ≤ k) cp [((tY, 1), 5)] 5 ∧ Fr (fun k => q ≤ k) w8 w') := hidIn (drop_ok 4 (wf9 (by omega)) C8.out (by omega) (by simp))
  go_wp2_with fail
  refine P.out.mono ?_
  rintro e w9 ⟨rfl, hC, hF⟩
  have C9 := hidIn hC
  have B9 := hidIn (B8.out.trans (hF.below s8 (fun _ h => h)))
  have s9 : q ≤ w9.heap.size := Nat.le_trans s8 hF.size
  clear hC hF P C8 B8
  have P : Hid (Calls Try.prog 29 #[ptr cp, .int .i64 0] w9 fun e w' => e = .returned (.bool false) ∧ Cal w' (fun k => q ≤ k) cp [((tY, 1), 5)] 5 ∧ Fr (fun k => q ≤ k) w9 w') := hidIn (drop_ok 0 (wf9 (by omega)) C9.out (by omega) (by simp))
  go_wp2_with fail
  refine P.out.mono ?_
  rintro e w10 ⟨rfl, hC, hF⟩
  have C10 := hidIn hC
  have B10 := hidIn (B9.out.trans (hF.below s9 (fun _ h => h)))
  have s10 : q ≤ w10.heap.size := Nat.le_trans s9 hF.size
  clear hC hF P C9 B9
  have P : Hid (Calls Try.prog 12 #[ptr cp, .int .u64 1] w10 fun e w' => (∃ u, e = .returned u ∧ w'.ownsRow w10.heap.size 9 1 u 1 (fl tc [tY])) ∧ Cal w' (fun k => q ≤ k) cp [] 5 ∧ Fr (fun k => q ≤ k) w10 w') := hidIn (take_ok C10.out (by omega) (by simp))
  go_wp2_with fail
  refine P.out.mono ?_
  rintro e w11 ⟨⟨u, rfl, hrow⟩, hC, hF⟩
  obtain ⟨ua, uc, rfl⟩ := row_shape hrow
  have C11 := hidIn hC
  have B11 := hidIn (B10.out.trans (hF.below s10 (fun _ h => h)))
  have s11 : q ≤ w11.heap.size := Nat.le_trans s10 hF.size
  clear hC hF P C10 B10
  obtain ⟨W, hW⟩ : ∃ W, w11.alloc (.cells #[.string tY] 9) = W := ⟨_, rfl⟩
  have b5 : Below w11.heap.size w11 W := by rw [← hW]; exact (Below.refl _ w11).alloc (Nat.le_refl _) _
  have h5 : W.heap[w11.heap.size]? = some (.cells #[.string tY] 9) := by rw [← hW]; exact heap_alloc_last w11 _
  have P := hidIn (same_yes (slAt_of_row (cs := tc) (fun _ => rfl) (row_below hrow b5 (Nat.le_refl _)) rfl) (lit1 h5))
  have C11x := hidIn (C11.out.below b5)
  have Bx := hidIn (B11.out.trans (b5.mono s11))
  have HW := hidIn hW
  have sx : q ≤ W.heap.size := Nat.le_trans s11 b5.size
  clear hrow hW b5 h5 C11 B11
  go_wp2_with fail
  rw [HW.out]
  refine P.out.mono ?_
  rintro e w12 ⟨rfl, hb⟩
  have C12 := hidIn (C11x.out.below hb)
  have B12 := hidIn (Bx.out.trans (hb.mono sx))
  have s12 : q ≤ w12.heap.size := Nat.le_trans sx hb.size
  clear hb P HW Bx C11x
  have P : Hid (Calls Try.prog 27 #[ptr cp, .int .u64 7, .string tP] w12 fun e w' => e = .returned (.int .i64 6) ∧ Cal w' (ext (fun k => q ≤ k) w12 w') cp [((tP, 7), 6)] 6 ∧ Fr (fun k => q ≤ k) w12 w') := hidIn (put_ok tP 7 C12.out (by omega) (by simp))
  go_wp2_with fail
  refine P.out.mono ?_
  rintro e w13 ⟨rfl, hC, hF⟩
  have C13 := hidIn (hC.mono (extq s12))
  have B13 := hidIn (B12.out.trans (hF.below s12 (fun _ h => h)))
  have s13 : q ≤ w13.heap.size := Nat.le_trans s12 hF.size
  clear hC hF P C12 B12
  have P : Hid (Calls Try.prog 27 #[ptr cp, .int .u64 7, .string tQ] w13 fun e w' => e = .returned (.int .i64 7) ∧ Cal w' (ext (fun k => q ≤ k) w13 w') cp [((tP, 7), 6), ((tQ, 7), 7)] 7 ∧ Fr (fun k => q ≤ k) w13 w') := hidIn (put_ok tQ 7 C13.out (by omega) (by simp))
  go_wp2_with fail
  refine P.out.mono ?_
  rintro e w14 ⟨rfl, hC, hF⟩
  have C14 := hidIn (hC.mono (extq s13))
  have B14 := hidIn (B13.out.trans (hF.below s13 (fun _ h => h)))
  have s14 : q ≤ w14.heap.size := Nat.le_trans s13 hF.size
  clear hC hF P C13 B13
  have P : Hid (Calls Try.prog 31 #[ptr cp, .nilFunc] w14 fun e w' => e = .returned (.int .i64 0) ∧ w' = w14) := hidIn (sift_nil C14.out.self.2.2)
  go_wp2_with fail
  refine P.out.mono ?_
  rintro e w15 ⟨rfl, hw⟩
  rw [hw]
  clear hw w15 P
  have P : Hid (Calls Try.prog 31 #[ptr cp, .func (.func 32) #[] #[]] w14 fun e w' => e = .returned (.int .i64 1) ∧ Cal w' (fun k => q ≤ k) cp [((tP, 7), 6)] 7 ∧ Fr (fun k => q ≤ k) w14 w') := hidIn (sift_ok (kp := fun v => decide (v = tP)) C14.out (by omega) (by simp) isP_ok enterP)
  go_wp2_with fail
  refine P.out.mono ?_
  rintro e w15 ⟨rfl, hC, hF⟩
  have C15 := hidIn hC
  have B15 := hidIn (B14.out.trans (hF.below s14 (fun _ h => h)))
  have s15 : q ≤ w15.heap.size := Nat.le_trans s14 hF.size
  clear hC hF P C14 B14
  obtain ⟨M, hM⟩ : ∃ M, w15.heap.size = M := ⟨_, rfl⟩
  have hqM : q ≤ M := by omega
  have K0 : Hid (Cal w15 (fun k => q ≤ k ∧ k < M) cp [((tP, 7), 6)] 7) := hidIn (C15.out.mono (fun k hk hs => ⟨hs, by omega⟩))
  have P : Hid (Calls Try.prog 33 #[ptr cp] w15 fun e w' => ∃ d, e = .returned (ptr d) ∧ Cal w' (fun k => w15.heap.size ≤ k ∧ k < w'.heap.size) d [((tP, 7), 6)] 7 ∧ Fr (fun _ => False) w15 w') := hidIn (copy_ok C15.out (by omega) (by simp))
  go_wp2_with fail
  refine P.out.mono ?_
  rintro e w16 ⟨d, rfl, hC, hF⟩
  have D16 : Hid (Cal w16 (fun k => M ≤ k) d [((tP, 7), 6)] 7) := hidIn (hC.mono (fun k _ h => by omega))
  have K16 : Hid (Cal w16 (fun k => q ≤ k ∧ k < M) cp [((tP, 7), 6)] 7) := hidIn (K0.out.keep hF (fun _ _ h => h))
  have B16 := hidIn (B15.out.trans (hF.below s15 (fun _ h => h.elim)))
  have s16 : q ≤ w16.heap.size := Nat.le_trans s15 hF.size
  have m16 : M ≤ w16.heap.size := by have := hF.size; omega
  clear hC hF P C15 B15 K0 hM
  have P : Hid (Calls Try.prog 12 #[ptr cp, .int .u64 7] w16 fun e w' => (∃ u, e = .returned u ∧ w'.ownsRow w16.heap.size 9 1 u 1 (fl tc [tP])) ∧ Cal w' (fun k => q ≤ k ∧ k < M) cp [] 7 ∧ Fr (fun k => q ≤ k ∧ k < M) w16 w') := hidIn (take_ok K16.out (by omega) (by simp))
  go_wp2_with fail
  refine P.out.mono ?_
  rintro e w17 ⟨⟨u, rfl, hrow⟩, hC, hF⟩
  obtain ⟨uac, ucc, rfl⟩ := row_shape hrow
  have K17 := hidIn hC
  have D17 := hidIn (D16.out.keep hF (fun k h1 h2 => by omega))
  have B17 := hidIn (B16.out.trans (hF.below s16 (fun _ h => h.1)))
  have s17 : q ≤ w17.heap.size := Nat.le_trans s16 hF.size
  have m17 : M ≤ w17.heap.size := Nat.le_trans m16 hF.size
  clear hC hF P D16 K16 B16
  have mm := m17
  obtain ⟨W, hW⟩ : ∃ W, w17.alloc (.cells #[.string tP] 9) = W := ⟨_, rfl⟩
  have b5 : Below w17.heap.size w17 W := by rw [← hW]; exact (Below.refl _ w17).alloc (Nat.le_refl _) _
  have h5 : W.heap[w17.heap.size]? = some (.cells #[.string tP] 9) := by rw [← hW]; exact heap_alloc_last w17 _
  have P := hidIn (same_yes (slAt_of_row (cs := tc) (fun _ => rfl) (row_below hrow b5 (Nat.le_refl _)) rfl) (lit1 h5))
  have K17x := hidIn (K17.out.below b5)
  have D17x := hidIn (D17.out.below b5)
  have Bx := hidIn (B17.out.trans (b5.mono s17))
  have HW := hidIn hW
  have bsz := b5.size
  have sx : q ≤ W.heap.size := Nat.le_trans s17 b5.size
  clear hrow hW b5 h5 K17 D17 B17
  go_wp2_with fail
  rw [HW.out]
  refine P.out.mono ?_
  rintro e w18 ⟨rfl, hb⟩
  have K18 := hidIn (K17x.out.below hb)
  have D18 := hidIn (D17x.out.below hb)
  have B18 := hidIn (Bx.out.trans (hb.mono sx))
  have s18 : q ≤ w18.heap.size := Nat.le_trans sx hb.size
  have hsz := Nat.le_trans bsz hb.size
  clear hb P HW Bx K17x D17x
  have m18 : M ≤ w18.heap.size := by have := (show w17.heap.size ≤ w18.heap.size from hsz); omega
  clear mm hsz bsz
  have P : Hid (Calls Try.prog 12 #[ptr d, .int .u64 7] w18 fun e w' => (∃ u, e = .returned u ∧ w'.ownsRow w18.heap.size 9 1 u 1 (fl tc [tP])) ∧ Cal w' (fun k => M ≤ k) d [] 7 ∧ Fr (fun k => M ≤ k) w18 w') := hidIn (take_ok D18.out (by omega) (by simp))
  go_wp2_with fail
  refine P.out.mono ?_
  rintro e w19 ⟨⟨u, rfl, hrow⟩, hC, hF⟩
  obtain ⟨uad, ucd, rfl⟩ := row_shape hrow
  have D19 : Hid (Cal w19 (fun k => M ≤ k) d _ _) := hidIn hC
  have K19 := hidIn (K18.out.keep hF (fun k h1 h2 => by omega))
  have B19 := hidIn (B18.out.trans (hF.below s18 (fun _ h => Nat.le_trans hqM h)))
  have s19 : q ≤ w19.heap.size := Nat.le_trans s18 hF.size
  have m19 : M ≤ w19.heap.size := Nat.le_trans m18 hF.size
  clear hC hF P D18 K18 B18
  have mm := m19
  obtain ⟨W, hW⟩ : ∃ W, w19.alloc (.cells #[.string tP] 9) = W := ⟨_, rfl⟩
  have b5 : Below w19.heap.size w19 W := by rw [← hW]; exact (Below.refl _ w19).alloc (Nat.le_refl _) _
  have h5 : W.heap[w19.heap.size]? = some (.cells #[.string tP] 9) := by rw [← hW]; exact heap_alloc_last w19 _
  have P := hidIn (same_yes (slAt_of_row (cs := tc) (fun _ => rfl) (row_below hrow b5 (Nat.le_refl _)) rfl) (lit1 h5))
  have K19x := hidIn (K19.out.below b5)
  have D19x := hidIn (D19.out.below b5)
  have Bx := hidIn (B19.out.trans (b5.mono s19))
  have HW := hidIn hW
  have bsz := b5.size
  have sx : q ≤ W.heap.size := Nat.le_trans s19 b5.size
  clear hrow hW b5 h5 K19 D19 B19
  go_wp2_with fail
  rw [HW.out]
  refine P.out.mono ?_
  rintro e w20 ⟨rfl, hb⟩
  have K20 := hidIn (K19x.out.below hb)
  have D20 := hidIn (D19x.out.below hb)
  have B20 := hidIn (Bx.out.trans (hb.mono sx))
  have s20 : q ≤ w20.heap.size := Nat.le_trans sx hb.size
  have hsz := Nat.le_trans bsz hb.size
  clear hb P HW Bx K19x D19x
  have m20 : M ≤ w20.heap.size := by have := (show w19.heap.size ≤ w20.heap.size from hsz); omega
  clear mm hsz bsz
  have P : Hid (Calls Try.prog 27 #[ptr d, .int .u64 0, .string tZ] w20 fun e w' => e = .returned (.int .i64 8) ∧ Cal w' (ext (fun k => M ≤ k) w20 w') d [((tZ, 0), 8)] 8 ∧ Fr (fun k => M ≤ k) w20 w') := hidIn (put_ok tZ 0 D20.out (by omega) (by simp))
  go_wp2_with fail
  refine P.out.mono ?_
  rintro e w21 ⟨rfl, hC0, hF⟩
  have hC := hC0.mono (extq m20)
  clear hC0
  have D21 : Hid (Cal w21 (fun k => M ≤ k) d _ _) := hidIn hC
  have K21 := hidIn (K20.out.keep hF (fun k h1 h2 => by omega))
  have B21 := hidIn (B20.out.trans (hF.below s20 (fun _ h => Nat.le_trans hqM h)))
  have s21 : q ≤ w21.heap.size := Nat.le_trans s20 hF.size
  have m21 : M ≤ w21.heap.size := Nat.le_trans m20 hF.size
  clear hC hF P D20 K20 B20
  have P : Hid (Calls Try.prog 10 #[ptr cp] w21 fun e w' => e = .returned (.int .i64 0) ∧ w' = w21) := hidIn (len_ok K21.out)
  go_wp2_with fail
  refine P.out.mono ?_
  rintro e w22 ⟨rfl, hw⟩
  rw [hw]
  clear hw w22 P
  clear K21 D21
  obtain ⟨W, hW⟩ : ∃ W, w21.alloc (.cells #[nilP, .slice none 0 0, .map none, .int .i64 0] 67) = W := ⟨_, rfl⟩
  obtain ⟨eb, heb⟩ : ∃ eb, w21.heap.size = eb := ⟨_, rfl⟩
  have b5 : Below w21.heap.size w21 W := by rw [← hW]; exact (Below.refl _ w21).alloc (Nat.le_refl _) _
  have h5 : W.heap[eb]? = some (.cells #[nilP, .slice none 0 0, .map none, .int .i64 0] 67) := by rw [← hW, ← heb]; exact heap_alloc_last w21 _
  have HOff : Hid (∀ w', Below W.heap.size W w' → Off (ptr eb) w') := hidIn (fun w' hb => off_empty ((hb.cell (p := ⟨eb, 0, none⟩) (block_lt h5)).trans (cell_of_row _ _ 0 _ _ _ h5)))
  have BW := hidIn (B21.out.trans (b5.mono s21))
  have sW : q ≤ W.heap.size := Nat.le_trans s21 b5.size
  have HW := hidIn hW
  have HEb := hidIn heb
  clear b5 h5 hW heb B21
  go_wp2_with fail
  try rw [HEb.out]
  try rw [HW.out]
  have P : Hid (Calls Try.prog 28 #[nilP] W fun e w' => e = .returned (.tuple #[.int .u64 0, .bool false]) ∧ w' = W) := hidIn (next_off (off_nil _))
  refine P.out.mono ?_
  rintro e w0 ⟨rfl, hw⟩
  rw [hw]
  clear hw w0 P
  go_wp2_with fail
  have P : Hid (Calls Try.prog 28 #[ptr eb] W fun e w' => e = .returned (.tuple #[.int .u64 0, .bool false]) ∧ w' = W) := hidIn (next_off (HOff.out _ (Below.refl _ _)))
  refine P.out.mono ?_
  rintro e w0 ⟨rfl, hw⟩
  rw [hw]
  clear hw w0 P
  go_wp2_with fail
  refine (S.works_ok W).mono ?_
  rintro e V ⟨rfl, hbV⟩
  have HbV := hidIn hbV
  clear hbV
  go_wp2_with fail
  have P : Hid (Calls Try.prog 27 #[nilP, .int .u64 1, .string tA] V fun e w' => e = .returned (.int .i64 0) ∧ w' = V) := hidIn (put_off (off_nil _))
  refine P.out.mono ?_
  rintro e w0 ⟨rfl, hw⟩
  rw [hw]
  clear hw w0 P
  go_wp2_with fail
  have P : Hid (Calls Try.prog 27 #[ptr eb, .int .u64 1, .string tA] V fun e w' => e = .returned (.int .i64 0) ∧ w' = V) := hidIn (put_off (HOff.out _ HbV.out))
  refine P.out.mono ?_
  rintro e w0 ⟨rfl, hw⟩
  rw [hw]
  clear hw w0 P
  go_wp2_with fail
  have P : Hid (Calls Try.prog 29 #[nilP, .int .i64 1] V fun e w' => e = .returned (.bool false) ∧ w' = V) := hidIn (drop_off (off_nil _))
  refine P.out.mono ?_
  rintro e w0 ⟨rfl, hw⟩
  rw [hw]
  clear hw w0 P
  go_wp2_with fail
  have P := hidIn (take_off (pa := some ⟨eb, 0, none⟩) (w := V) (now := 9) (fun w' hb => HOff.out w' (HbV.out.trans (hb.mono HbV.out.size))))
  refine P.out.mono ?_
  rintro e U ⟨rfl, hbU⟩
  have HbU := hidIn (HbV.out.trans (hbU.mono HbV.out.size))
  clear hbU P
  go_wp2_with fail
  have P : Hid (Calls Try.prog 10 #[nilP] U fun e w' => e = .returned (.int .i64 0) ∧ w' = U) := hidIn (len_off (off_nil _))
  refine P.out.mono ?_
  rintro e w0 ⟨rfl, hw⟩
  rw [hw]
  clear hw w0 P
  go_wp2_with fail
  have P : Hid (Calls Try.prog 10 #[ptr eb] U fun e w' => e = .returned (.int .i64 0) ∧ w' = U) := hidIn (len_off (HOff.out _ HbU.out))
  refine P.out.mono ?_
  rintro e w0 ⟨rfl, hw⟩
  rw [hw]
  clear hw w0 P
  go_wp2_with fail
  have P : Hid (Calls Try.prog 31 #[nilP, .nilFunc] U fun e w' => e = .returned (.int .i64 0) ∧ w' = U) := hidIn (sift_off (off_nil _))
  refine P.out.mono ?_
  rintro e w0 ⟨rfl, hw⟩
  rw [hw]
  clear hw w0 P
  go_wp2_with fail
  have P : Hid (Calls Try.prog 33 #[nilP] U fun e w' => e = .returned (nilP) ∧ w' = U) := hidIn (copy_off (off_nil _))
  refine P.out.mono ?_
  rintro e w0 ⟨rfl, hw⟩
  rw [hw]
  clear hw w0 P
  go_wp2_with fail
  have P : Hid (Calls Try.prog 33 #[ptr eb] U fun e w' => e = .returned (nilP) ∧ w' = U) := hidIn (copy_off (HOff.out _ HbU.out))
  refine P.out.mono ?_
  rintro e w0 ⟨rfl, hw⟩
  rw [hw]
  clear hw w0 P
  go_wp2_with fail
  go_returns
  exact ⟨rfl, BW.out.trans (HbU.out.mono sW)⟩
end Go.Proofs.Ytgblfpdhodfmbaa.Ca
