/- TallyKnown: the walk. -/
import Derived.Test.YtkkkjpdmjgafoaaAN
namespace Go.Proofs.Ytkkkjpdmjgafoaa
open Go.RowKit

def kn (k : Nat) : Int := if k = 0 then 0 else if k = 1 then 25 else -1
theorem kn_no (k : Nat) : ¬ (1 ≤ kn k ∧ kn k ≤ 24) := by unfold kn; split <;> (try split) <;> omega
set_option maxRecDepth 100000 in
set_option maxHeartbeats 4000000 in
theorem tallyKnown_walk (w : World) : Calls Try.prog 6 #[] w fun e w' => e = .returned (.bool true) ∧ Below w.heap.size w w' := by
  have hE1 : cV (stepC true 2 (Bi.cntTo 256 257) (Bi.cntTo 256 0)) = .agg #[.int .u64 1, .int .u64 1, .int .u64 2, .int .u64 2, .int .u64 0, .int .u64 0] := by kernel_rfl
  have hE2 : cV (stepC false 0 (Bi.cntTo 256 0) (Bi.cntTo 256 0)) = .agg #[.int .u64 1, .int .u64 0, .int .u64 0, .int .u64 0, .int .u64 0, .int .u64 0] := by kernel_rfl
  have hE3 : dnV false (.slice none 0 0) 0 0 = .agg #[.bool false, .slice none 0 0, .int .u64 0, .int .u64 0, .int .u64 0, .int .u64 0, .int .u64 0, .int .u64 0, .int .u64 0, .int .u64 0] := by kernel_rfl
  have hE4 : cV (allC noT 25) = cV0 := by rw [allC_no]; kernel_rfl
  have HO1 : Hid (∀ (wx : World) a c, Calls Try.prog 9 #[dnV true (.slice a 2 c) 257 0] wx fun e w' => e = .returned (.agg #[.int .u64 1, .int .u64 1, .int .u64 2, .int .u64 2, .int .u64 0, .int .u64 0]) ∧ Below wx.heap.size wx w') := hidIn fun wx a c => by
    have := tof_any true a 2 c (by omega) 257 0 wx
    rw [hE1] at this
    exact this
  have HO2 : Hid (∀ (wx : World), Calls Try.prog 9 #[.agg #[.bool false, .slice none 0 0, .int .u64 0, .int .u64 0, .int .u64 0, .int .u64 0, .int .u64 0, .int .u64 0, .int .u64 0, .int .u64 0]] wx fun e w' => e = .returned (.agg #[.int .u64 1, .int .u64 0, .int .u64 0, .int .u64 0, .int .u64 0, .int .u64 0]) ∧ Below wx.heap.size wx w') := hidIn fun wx => by
    have := tof_any false none 0 0 (by omega) 0 0 wx
    rw [hE2, hE3] at this
    exact this
  have HAll : Hid (∀ (wx : World) (b : Nat), TaAt wx b noT → Calls Try.prog 18 #[tp b] wx fun e w' => e = .returned cV0 ∧ Below wx.heap.size wx w') := hidIn fun wx b h => by
    have := tall_any h noT_ok
    rw [hE4] at this
    exact this
  have Hwk := hidIn (fun wx => tworks_any wx)
  have Hz := hidIn (fun wx => zeroTa wx)
  have Hc : Hid (((.bool false :: tcl noT).toArray)[0]? = some (Value.bool false)) := hidIn (by simp)
  clear hE1 hE2 hE3 hE4
  obtain ⟨ZA, hZA⟩ : ∃ ZA, (Value.bool false :: tcl noT).toArray = ZA := ⟨_, rfl⟩
  rw [hZA] at Hz Hc
  clear hZA
  go_enter Try.func6, Try.ntmps6
  go_wp2_with fail
  refine (tnew_any _).mono ?_
  rintro e w1 ⟨rfl, hw1⟩
  have HT1 : Hid (TaAt w1 w.heap.size noT) := hidIn (by rw [hw1]; exact taAt_new w noT)
  have HF1 : Hid (Below w.heap.size w w1) := hidIn (by rw [hw1]; exact (Below.refl _ w).alloc (Nat.le_refl _) _)
  obtain ⟨q, hq⟩ : ∃ q, w.heap.size = q := ⟨_, rfl⟩
  rw [hq] at HT1 ⊢
  have Hq := hidIn hq
  clear hw1 hq
  go_upto_region 5 with fail
  have hz := heap_alloc_last w1 (.cells #[.int .i64 0, .int .i64 25, .int .i64 (-1)] 3)
  have hb2 : Below w1.heap.size w1 (w1.alloc (.cells #[.int .i64 0, .int .i64 25, .int .i64 (-1)] 3)) := (Below.refl _ w1).alloc (Nat.le_refl _) _
  have HT2 := hidIn (HT1.out.keep hb2 HT1.out.lt)
  have HF2 := hidIn (HF1.out.trans (hb2.mono HF1.out.size))
  have hqg : q < w1.heap.size := HT1.out.lt
  obtain ⟨g, hgg⟩ : ∃ g, w1.heap.size = g := ⟨_, rfl⟩
  rw [hgg] at hz hqg ⊢
  clear hb2
  generalize World.alloc _ _ = w2 at hz HT2 HF2 ⊢
  have HZ := hidIn hz
  clear hz hgg HT1 HF1
  go_loopw [14] (fun i wr => ∃ k : Nat, k ≤ 3 ∧ i = .int .i64 k ∧ Hid (TaAt wr q noT ∧ Below w.heap.size w wr ∧ wr.heap[g]? = some (.cells #[.int .i64 0, .int .i64 25, .int .i64 (-1)] 3))) (fun i _ => 3 - (intOf i).toNat)
  case atStart => exact ⟨0, by omega, rfl, hidIn ⟨HT2.out, HF2.out, HZ.out⟩⟩
  case round =>
    clear HT2 HF2 HZ
    obtain ⟨k, hk3, rfl, HR⟩ := hrel
    by_cases hlt : k < 3
    · have hki : (k : Int) < 3 := by omega
      have hce : wr.cell? ⟨g, k, none⟩ = some (.int .i64 (kn k)) := by
        have := cell_of_row _ _ k _ _ _ HR.out.2.2
        rw [this]
        match k, hlt with
        | 0, _ => rfl
        | 1, _ => rfl
        | 2, _ => rfl
      have hno := kn_no k
      obtain ⟨nk, hnk⟩ : ∃ nk, kn k = nk := ⟨_, rfl⟩
      rw [hnk] at hce hno
      have Hno := hidIn hno
      clear hnk hno HO1 HO2 HAll Hwk Hz Hc
      go_wp2_with fail
      refine (tat_no HR.out.1 nk Hno.out).mono ?_
      rintro e w3 ⟨rfl, hb3⟩
      have HT3 := hidIn (HR.out.1.keep hb3 HR.out.1.lt)
      have HF3 := hidIn (HR.out.2.1.trans (hb3.mono HR.out.2.1.size))
      have HZ3 := hidIn ((hb3.block _ (block_lt HR.out.2.2)).trans HR.out.2.2)
      clear hb3 HR hce
      go_upto_region 8 with fail
      have hb4 : Below w3.heap.size w3 (w3.alloc (cO noC)) := (Below.refl _ w3).alloc (Nat.le_refl _) _
      have HT4 := hidIn (HT3.out.keep hb4 HT3.out.lt)
      have HF4 := hidIn (HF3.out.trans (hb4.mono HF3.out.size))
      have HZ4 := hidIn ((hb4.block _ (block_lt HZ3.out)).trans HZ3.out)
      clear hb4 HT3 HF3 HZ3
      generalize World.alloc _ _ = w4 at HT4 HF4 HZ4 ⊢
      go_wp2_with fail
      refine (exampleD_any _).mono ?_
      rintro e w5 ⟨⟨a5, c5, rfl⟩, hb5⟩
      have HT5 := hidIn (HT4.out.keep hb5 HT4.out.lt)
      have HF5 := hidIn (HF4.out.trans (hb5.mono HF4.out.size))
      have HZ5 := hidIn ((hb5.block _ (block_lt HZ4.out)).trans HZ4.out)
      clear hb5 HT4 HF4 HZ4
      go_wp2_with fail
      refine (tnote_no HT5.out nk Hno.out true a5 2 c5 (by omega) 257 0).mono ?_
      rintro e w6 ⟨rfl, hb6⟩
      have HT6 := hidIn (HT5.out.keep hb6 HT5.out.lt)
      have HF6 := hidIn (HF5.out.trans (hb6.mono HF5.out.size))
      have HZ6 := hidIn ((hb6.block _ (block_lt HZ5.out)).trans HZ5.out)
      clear hb6 HT5 HF5 HZ5
      go_wp2_with fail
      refine (tbad_no HT6.out nk Hno.out).mono ?_
      rintro e w7 ⟨rfl, hb7⟩
      have HT7 := hidIn (HT6.out.keep hb7 HT6.out.lt)
      have HF7 := hidIn (HF6.out.trans (hb7.mono HF6.out.size))
      have HZ7 := hidIn ((hb7.block _ (block_lt HZ6.out)).trans HZ6.out)
      clear hb7 HT6 HF6 HZ6
      go_wp2_with fail
      refine (tclear_no HT7.out nk Hno.out).mono ?_
      rintro e w8 ⟨rfl, hw8⟩
      rw [hw8]
      clear hw8 w8
      go_wp2_with fail
      go_roundw
      case rel => exact ⟨k + 1, by omega, by go_num, hidIn ⟨HT7.out, HF7.out, HZ7.out⟩⟩
      case measure => simp [intOf]; omega
    · have hki : ¬ (k : Int) < 3 := by omega
      have HT3 := hidIn HR.out.1
      have HF3 := hidIn HR.out.2.1
      clear HR
      go_wp2_with fail
      refine (exampleD_any _).mono ?_
      rintro e w5 ⟨⟨a5, c5, rfl⟩, hb5⟩
      have HT5 := hidIn (HT3.out.keep hb5 HT3.out.lt)
      have HF5 := hidIn (HF3.out.trans (hb5.mono HF3.out.size))
      clear hb5 HT3 HF3
      go_wp2_with fail
      refine (HO1.out _ a5 c5).mono ?_
      rintro e w6 ⟨rfl, hb6⟩
      have HT6 := hidIn (HT5.out.keep hb6 HT5.out.lt)
      have HF6 := hidIn (HF5.out.trans (hb6.mono HF5.out.size))
      clear hb6 HT5 HF5 HO1
      have hq1 := fun w => eq_refl6 1 1 2 2 0 0 w
      go_wp2_with fail
      refine (HO2.out _).mono ?_
      rintro e w7 ⟨rfl, hb7⟩
      have HT7 := hidIn (HT6.out.keep hb7 HT6.out.lt)
      have HF7 := hidIn (HF6.out.trans (hb7.mono HF6.out.size))
      clear hb7 HT6 HF6 HO2 hq1
      have hq2 := fun w => eq_refl6 1 0 0 0 0 0 w
      go_wp2_with fail
      refine (tat_nil 1 _).mono ?_
      rintro e w8 ⟨rfl, hb8⟩
      have HT8 := hidIn (HT7.out.keep hb8 HT7.out.lt)
      have HF8 := hidIn (HF7.out.trans (hb8.mono HF7.out.size))
      clear hb8 HT7 HF7 hq2
      go_upto_region 15 with fail
      have hb9 : Below w8.heap.size w8 (w8.alloc cO0) := (Below.refl _ w8).alloc (Nat.le_refl _) _
      have HT9 := hidIn (HT8.out.keep hb9 HT8.out.lt)
      have HF9 := hidIn (HF8.out.trans (hb9.mono HF8.out.size))
      clear hb9 HT8 HF8
      generalize World.alloc _ _ = w9 at HT9 HF9 ⊢
      go_wp2_with fail
      refine (exampleD_any _).mono ?_
      rintro e wa ⟨⟨aa, ca, rfl⟩, hba⟩
      have HTa := hidIn (HT9.out.keep hba HT9.out.lt)
      have HFa := hidIn (HF9.out.trans (hba.mono HF9.out.size))
      clear hba HT9 HF9
      go_wp2_with fail
      refine (tnote_nil 1 _ true aa 2 ca (by omega) 257 0).mono ?_
      rintro e wb ⟨rfl, hbb⟩
      have HTb := hidIn (HTa.out.keep hbb HTa.out.lt)
      have HFb := hidIn (HFa.out.trans (hbb.mono HFa.out.size))
      clear hbb HTa HFa
      have hz0 := Hz.out
      go_wp2_with fail
      have hal : Below wb.heap.size wb (wb.alloc (.cells ZA 62)) := (Below.refl _ wb).alloc (Nat.le_refl _) _
      have hcz : (wb.alloc (.cells ZA 62)).cell? ⟨wb.heap.size, 0, none⟩ = some (.bool false) := by
        have := cell_of_row _ _ 0 _ _ _ (heap_alloc_last wb (.cells ZA 62))
        rw [this]
        exact Hc.out
      have HTc := hidIn (HTb.out.keep hal HTb.out.lt)
      have HFc := hidIn (HFb.out.trans (hal.mono HFb.out.size))
      clear hal HTb HFb hz0
      refine (tbad_off hcz 1).mono ?_
      rintro e wc ⟨rfl, hbc⟩
      have HTd := hidIn (HTc.out.keep hbc HTc.out.lt)
      have HFd := hidIn (HFc.out.trans (hbc.mono HFc.out.size))
      clear hbc HTc HFc hcz
      go_wp2_with fail
      refine (tclear_nil 0 _).mono ?_
      rintro e wd ⟨rfl, hwd⟩
      rw [hwd]
      clear hwd wd
      go_wp2_with fail
      refine (tcopy_nil _).mono ?_
      rintro e wd ⟨rfl, hwd⟩
      rw [hwd]
      clear hwd wd
      go_wp2_with fail
      refine (tall_nil _).mono ?_
      rintro e we ⟨rfl, hbe⟩
      have HTe := hidIn (HTd.out.keep hbe HTd.out.lt)
      have HFe := hidIn (HFd.out.trans (hbe.mono HFd.out.size))
      clear hbe HTd HFd
      have hq0 := fun w => eq_refl6 0 0 0 0 0 0 w
      go_wp2_with fail
      refine (HAll.out _ q HTe.out).mono ?_
      rintro e wf ⟨rfl, hbf⟩
      have HFf := hidIn (HFe.out.trans (hbf.mono HFe.out.size))
      clear hbf HTe HFe
      go_wp2_with fail
      refine (Hwk.out _).mono ?_
      rintro e wg ⟨rfl, hbg⟩
      have HFg := hidIn (HFf.out.trans (hbg.mono HFf.out.size))
      clear hbg HFf
      go_wp2_with fail
      go_ret
      exact ⟨rfl, HFg.out⟩
end Go.Proofs.Ytkkkjpdmjgafoaa
