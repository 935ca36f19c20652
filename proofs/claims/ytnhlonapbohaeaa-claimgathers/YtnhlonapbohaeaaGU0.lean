/- The document's MayRecord. -/
import Derived.Test.YtnhlonapbohaeaaGS
namespace Go.Proofs.Ytnhlonapbohaeaa
open Go.RowKit

def lastG (l : List (Int × Int)) : Nat → Int
  | 0 => 0
  | k + 1 => (l[k]?.getD (0, 0)).1
theorem rec_noG {r : Rc} (h : isR r.origin = false) : recOk r = false := by simp [recOk, h]
theorem rec_restG {r : Rc} (h1 : isR r.origin = true) (h2 : 0 < r.epoch) (h3 : 0 < r.seq) (h4 : 0 ≤ r.claim) (h5 : r.claim ≤ 1024) (h6 : r.adjs.length ≤ 16) : recOk r = adjsOk r.origin 0 r.adjs := by simp [recOk, h1, h2, h3, h4, h5, h6]

set_option maxRecDepth 100000 in
set_option maxHeartbeats 2000000 in
theorem mayrec_any {r : Rc} {va : Value} {w : World} (hv : SlAt ac 2 w va r.adjs) (hep : 0 ≤ r.epoch) (hse : 0 ≤ r.seq) :
    Calls Try.prog 40 #[recV r va] w fun e w' => e = .returned (.bool (recOk r)) ∧ Below w.heap.size w w' := by
  obtain ⟨orig, epo, sq, cl, ig, as'⟩ := r
  simp only at hv hep hse ⊢
  obtain ⟨a, cap, rfl, hl, _, hat⟩ := hv.ads
  have Ha := hidIn hat
  clear hat hv
  obtain ⟨W1, hW1⟩ : ∃ W1, w.alloc (recO ⟨orig, epo, sq, cl, ig, as'⟩ (.slice a as'.length cap)) = W1 := ⟨_, rfl⟩
  have bA : Below w.heap.size w W1 := by rw [← hW1]; exact (Below.refl _ w).alloc (Nat.le_refl _) _
  have hGB : W1.heap[w.heap.size]? = some (recO ⟨orig, epo, sq, cl, ig, as'⟩ (.slice a as'.length cap)) := by rw [← hW1]; exact heap_alloc_last w _
  have hlt0 := block_lt hGB
  have HF : Hid (∀ wq, Below W1.heap.size W1 wq → (wq.cell? ⟨w.heap.size, 0, none⟩ = some (.int .i64 orig) ∧ wq.cell? ⟨w.heap.size, 5, none⟩ = some (.slice a as'.length cap)) ∧ Below w.heap.size w wq) := hidIn fun wq h => by
    have j0 := (h.block _ hlt0).trans hGB
    exact ⟨⟨cell_of_row _ _ 0 _ _ _ j0, cell_of_row _ _ 5 _ _ _ j0⟩, bA.trans (h.mono bA.size)⟩
  have g0 : W1.cell? ⟨w.heap.size, 0, none⟩ = some (.int .i64 orig) := cell_of_row _ _ 0 _ _ _ hGB
  have g1 : W1.cell? ⟨w.heap.size, 1, none⟩ = some (.int .u32 epo) := cell_of_row _ _ 1 _ _ _ hGB
  have g2 : W1.cell? ⟨w.heap.size, 2, none⟩ = some (.int .u32 sq) := cell_of_row _ _ 2 _ _ _ hGB
  have g3 : W1.cell? ⟨w.heap.size, 3, none⟩ = some (.int .i64 cl) := cell_of_row _ _ 3 _ _ _ hGB
  have g5 : W1.cell? ⟨w.heap.size, 5, none⟩ = some (.slice a as'.length cap) := cell_of_row _ _ 5 _ _ _ hGB
  have HW := hidIn hW1
  have HB1 := hidIn bA
  clear hW1 bA hGB
  go_enter Try.func40, Try.ntmps40
  go_upto_region 1 with fail
  rw [HW.out]
  clear HW
  go_wp2_with fail
  refine (rrouter_any orig W1).mono ?_
  rintro e w2 ⟨rfl, hb2⟩
  have HB2 := hidIn hb2
  have g0 := (hb2.cell (p := ⟨w.heap.size, 0, none⟩) hlt0).trans g0
  have g1 := (hb2.cell (p := ⟨w.heap.size, 1, none⟩) hlt0).trans g1
  have g2 := (hb2.cell (p := ⟨w.heap.size, 2, none⟩) hlt0).trans g2
  have g3 := (hb2.cell (p := ⟨w.heap.size, 3, none⟩) hlt0).trans g3
  have g5 := (hb2.cell (p := ⟨w.heap.size, 5, none⟩) hlt0).trans g5
  have HBW2 := hidIn (HF.out w2 HB2.out).2
  clear hb2
  obtain ⟨b1, hb1⟩ : ∃ b1, isR orig = b1 := ⟨_, rfl⟩
  have Hb1 := hidIn hb1
  rw [hb1]
  clear hb1
  cases b1
  · go_wp2_with fail
    go_ret
    exact ⟨by rw [rec_noG Hb1.out]; rfl, HBW2.out⟩
  by_cases he0 : epo = 0
  · have hq : (epo == 0) = true := by simpa using he0
    have He := hidIn he0
    clear he0
    go_wp2_with fail
    go_ret
    exact ⟨by rw [show recOk ⟨orig, epo, sq, cl, ig, as'⟩ = false by simp [recOk, He.out]]; rfl, HBW2.out⟩
  have hqe : (epo == 0) = false := by simpa using he0
  by_cases hs0 : sq = 0
  · have hq : (sq == 0) = true := by simpa using hs0
    have He := hidIn hs0
    clear hs0
    go_wp2_with fail
    go_ret
    exact ⟨by rw [show recOk ⟨orig, epo, sq, cl, ig, as'⟩ = false by simp [recOk, He.out]]; rfl, HBW2.out⟩
  have hqs : (sq == 0) = false := by simpa using hs0
  by_cases hc0 : cl < 0
  · go_wp2_with fail
    go_ret
    exact ⟨by rw [show recOk ⟨orig, epo, sq, cl, ig, as'⟩ = false by simp [recOk]; intro _ _ _ h; omega]; rfl, HBW2.out⟩
  by_cases hc1 : 1024 < cl
  · go_wp2_with fail
    go_ret
    exact ⟨by rw [show recOk ⟨orig, epo, sq, cl, ig, as'⟩ = false by simp [recOk]; intro _ _ _ _ h; omega]; rfl, HBW2.out⟩
  by_cases h16 : as'.length ≤ 16
  · have h16' : ¬ (16 : Int) < (as'.length : Int) := by omega
    have HG : Hid (recOk ⟨orig, epo, sq, cl, ig, as'⟩ = adjsOk orig 0 as') := hidIn (rec_restG Hb1.out (by show 0 < epo; omega) (by show 0 < sq; omega) (by show 0 ≤ cl; omega) (by show cl ≤ 1024; omega) h16)
    go_wp2_with fail
    clear g0 g1 g2 g3 g5
    go_loopw [3] (fun i wr => ∃ k : Nat, k ≤ as'.length ∧ i = .int .i64 k ∧ Hid (Below W1.heap.size W1 wr ∧ adjsOk orig 0 as' = adjsOk orig (lastG as' k) (as'.drop k))) (fun i _ => as'.length - (intOf i).toNat)
    case atStart => exact ⟨0, Nat.zero_le _, rfl, hidIn ⟨HB2.out, by rw [List.drop_zero]; rfl⟩⟩
    case round =>
      obtain ⟨k, hk, rfl, HR⟩ := hrel
      obtain ⟨hbel, hrest⟩ := HR.out
      have HB := hidIn hbel
      have HE := hidIn hrest
      clear HR hbel hrest
      obtain ⟨⟨f0, f1⟩, hbw⟩ := HF.out wr HB.out
      by_cases hlt : k < as'.length
      · obtain ⟨bk, o, rfl, hbk, hcell⟩ := Ha.out (by omega)
        obtain ⟨⟨x, y⟩, hz⟩ : ∃ z, as'[k]? = some z := ⟨as'[k], List.getElem?_eq_getElem hlt⟩
        have HN : Hid (adjsOk orig 0 as' = (adjOk orig (lastG as' k) (x, y) && adjsOk orig (lastG as' (k + 1)) (as'.drop (k + 1)))) := hidIn (by rw [HE.out, drop_next hz, adjsOk, lastG, hz]; rfl)
        obtain ⟨q0, q1⟩ := hcell k _ hz
        have c0 := (hbw.cell (p := ⟨bk, o + k * 2, none⟩) hbk).trans q0
        have c1 := (hbw.cell (p := ⟨bk, o + k * 2 + 1, none⟩) hbk).trans q1
        simp only at c0 c1
        have hki : (k : Int) < (as'.length : Int) := by omega
        obtain ⟨W5, hW5⟩ : ∃ W5, wr.alloc (.cells #[.int .i64 x, .int .i64 y] 83) = W5 := ⟨_, rfl⟩
        have bA : Below wr.heap.size wr W5 := by rw [← hW5]; exact (Below.refl _ wr).alloc (Nat.le_refl _) _
        have hXB : W5.heap[wr.heap.size]? = some (.cells #[.int .i64 x, .int .i64 y] 83) := by rw [← hW5]; exact heap_alloc_last wr _
        have x0 : W5.cell? ⟨wr.heap.size, 0, none⟩ = some (.int .i64 x) := cell_of_row _ _ 0 _ _ _ hXB
        have x1 : W5.cell? ⟨wr.heap.size, 1, none⟩ = some (.int .i64 y) := cell_of_row _ _ 1 _ _ _ hXB
        have HB5 := hidIn (HB.out.trans (bA.mono HB.out.size))
        obtain ⟨⟨e0, e5⟩, hbw5⟩ := HF.out W5 HB5.out
        have r0 := cell_regrown x0
        have r1 := cell_regrown x1
        have r2 := cell_regrown e0
        have r3 := cell_regrown e5
        have HY : Hid (0 < k → ∃ p, lastG as' k = p ∧ ∀ dd os, (Go.Sort.grow (redrawn W5 dd) os).cell? ⟨bk, o + (k - 1) * 2, none⟩ = some (.int .i64 p)) := hidIn fun h0 => by
          obtain ⟨⟨p, q⟩, hp⟩ : ∃ z, as'[k - 1]? = some z := ⟨as'[k - 1], List.getElem?_eq_getElem (by omega)⟩
          refine ⟨p, ?_, cell_regrown ((hbw5.cell (p := ⟨bk, o + (k - 1) * 2, none⟩) hbk).trans (hcell (k - 1) _ hp).1)⟩
          cases k with
          | zero => omega
          | succ j => simp only [Nat.add_sub_cancel] at hp; rw [lastG, hp]; rfl
        obtain ⟨b2, hb2⟩ : ∃ b2, isR x = b2 := ⟨_, rfl⟩
        have HRt : Hid (∀ dd os, Calls Try.prog 51 #[.int .i64 x] (Go.Sort.grow (redrawn W5 dd) os) fun e w' => e = .returned (.bool b2) ∧ Below (Go.Sort.grow (redrawn W5 dd) os).heap.size (Go.Sort.grow (redrawn W5 dd) os) w') := hidIn fun dd os => by rw [← hb2]; exact rrouter_any x _
        have Hb2 := hidIn hb2
        have HW := hidIn hW5
        obtain ⟨res, hres⟩ : ∃ res, res = !adjOk orig (lastG as' k) (x, y) := ⟨_, rfl⟩
        have Hres := hidIn hres
        clear hcell q0 q1 hz hW5 bA hXB x0 x1 e0 e5 hb2 hres
        go_upto_region 7 with fail
        rw [HW.out]
        clear HW c0 c1 f0 f1 hbw
        go_cut [83] (fun x1 wx => x1 = .bool res ∧ Below W1.heap.size W1 wx)
        case first =>
          cases b2
          · refine wp_region_quiet_below (by kernel_rfl) (by kernel_rfl) ?_
            repeat (go_big_quiet_step (first | (go_at_call 51; exact Calls.regrown_of (HRt.out _ _))))
            refine wpQuiet_nil ?_
            intro _ hw'
            obtain ⟨⟨dq, osq⟩, hw''⟩ := hw'
            subst hw''
            have HB4 := hidIn (HB5.out.trans ((below_regrown W5 dq osq).mono HB5.out.size))
            generalize Go.Sort.grow (redrawn W5 dq) osq = W4 at HB4 ⊢
            clear r0 r1 r2 r3 HRt
            go_wp2_with fail
            go_meet
            refine ⟨?_, HB4.out⟩
            rw [Hres.out]
            simp [adjOk, Hb2.out]
          by_cases hxo : x = orig
          · have hq : (x == orig) = true := by simpa using hxo
            have Hxo := hidIn hxo
            clear hxo
            refine wp_region_quiet_below (by kernel_rfl) (by kernel_rfl) ?_
            repeat (go_big_quiet_step (first | (go_at_call 51; exact Calls.regrown_of (HRt.out _ _))))
            refine wpQuiet_nil ?_
            intro _ hw'
            obtain ⟨⟨dq, osq⟩, hw''⟩ := hw'
            subst hw''
            have HB4 := hidIn (HB5.out.trans ((below_regrown W5 dq osq).mono HB5.out.size))
            generalize Go.Sort.grow (redrawn W5 dq) osq = W4 at HB4 ⊢
            clear r0 r1 r2 r3 HRt
            go_wp2_with fail
            go_meet
            refine ⟨?_, HB4.out⟩
            rw [Hres.out]
            simp [adjOk, Hxo.out]
          have hqo : (x == orig) = false := by simpa using hxo
          have Hxo := hidIn hxo
          clear hxo
          by_cases hy1 : y < 1
          · have hcc : isC y = false := by simp [isC]; omega
            have Hcc := hidIn hcc
            clear hcc
            refine wp_region_quiet_below (by kernel_rfl) (by kernel_rfl) ?_
            repeat (go_big_quiet_step (first | (go_at_call 51; exact Calls.regrown_of (HRt.out _ _))))
            refine wpQuiet_nil ?_
            intro _ hw'
            obtain ⟨⟨dq, osq⟩, hw''⟩ := hw'
            subst hw''
            have HB4 := hidIn (HB5.out.trans ((below_regrown W5 dq osq).mono HB5.out.size))
            generalize Go.Sort.grow (redrawn W5 dq) osq = W4 at HB4 ⊢
            clear r0 r1 r2 r3 HRt
            go_wp2_with fail
            go_meet
            refine ⟨?_, HB4.out⟩
            rw [Hres.out]
            simp [adjOk, Hcc.out]
          have hd1 : decide (y < 1) = false := by simpa using hy1
          by_cases hy2 : 1000 < y
          · have hcc : isC y = false := by simp [isC]; omega
            have Hcc := hidIn hcc
            clear hcc
            refine wp_region_quiet_below (by kernel_rfl) (by kernel_rfl) ?_
            repeat (go_big_quiet_step (first | (go_at_call 51; exact Calls.regrown_of (HRt.out _ _))))
            refine wpQuiet_nil ?_
            intro _ hw'
            obtain ⟨⟨dq, osq⟩, hw''⟩ := hw'
            subst hw''
            have HB4 := hidIn (HB5.out.trans ((below_regrown W5 dq osq).mono HB5.out.size))
            generalize Go.Sort.grow (redrawn W5 dq) osq = W4 at HB4 ⊢
            clear r0 r1 r2 r3 HRt
            go_wp2_with fail
            go_meet
            refine ⟨?_, HB4.out⟩
            rw [Hres.out]
            simp [adjOk, Hcc.out]
          have hd2 : decide (1000 < y) = false := by simpa using hy2
          have Hcc : Hid (isC y = true) := hidIn (isC_iff.2 ⟨by omega, by omega⟩)
          cases k with
          | zero =>
            refine wp_region_quiet_below (by kernel_rfl) (by kernel_rfl) ?_
            repeat (go_big_quiet_step (first | (go_at_call 51; exact Calls.regrown_of (HRt.out _ _))))
            refine wpQuiet_nil ?_
            intro _ hw'
            obtain ⟨⟨dq, osq⟩, hw''⟩ := hw'
            subst hw''
            have HB4 := hidIn (HB5.out.trans ((below_regrown W5 dq osq).mono HB5.out.size))
            generalize Go.Sort.grow (redrawn W5 dq) osq = W4 at HB4 ⊢
            clear r0 r1 r2 r3 HRt
            go_wp2_with fail
            go_meet
            refine ⟨?_, HB4.out⟩
            rw [Hres.out]
            have h1 := isR_iff.1 Hb2.out
            have h2 : decide (lastG as' 0 < x) = true := decide_eq_true (show (0 : Int) < x by omega)
            simp only [adjOk, Hb2.out, Hcc.out, h2, Hxo.out]
            rfl
          | succ j =>
            obtain ⟨p, hp, r4⟩ := HY.out (by omega)
            simp only [Nat.add_sub_cancel] at r4
            have Hp := hidIn hp
            clear hp HY
            have wr1 : IntKind.i64.wrap ((j : Int) + 1 - 1) = (j : Int) := by rw [IntKind.wrap_i64]; omega
            have wr2 : IntKind.i64.wrap (j : Int) = (j : Int) := by rw [IntKind.wrap_i64]; omega
            have hj0 : (0 : Int) < (j : Int) + 1 := by omega
            have hj1 : (j : Int) < (as'.length : Int) := by omega
            by_cases hxp : x ≤ p
            · refine wp_region_quiet_below (by kernel_rfl) (by kernel_rfl) ?_
              repeat (go_big_quiet_step (first | (go_at_call 51; exact Calls.regrown_of (HRt.out _ _))))
              refine wpQuiet_nil ?_
              intro _ hw'
              obtain ⟨⟨dq, osq⟩, hw''⟩ := hw'
              subst hw''
              have HB4 := hidIn (HB5.out.trans ((below_regrown W5 dq osq).mono HB5.out.size))
              generalize Go.Sort.grow (redrawn W5 dq) osq = W4 at HB4 ⊢
              clear r0 r1 r2 r3 HRt r4
              go_wp2_with fail
              go_meet
              refine ⟨?_, HB4.out⟩
              rw [Hres.out]
              have h2 : decide (lastG as' (j + 1) < x) = false := by rw [Hp.out]; simp; omega
              simp [adjOk, h2]
            · have hd3 : decide (x ≤ p) = false := by simpa using hxp
              refine wp_region_quiet_below (by kernel_rfl) (by kernel_rfl) ?_
              repeat (go_big_quiet_step (first | (go_at_call 51; exact Calls.regrown_of (HRt.out _ _))))
              refine wpQuiet_nil ?_
              intro _ hw'
              obtain ⟨⟨dq, osq⟩, hw''⟩ := hw'
              subst hw''
              have HB4 := hidIn (HB5.out.trans ((below_regrown W5 dq osq).mono HB5.out.size))
              generalize Go.Sort.grow (redrawn W5 dq) osq = W4 at HB4 ⊢
              clear r0 r1 r2 r3 HRt r4
              go_wp2_with fail
              go_meet
              refine ⟨?_, HB4.out⟩
              rw [Hres.out]
              have h2 : decide (lastG as' (j + 1) < x) = true := by rw [Hp.out]; simp; omega
              simp only [adjOk, Hb2.out, Hcc.out, h2, Hxo.out]
              rfl
        case rest =>
          obtain ⟨rfl, hbc⟩ := hcut
          have HBc := hidIn hbc
          have HBWc := hidIn (HF.out wc hbc).2
          clear hbc r0 r1 r2 r3 HRt HY
          cases res
          · have HA : Hid (adjOk orig (lastG as' k) (x, y) = true) := hidIn (by have := Hres.out; simpa using this.symm)
            go_wp2_with fail
            go_roundw
            case rel =>
              refine ⟨k + 1, by omega, by go_num, hidIn ⟨HBc.out, ?_⟩⟩
              rw [HN.out, HA.out]
              rfl
            case measure => simp [intOf]; omega
          · have HA : Hid (adjOk orig (lastG as' k) (x, y) = false) := hidIn (by have := Hres.out; simpa using this.symm)
            go_wp2_with fail
            go_returns
            exact ⟨by rw [HG.out, HN.out, HA.out]; rfl, HBWc.out⟩
      · have hki : ¬ ((k : Int) < (as'.length : Int)) := by omega
        have HT : Hid (recOk ⟨orig, epo, sq, cl, ig, as'⟩ = true) := hidIn (by rw [HG.out, HE.out, List.drop_eq_nil_of_le (by omega)]; rfl)
        go_wp2_with fail
        go_returns
        exact ⟨by rw [HT.out]; rfl, hbw⟩
  · have h16' : (16 : Int) < (as'.length : Int) := by omega
    go_wp2_with fail
    go_ret
    exact ⟨by rw [show recOk ⟨orig, epo, sq, cl, ig, as'⟩ = false by simp [recOk, h16]]; rfl, HBW2.out⟩
end Go.Proofs.Ytnhlonapbohaeaa
