/- The document's Check. The document's Encode. RecordTells. The document's Put. What is missing, as lists (pure): the stamps by origin against the document's find. The document's Missing. -/
import Derived.Test.YtpdpdhnllmlfdaaZ1
import Derived.Deep.RegionHeld3
import Derived.Deep.RegionHeld
namespace Go.Proofs.Ytpdpdhnllmlfdaa
open Go.RowKit

theorem drtB_any (n : Int) (w : World) : Calls Try.prog 52 #[.int .i64 n] w fun e w' => e = .returned (.bool (isR n)) ∧ Below w.heap.size w w' := (drt_any n w).mono fun _ _ h => ⟨h.1, by rw [h.2]; exact Below.refl _ _⟩
def lastA (l : List (Int × Int)) : Nat → Int
  | 0 => 0
  | k + 1 => (l[k]?.getD (0, 0)).1
theorem rec_no1 {r : Rc} (h : isR r.origin = false) : recOk r = false := by simp [recOk, h]
theorem rec_rest {r : Rc} (h1 : isR r.origin = true) (h2 : 0 < r.epoch) (h3 : 0 < r.seq) (h4 : 0 ≤ r.claim) (h5 : r.claim ≤ 1024) (h6 : r.adjs.length ≤ 16) : recOk r = adjsOk r.origin 0 r.adjs := by simp [recOk, h1, h2, h3, h4, h5, h6]

set_option maxRecDepth 100000 in
set_option maxHeartbeats 2000000 in
theorem dcheck_any {r : Rc} {va : Value} {w : World} (hv : SlAt ac 2 w va r.adjs) (hep : 0 ≤ r.epoch) (hse : 0 ≤ r.seq) :
    Calls Try.prog 34 #[recV r va] w fun e w' => e = .returned (.int .i64 (ckN r)) ∧ Below w.heap.size w w' := by
  obtain ⟨orig, epo, sq, cl, ig, as'⟩ := r
  simp only at hv hep hse ⊢
  obtain ⟨a, cap, rfl, hl, _, hat⟩ := hv.ads
  have Ha := hidIn hat
  clear hat hv
  obtain ⟨W1, hW1⟩ : ∃ W1, w.alloc (recO ⟨orig, epo, sq, cl, ig, as'⟩ (.slice a as'.length cap)) = W1 := ⟨_, rfl⟩
  have bA : Below w.heap.size w W1 := by rw [← hW1]; exact (Below.refl _ w).alloc (Nat.le_refl _) _
  have hGB : W1.heap[w.heap.size]? = some (recO ⟨orig, epo, sq, cl, ig, as'⟩ (.slice a as'.length cap)) := by rw [← hW1]; exact heap_alloc_last w _
  have hlt0 := block_lt hGB
  have HF : Hid (∀ wq, Below W1.heap.size W1 wq → (wq.cell? ⟨w.heap.size, 0, none⟩ = some (.int .i64 orig) ∧ wq.cell? ⟨w.heap.size, 5, none⟩ = some (.slice a as'.length cap)) ∧ Below w.heap.size w wq) := hidIn fun wq h => by
    have j0 := (h.block _ hlt0).trans hGB
    exact ⟨⟨cell_of_row _ _ 0 _ _ _ j0, cell_of_row _ _ 5 _ _ _ j0⟩, bA.trans (h.mono bA.size)⟩
  have g0 : W1.cell? ⟨w.heap.size, 0, none⟩ = some (.int .i64 orig) := cell_of_row _ _ 0 _ _ _ hGB
  have g1 : W1.cell? ⟨w.heap.size, 1, none⟩ = some (.int .u32 epo) := cell_of_row _ _ 1 _ _ _ hGB
  have g2 : W1.cell? ⟨w.heap.size, 2, none⟩ = some (.int .u32 sq) := cell_of_row _ _ 2 _ _ _ hGB
  have g3 : W1.cell? ⟨w.heap.size, 3, none⟩ = some (.int .i64 cl) := cell_of_row _ _ 3 _ _ _ hGB
  have g5 : W1.cell? ⟨w.heap.size, 5, none⟩ = some (.slice a as'.length cap) := cell_of_row _ _ 5 _ _ _ hGB
  have HW := hidIn hW1
  have HB1 := hidIn bA
  clear hW1 bA hGB
  go_enter Try.func34, Try.ntmps34
  go_upto_region 1 with fail
  rw [HW.out]
  clear HW
  go_wp2_with fail
  refine (drtB_any orig W1).mono ?_
  rintro e w2 ⟨rfl, hb2⟩
  have HB2 := hidIn hb2
  have g0 := (hb2.cell (p := ⟨w.heap.size, 0, none⟩) hlt0).trans g0
  have g1 := (hb2.cell (p := ⟨w.heap.size, 1, none⟩) hlt0).trans g1
  have g2 := (hb2.cell (p := ⟨w.heap.size, 2, none⟩) hlt0).trans g2
  have g3 := (hb2.cell (p := ⟨w.heap.size, 3, none⟩) hlt0).trans g3
  have g5 := (hb2.cell (p := ⟨w.heap.size, 5, none⟩) hlt0).trans g5
  have HBW2 := hidIn (HF.out w2 HB2.out).2
  clear hb2
  obtain ⟨b1, hb1⟩ : ∃ b1, isR orig = b1 := ⟨_, rfl⟩
  have Hb1 := hidIn hb1
  rw [hb1]
  clear hb1
  cases b1
  · go_wp2_with fail
    go_ret
    exact ⟨by unfold ckN; rw [rec_no1 Hb1.out]; rfl, HBW2.out⟩
  by_cases he0 : epo = 0
  · have hq : (epo == 0) = true := by simpa using he0
    have He := hidIn he0
    clear he0
    go_wp2_with fail
    go_ret
    exact ⟨by unfold ckN; rw [show recOk ⟨orig, epo, sq, cl, ig, as'⟩ = false by simp [recOk, He.out]]; rfl, HBW2.out⟩
  have hqe : (epo == 0) = false := by simpa using he0
  by_cases hs0 : sq = 0
  · have hq : (sq == 0) = true := by simpa using hs0
    have He := hidIn hs0
    clear hs0
    go_wp2_with fail
    go_ret
    exact ⟨by unfold ckN; rw [show recOk ⟨orig, epo, sq, cl, ig, as'⟩ = false by simp [recOk, He.out]]; rfl, HBW2.out⟩
  have hqs : (sq == 0) = false := by simpa using hs0
  by_cases hc0 : cl < 0
  · go_wp2_with fail
    go_ret
    exact ⟨by unfold ckN; rw [show recOk ⟨orig, epo, sq, cl, ig, as'⟩ = false by simp [recOk]; intro _ _ _ h; omega]; rfl, HBW2.out⟩
  by_cases hc1 : 1024 < cl
  · go_wp2_with fail
    go_ret
    exact ⟨by unfold ckN; rw [show recOk ⟨orig, epo, sq, cl, ig, as'⟩ = false by simp [recOk]; intro _ _ _ _ h; omega]; rfl, HBW2.out⟩
  by_cases h16 : as'.length ≤ 16
  · have h16' : ¬ (16 : Int) < (as'.length : Int) := by omega
    have HG : Hid (recOk ⟨orig, epo, sq, cl, ig, as'⟩ = adjsOk orig 0 as') := hidIn (rec_rest Hb1.out (by show 0 < epo; omega) (by show 0 < sq; omega) (by show 0 ≤ cl; omega) (by show cl ≤ 1024; omega) h16)
    go_wp2_with fail
    clear g0 g1 g2 g3 g5
    go_loopw [3] (fun i wr => ∃ k : Nat, k ≤ as'.length ∧ i = .int .i64 k ∧ Hid (Below W1.heap.size W1 wr ∧ adjsOk orig 0 as' = adjsOk orig (lastA as' k) (as'.drop k))) (fun i _ => as'.length - (intOf i).toNat)
    case atStart => exact ⟨0, Nat.zero_le _, rfl, hidIn ⟨HB2.out, by rw [List.drop_zero]; rfl⟩⟩
    case round =>
      obtain ⟨k, hk, rfl, HR⟩ := hrel
      obtain ⟨hbel, hrest⟩ := HR.out
      have HB := hidIn hbel
      have HE := hidIn hrest
      clear HR hbel hrest
      obtain ⟨⟨f0, f1⟩, hbw⟩ := HF.out wr HB.out
      by_cases hlt : k < as'.length
      · obtain ⟨bk, o, rfl, hbk, hcell⟩ := Ha.out (by omega)
        obtain ⟨⟨x, y⟩, hz⟩ : ∃ z, as'[k]? = some z := ⟨as'[k], List.getElem?_eq_getElem hlt⟩
        have HN : Hid (adjsOk orig 0 as' = (adjOk orig (lastA as' k) (x, y) && adjsOk orig (lastA as' (k + 1)) (as'.drop (k + 1)))) := hidIn (by rw [HE.out, drop_next hz, adjsOk, lastA, hz]; rfl)
        obtain ⟨q0, q1⟩ := hcell k _ hz
        have c0 := (hbw.cell (p := ⟨bk, o + k * 2, none⟩) hbk).trans q0
        have c1 := (hbw.cell (p := ⟨bk, o + k * 2 + 1, none⟩) hbk).trans q1
        simp only at c0 c1
        have hki : (k : Int) < (as'.length : Int) := by omega
        obtain ⟨W5, hW5⟩ : ∃ W5, wr.alloc (.cells #[.int .i64 x, .int .i64 y] 75) = W5 := ⟨_, rfl⟩
        have bA : Below wr.heap.size wr W5 := by rw [← hW5]; exact (Below.refl _ wr).alloc (Nat.le_refl _) _
        have hXB : W5.heap[wr.heap.size]? = some (.cells #[.int .i64 x, .int .i64 y] 75) := by rw [← hW5]; exact heap_alloc_last wr _
        have x0 : W5.cell? ⟨wr.heap.size, 0, none⟩ = some (.int .i64 x) := cell_of_row _ _ 0 _ _ _ hXB
        have x1 : W5.cell? ⟨wr.heap.size, 1, none⟩ = some (.int .i64 y) := cell_of_row _ _ 1 _ _ _ hXB
        have HB5 := hidIn (HB.out.trans (bA.mono HB.out.size))
        obtain ⟨⟨e0, e5⟩, hbw5⟩ := HF.out W5 HB5.out
        have r0 := cell_regrown x0
        have r1 := cell_regrown x1
        have r2 := cell_regrown e0
        have r3 := cell_regrown e5
        have HY : Hid (0 < k → ∃ p, lastA as' k = p ∧ ∀ dd os, (Go.Sort.grow (redrawn W5 dd) os).cell? ⟨bk, o + (k - 1) * 2, none⟩ = some (.int .i64 p)) := hidIn fun h0 => by
          obtain ⟨⟨p, q⟩, hp⟩ : ∃ z, as'[k - 1]? = some z := ⟨as'[k - 1], List.getElem?_eq_getElem (by omega)⟩
          refine ⟨p, ?_, cell_regrown ((hbw5.cell (p := ⟨bk, o + (k - 1) * 2, none⟩) hbk).trans (hcell (k - 1) _ hp).1)⟩
          cases k with
          | zero => omega
          | succ j => simp only [Nat.add_sub_cancel] at hp; rw [lastA, hp]; rfl
        obtain ⟨b2, hb2⟩ : ∃ b2, isR x = b2 := ⟨_, rfl⟩
        have HRt : Hid (∀ dd os, Calls Try.prog 52 #[.int .i64 x] (Go.Sort.grow (redrawn W5 dd) os) fun e w' => e = .returned (.bool b2) ∧ Below (Go.Sort.grow (redrawn W5 dd) os).heap.size (Go.Sort.grow (redrawn W5 dd) os) w') := hidIn fun dd os => by rw [← hb2]; exact drtB_any x _
        have Hb2 := hidIn hb2
        have HW := hidIn hW5
        obtain ⟨res, hres⟩ : ∃ res, res = !adjOk orig (lastA as' k) (x, y) := ⟨_, rfl⟩
        have Hres := hidIn hres
        clear hcell q0 q1 hz hW5 bA hXB x0 x1 e0 e5 hb2 hres
        go_upto_region 7 with fail
        rw [HW.out]
        clear HW c0 c1 f0 f1 hbw
        go_cut [83] (fun x1 wx => x1 = .bool res ∧ Below W1.heap.size W1 wx)
        case first =>
          cases b2
          · refine wp_region_quiet_below (by kernel_rfl) (by kernel_rfl) ?_
            repeat (go_big_quiet_step (first | (go_at_call 52; exact Calls.regrown_of (HRt.out _ _))))
            refine wpQuiet_nil ?_
            intro _ hw'
            obtain ⟨⟨dq, osq⟩, hw''⟩ := hw'
            subst hw''
            have HB4 := hidIn (HB5.out.trans ((below_regrown W5 dq osq).mono HB5.out.size))
            generalize Go.Sort.grow (redrawn W5 dq) osq = W4 at HB4 ⊢
            clear r0 r1 r2 r3 HRt
            go_wp2_with fail
            go_meet
            refine ⟨?_, HB4.out⟩
            rw [Hres.out]
            simp [adjOk, Hb2.out]
          by_cases hxo : x = orig
          · have hq : (x == orig) = true := by simpa using hxo
            have Hxo := hidIn hxo
            clear hxo
            refine wp_region_quiet_below (by kernel_rfl) (by kernel_rfl) ?_
            repeat (go_big_quiet_step (first | (go_at_call 52; exact Calls.regrown_of (HRt.out _ _))))
            refine wpQuiet_nil ?_
            intro _ hw'
            obtain ⟨⟨dq, osq⟩, hw''⟩ := hw'
            subst hw''
            have HB4 := hidIn (HB5.out.trans ((below_regrown W5 dq osq).mono HB5.out.size))
            generalize Go.Sort.grow (redrawn W5 dq) osq = W4 at HB4 ⊢
            clear r0 r1 r2 r3 HRt
            go_wp2_with fail
            go_meet
            refine ⟨?_, HB4.out⟩
            rw [Hres.out]
            simp [adjOk, Hxo.out]
          have hqo : (x == orig) = false := by simpa using hxo
          have Hxo := hidIn hxo
          clear hxo
          by_cases hy1 : y < 1
          · have hcc : isC y = false := by simp [isC]; omega
            have Hcc := hidIn hcc
            clear hcc
            refine wp_region_quiet_below (by kernel_rfl) (by kernel_rfl) ?_
            repeat (go_big_quiet_step (first | (go_at_call 52; exact Calls.regrown_of (HRt.out _ _))))
            refine wpQuiet_nil ?_
            intro _ hw'
            obtain ⟨⟨dq, osq⟩, hw''⟩ := hw'
            subst hw''
            have HB4 := hidIn (HB5.out.trans ((below_regrown W5 dq osq).mono HB5.out.size))
            generalize Go.Sort.grow (redrawn W5 dq) osq = W4 at HB4 ⊢
            clear r0 r1 r2 r3 HRt
            go_wp2_with fail
            go_meet
            refine ⟨?_, HB4.out⟩
            rw [Hres.out]
            simp [adjOk, Hcc.out]
          have hd1 : decide (y < 1) = false := by simpa using hy1
          by_cases hy2 : 1000 < y
          · have hcc : isC y = false := by simp [isC]; omega
            have Hcc := hidIn hcc
            clear hcc
            refine wp_region_quiet_below (by kernel_rfl) (by kernel_rfl) ?_
            repeat (go_big_quiet_step (first | (go_at_call 52; exact Calls.regrown_of (HRt.out _ _))))
            refine wpQuiet_nil ?_
            intro _ hw'
            obtain ⟨⟨dq, osq⟩, hw''⟩ := hw'
            subst hw''
            have HB4 := hidIn (HB5.out.trans ((below_regrown W5 dq osq).mono HB5.out.size))
            generalize Go.Sort.grow (redrawn W5 dq) osq = W4 at HB4 ⊢
            clear r0 r1 r2 r3 HRt
            go_wp2_with fail
            go_meet
            refine ⟨?_, HB4.out⟩
            rw [Hres.out]
            simp [adjOk, Hcc.out]
          have hd2 : decide (1000 < y) = false := by simpa using hy2
          have Hcc : Hid (isC y = true) := hidIn (isC_iff.2 ⟨by omega, by omega⟩)
          cases k with
          | zero =>
            refine wp_region_quiet_below (by kernel_rfl) (by kernel_rfl) ?_
            repeat (go_big_quiet_step (first | (go_at_call 52; exact Calls.regrown_of (HRt.out _ _))))
            refine wpQuiet_nil ?_
            intro _ hw'
            obtain ⟨⟨dq, osq⟩, hw''⟩ := hw'
            subst hw''
            have HB4 := hidIn (HB5.out.trans ((below_regrown W5 dq osq).mono HB5.out.size))
            generalize Go.Sort.grow (redrawn W5 dq) osq = W4 at HB4 ⊢
            clear r0 r1 r2 r3 HRt
            go_wp2_with fail
            go_meet
            refine ⟨?_, HB4.out⟩
            rw [Hres.out]
            have h1 := isR_iff.1 Hb2.out
            have h2 : decide (lastA as' 0 < x) = true := decide_eq_true (show (0 : Int) < x by omega)
            simp only [adjOk, Hb2.out, Hcc.out, h2, Hxo.out]
            rfl
          | succ j =>
            obtain ⟨p, hp, r4⟩ := HY.out (by omega)
            simp only [Nat.add_sub_cancel] at r4
            have Hp := hidIn hp
            clear hp HY
            have wr1 : IntKind.i64.wrap ((j : Int) + 1 - 1) = (j : Int) := by rw [IntKind.wrap_i64]; omega
            have wr2 : IntKind.i64.wrap (j : Int) = (j : Int) := by rw [IntKind.wrap_i64]; omega
            have hj0 : (0 : Int) < (j : Int) + 1 := by omega
            have hj1 : (j : Int) < (as'.length : Int) := by omega
            by_cases hxp : x ≤ p
            · refine wp_region_quiet_below (by kernel_rfl) (by kernel_rfl) ?_
              repeat (go_big_quiet_step (first | (go_at_call 52; exact Calls.regrown_of (HRt.out _ _))))
              refine wpQuiet_nil ?_
              intro _ hw'
              obtain ⟨⟨dq, osq⟩, hw''⟩ := hw'
              subst hw''
              have HB4 := hidIn (HB5.out.trans ((below_regrown W5 dq osq).mono HB5.out.size))
              generalize Go.Sort.grow (redrawn W5 dq) osq = W4 at HB4 ⊢
              clear r0 r1 r2 r3 HRt r4
              go_wp2_with fail
              go_meet
              refine ⟨?_, HB4.out⟩
              rw [Hres.out]
              have h2 : decide (lastA as' (j + 1) < x) = false := by rw [Hp.out]; simp; omega
              simp [adjOk, h2]
            · have hd3 : decide (x ≤ p) = false := by simpa using hxp
              refine wp_region_quiet_below (by kernel_rfl) (by kernel_rfl) ?_
              repeat (go_big_quiet_step (first | (go_at_call 52; exact Calls.regrown_of (HRt.out _ _))))
              refine wpQuiet_nil ?_
              intro _ hw'
              obtain ⟨⟨dq, osq⟩, hw''⟩ := hw'
              subst hw''
              have HB4 := hidIn (HB5.out.trans ((below_regrown W5 dq osq).mono HB5.out.size))
              generalize Go.Sort.grow (redrawn W5 dq) osq = W4 at HB4 ⊢
              clear r0 r1 r2 r3 HRt r4
              go_wp2_with fail
              go_meet
              refine ⟨?_, HB4.out⟩
              rw [Hres.out]
              have h2 : decide (lastA as' (j + 1) < x) = true := by rw [Hp.out]; simp; omega
              simp only [adjOk, Hb2.out, Hcc.out, h2, Hxo.out]
              rfl
        case rest =>
          obtain ⟨rfl, hbc⟩ := hcut
          have HBc := hidIn hbc
          have HBWc := hidIn (HF.out wc hbc).2
          clear hbc r0 r1 r2 r3 HRt HY
          cases res
          · have HA : Hid (adjOk orig (lastA as' k) (x, y) = true) := hidIn (by have := Hres.out; simpa using this.symm)
            go_wp2_with fail
            go_roundw
            case rel =>
              refine ⟨k + 1, by omega, by go_num, hidIn ⟨HBc.out, ?_⟩⟩
              rw [HN.out, HA.out]
              rfl
            case measure => simp [intOf]; omega
          · have HA : Hid (adjOk orig (lastA as' k) (x, y) = false) := hidIn (by have := Hres.out; simpa using this.symm)
            go_wp2_with fail
            go_returns
            exact ⟨by unfold ckN; rw [HG.out, HN.out, HA.out]; rfl, HBWc.out⟩
      · have hki : ¬ ((k : Int) < (as'.length : Int)) := by omega
        have HT : Hid (recOk ⟨orig, epo, sq, cl, ig, as'⟩ = true) := hidIn (by rw [HG.out, HE.out, List.drop_eq_nil_of_le (by omega)]; rfl)
        go_wp2_with fail
        go_returns
        exact ⟨by unfold ckN; rw [HT.out]; rfl, hbw⟩
  · have h16' : (16 : Int) < (as'.length : Int) := by omega
    go_wp2_with fail
    go_ret
    exact ⟨by unfold ckN; rw [show recOk ⟨orig, epo, sq, cl, ig, as'⟩ = false by simp [recOk, h16]]; rfl, HBW2.out⟩
end Go.Proofs.Ytpdpdhnllmlfdaa
namespace Go.Proofs.Ytpdpdhnllmlfdaa
open Go.RowKit

theorem putS_two (S : ByteArray) (x y : Nat) : (S ++ ly x 1) ++ ly y 2 = S ++ putS [(x, 1), (y, 2)] := by
  apply ext_data
  simp [putS]
end Go.Proofs.Ytpdpdhnllmlfdaa
namespace Go.Proofs.Ytpdpdhnllmlfdaa
open Go.RowKit

set_option maxRecDepth 100000 in
set_option maxHeartbeats 1000000 in
theorem dstamp_any (r : Rc) (a : Option Addr) (n cap : Nat) (w : World) : Calls Try.prog 36 #[recV r (.slice a n cap)] w fun e w' => e = .returned (stV r.origin r.epoch r.seq) ∧ Below w.heap.size w w' := by
  obtain ⟨orig, epo, sq, cl, ig, as'⟩ := r
  simp only
  go_enter Try.func36, Try.ntmps36
  go_wp2_with fail
  exact bodyPost_ret (v := stV orig epo sq) (by simp [results, Try.results36, asAddr, Result.andThen, go_sem]) rfl ⟨rfl, by go_grown⟩
theorem dstamp_lit (o e q c : Int) (i : Bool) (a : Option Addr) (n cap : Nat) (w : World) : Calls Try.prog 36 #[.agg #[.int .i64 o, .int .u32 e, .int .u32 q, .int .i64 c, .bool i, .slice a n cap]] w fun r w' => r = .returned (.agg #[.int .i64 o, .int .u32 e, .int .u32 q]) ∧ Below w.heap.size w w' := dstamp_any ⟨o, e, q, c, i, []⟩ a n cap w
theorem own_last {w : World} {base g c n : Nat} {l : List (Int × Int)} (hn : l.length = n) (hrow : w.ownsRow base 75 2 (.slice (some ⟨g, 0, none⟩) (n + 1) c) (n + 1) (fl ac (l ++ [(0, 77)]))) : n + 1 ≤ c ∧ w.cell? ⟨g, n * 2 + 1, none⟩ = some (.int .i64 77) := by
  subst hn
  obtain ⟨a, cap, he, _, h2, h3⟩ := (slAt_of_row (cs := ac) (fun _ => rfl) hrow (by simp)).ads
  simp at he
  obtain ⟨rfl, rfl⟩ := he
  obtain ⟨bk, o, h4, _, h6⟩ := h3 (by simp)
  simp at h4
  obtain ⟨rfl, rfl⟩ := h4
  have h := (h6 l.length (0, 77) (by simp)).2
  simp at h2 h
  exact ⟨h2, h⟩
end Go.Proofs.Ytpdpdhnllmlfdaa
namespace Go.Proofs.Ytpdpdhnllmlfdaa
open Go.RowKit Go.Maps

/-- What the document's Put has laid so far. -/
def DpM (W wr : World) (u : Value) (L : List (Rc × Value)) (x : Rc × Value) (k : Nat) (b : Bool) : Prop := ∃ O, wr.ownsRow W.heap.size 28 6 u O.length (fl rcc O) ∧ O ++ insP x (L.drop k) b = insP x L false ∧ O.length ≤ k + b.toNat ∧ Below W.heap.size W wr
/-- What the document's Put answers. -/
def DpAns (w w' : World) (v : Value) (L : List (Rc × Value)) (x : Rc × Value) (e : Ending) : Prop :=
  (recOk x.1 = false ∧ e = .returned (.tuple #[v, .int .i64 0, .int .i64 2])) ∨
  (recOk x.1 = true ∧ ∃ old, fdR L x.1.origin = some old ∧ newI x.1.epoch x.1.seq old.1.epoch old.1.seq ≤ 0 ∧ e = .returned (.tuple #[v, .int .i64 (newI x.1.epoch x.1.seq old.1.epoch old.1.seq), .int .i64 0])) ∨
  (recOk x.1 = true ∧ (∀ old, fdR L x.1.origin = some old → 0 < newI x.1.epoch x.1.seq old.1.epoch old.1.seq) ∧ ∃ u, e = .returned (.tuple #[u, .int .i64 1, .int .i64 0]) ∧ w'.ownsRow w.heap.size 28 6 u (insP x L false).length (fl rcc (insP x L false)))
def U32 (r : Rc) : Prop := 0 ≤ r.epoch ∧ r.epoch < 4294967296 ∧ 0 ≤ r.seq ∧ r.seq < 4294967296
theorem insP_skip {L : List (Rc × Value)} {k : Nat} {x y : Rc × Value} {b : Bool} (h : L[k]? = some y) (he : y.1.origin = x.1.origin) : insP x (L.drop k) b = insP x (L.drop (k + 1)) b := by
  rw [drop_next h]
  show (if y.1.origin = x.1.origin then _ else _) = _
  rw [if_pos he]
theorem insP_over {L : List (Rc × Value)} {k : Nat} {x y : Rc × Value} {b : Bool} (h : L[k]? = some y) (he : ¬ y.1.origin = x.1.origin) (hb : ¬ (b = false ∧ x.1.origin < y.1.origin)) : insP x (L.drop k) b = y :: insP x (L.drop (k + 1)) b := by
  rw [drop_next h]
  show (if y.1.origin = x.1.origin then _ else _) = _
  rw [if_neg he, if_neg hb]
theorem insP_in {L : List (Rc × Value)} {k : Nat} {x y : Rc × Value} (h : L[k]? = some y) (he : ¬ y.1.origin = x.1.origin) (hb : x.1.origin < y.1.origin) : insP x (L.drop k) false = x :: y :: insP x (L.drop (k + 1)) true := by
  rw [drop_next h]
  show (if y.1.origin = x.1.origin then _ else _) = _
  rw [if_neg he, if_pos ⟨rfl, hb⟩]
theorem dnewI {e q f g : Int} (h1 : 0 ≤ e ∧ e < 4294967296 ∧ 0 ≤ q ∧ q < 4294967296) (h2 : 0 ≤ f ∧ f < 4294967296 ∧ 0 ≤ g ∧ g < 4294967296) (o' p' : Int) (w : World) : Calls Try.prog 35 #[stV o' e q, stV p' f g] w fun x w' => x = .returned (.int .i64 (newI e q f g)) ∧ Below w.heap.size w w' := by
  obtain ⟨e, rfl⟩ := Int.eq_ofNat_of_zero_le h1.1
  obtain ⟨q, rfl⟩ := Int.eq_ofNat_of_zero_le h1.2.2.1
  obtain ⟨f, rfl⟩ := Int.eq_ofNat_of_zero_le h2.1
  obtain ⟨g, rfl⟩ := Int.eq_ofNat_of_zero_le h2.2.2.1
  exact dnewer_any e q f g (by omega) (by omega) (by omega) (by omega) o' p' w
set_option maxRecDepth 100000 in
set_option maxHeartbeats 4000000 in
theorem dput9_any {L : List (Rc × Value)} {v : Value} {r : Rc} {va : Value} {w : World} (hR : RecsAt w v L) (hv : SlAt ac 2 w va r.adjs) (hr : U32 r) (hL : ∀ y ∈ L, U32 y.1) (hl : L.length ≤ 24) :
    Calls Try.prog 9 #[v, recV r va] w fun e w' => DpAns w w' v L (r, va) e ∧ Below w.heap.size w w' := by
  have HC : Hid (∀ wq, Below w.heap.size w wq → Calls Try.prog 34 #[recV r va] wq fun e w' => e = .returned (.int .i64 (ckN r)) ∧ Below wq.heap.size wq w') := hidIn fun wq hq => dcheck_any (hv.keep hq (Nat.le_refl _)) hr.1 hr.2.2.1
  have HG : Hid (∀ wq, Below w.heap.size w wq → Calls Try.prog 16 #[v, .int .i64 r.origin] wq fun e w' => GdAns (fdR L r.origin) e ∧ Below wq.heap.size wq w') := hidIn fun wq hq => dget_any (hR.keep hq (Nat.le_refl _)) _
  have Hr := hidIn hr
  have HL := hidIn hL
  obtain ⟨aa, cap, rfl, hq⟩ := hv
  obtain ⟨va, lcap, rfl, hl9, _, hat⟩ := hR.r.recs
  have HA := hidIn hR.a
  obtain ⟨LL, hLL⟩ : ∃ LL, L.length = LL := ⟨_, rfl⟩
  obtain ⟨nl, hnl⟩ : ∃ nl, r.adjs.length = nl := ⟨_, rfl⟩
  rw [hLL] at hat hl HG hl9 ⊢
  rw [hnl] at HC ⊢
  have Hat := hidIn hat
  have HLL := hidIn hLL
  have Hnl := hidIn hnl
  obtain ⟨ck, hck⟩ : ∃ ck, ckN r = ck := ⟨_, rfl⟩
  rw [hck] at HC
  have Hck := hidIn hck
  obtain ⟨W1, hW1⟩ : ∃ W1, w.alloc (.cells #[.int .i64 r.origin, .int .u32 r.epoch, .int .u32 r.seq, .int .i64 r.claim, .bool r.ing, .slice aa nl cap] 28) = W1 := ⟨_, rfl⟩
  have b1 : Below w.heap.size w W1 := by rw [← hW1]; exact (Below.refl _ w).alloc (Nat.le_refl _) _
  have hX : W1.heap[w.heap.size]? = some (.cells #[.int .i64 r.origin, .int .u32 r.epoch, .int .u32 r.seq, .int .i64 r.claim, .bool r.ing, .slice aa nl cap] 28) := by rw [← hW1]; exact heap_alloc_last w _
  obtain ⟨bx, hbx⟩ : ∃ bx, w.heap.size = bx := ⟨_, rfl⟩
  have Hbx := hidIn hbx
  rw [hbx] at hX
  have HW := hidIn hW1
  have Hb1 := hidIn b1
  have HX := hidIn hX
  clear hW1 b1 hX hq hat hR hr hL hLL hnl hck
  go_enter Try.func9, Try.ntmps9
  go_upto_region 1 with fail
  rw [HW.out]
  clear HW
  clear hbx
  have x0 := cell_of_row _ _ 0 _ _ _ HX.out
  have x1 := cell_of_row _ _ 1 _ _ _ HX.out
  have x2 := cell_of_row _ _ 2 _ _ _ HX.out
  have x3 := cell_of_row _ _ 3 _ _ _ HX.out
  have x4 := cell_of_row _ _ 4 _ _ _ HX.out
  have x5 := cell_of_row _ _ 5 _ _ _ HX.out
  simp at x0 x1 x2 x3 x4 x5
  go_wp2_with fail
  refine (HC.out _ Hb1.out).mono ?_
  rintro e w2 ⟨rfl, hb2⟩
  have HX2 := hidIn ((hb2.block _ (block_lt HX.out)).trans HX.out)
  have Hb2 := hidIn (Hb1.out.trans (hb2.mono Hb1.out.size))
  clear HC hb2 x0 x1 x2 x3 x4 x5 HX Hb1
  by_cases hok : recOk r = true
  · have Hok := hidIn hok
    have hck0 : ck = 0 := by rw [← Hck.out]; unfold ckN; rw [if_pos hok]
    subst hck0
    clear hok Hck
    have x0 := cell_of_row _ _ 0 _ _ _ HX2.out
    have x1 := cell_of_row _ _ 1 _ _ _ HX2.out
    have x2 := cell_of_row _ _ 2 _ _ _ HX2.out
    have x3 := cell_of_row _ _ 3 _ _ _ HX2.out
    have x4 := cell_of_row _ _ 4 _ _ _ HX2.out
    have x5 := cell_of_row _ _ 5 _ _ _ HX2.out
    simp at x0 x1 x2 x3 x4 x5
    go_wp2_with fail
    refine (HG.out _ Hb2.out).mono ?_
    rintro e w3 ⟨h3, hb3⟩
    have HX3 := hidIn ((hb3.block _ (block_lt HX2.out)).trans HX2.out)
    have Hb3 := hidIn (Hb2.out.trans (hb3.mono Hb2.out.size))
    clear HG hb3 x0 x1 x2 x3 x4 x5 HX2 Hb2
    unfold GdAns at h3
    subst h3
    obtain ⟨fo, hfo⟩ : ∃ fo, fdR L r.origin = fo := ⟨_, rfl⟩
    have Hfo := hidIn hfo
    rw [hfo]
    clear hfo
    cases fo with
    | none =>
      simp only [rOf, uOf, Option.map, Option.getD, Option.isSome, rc0]
      obtain ⟨W5, hW5⟩ : ∃ W5, w3.alloc (.cells #[.int .i64 0, .int .u32 0, .int .u32 0, .int .i64 0, .bool false, .slice none 0 0] 28) = W5 := ⟨_, rfl⟩
      have hb5 : Below w3.heap.size w3 W5 := by rw [← hW5]; exact (Below.refl _ w3).alloc (Nat.le_refl _) _
      have HB5 := hidIn (Hb3.out.trans (hb5.mono Hb3.out.size))
      have HX5 := hidIn ((hb5.block _ (block_lt HX3.out)).trans HX3.out)
      have Hnew : Hid (∀ old, fdR L r.origin = some old → 0 < newI r.epoch r.seq old.1.epoch old.1.seq) := hidIn fun old h => by rw [Hfo.out] at h; cases h
      have HW5 := hidIn hW5
      clear hb5 hW5 HX3 Hb3 Hfo
      go_wp2_with fail
      rw [HW5.out]
      clear HW5
      go_loopw [10, 11, 12] (fun u p i wr => ∃ (k : Nat) (b : Bool), k ≤ LL ∧ i = .int .i64 k ∧ p = .bool b ∧ Hid (DpM W5 wr u L (r, .slice aa nl cap) k b)) (fun _ _ i _ => LL - (intOf i).toNat)
      case atStart => exact ⟨0, false, Nat.zero_le _, rfl, rfl, hidIn ⟨[], World.ownsRow_nil _ _ _ _, by rw [List.drop_zero, List.nil_append], Nat.zero_le _, Below.refl _ _⟩⟩
      case round =>
        obtain ⟨k, b, hk, rfl, rfl, HM⟩ := hrel
        obtain ⟨O, hrow, hin, hOk, hbel⟩ := HM.out
        clear HM
        have HBr := hidIn (HB5.out.trans (hbel.mono HB5.out.size))
        have HXr := hidIn ((hbel.block _ (block_lt HX5.out)).trans HX5.out)
        have Hbel := hidIn hbel
        have HRow := hidIn hrow
        have HIn := hidIn hin
        obtain ⟨ua, ucap, rfl⟩ := row_shape hrow
        obtain ⟨On, hOn⟩ : ∃ On, O.length = On := ⟨_, rfl⟩
        rw [hOn] at hOk HRow ⊢
        have HOn := hidIn hOn
        have HOk := hidIn hOk
        have HOk1 : Hid (On ≤ 25) := hidIn (by have := Bool.toNat_le b; omega)
        clear hrow hin hbel hOn hOk
        by_cases hlt : k < LL
        · obtain ⟨bk, o, rfl, hbk, hcell⟩ := Hat.out (by omega)
          obtain ⟨⟨⟨s0, s1, s2, s3, s4, as'⟩, va⟩, hz⟩ : ∃ z, L[k]? = some z := ⟨L[k]'(by rw [HLL.out]; exact hlt), List.getElem?_eq_getElem _⟩
          have hva := HA.out _ (List.mem_of_getElem? hz)
          simp only at hva
          obtain ⟨ba, bcap, rfl, _⟩ := hva
          obtain ⟨an, han⟩ : ∃ an, as'.length = an := ⟨_, rfl⟩
          rw [han] at hz
          obtain ⟨p0, p1, p2, p3, p4, p5⟩ := hcell k _ hz
          have HZ := hidIn hz
          have HCell : Hid (∀ wq, Below w.heap.size w wq → wq.cell? ⟨bk, o + k * 6, none⟩ = some (.int .i64 s0) ∧ wq.cell? ⟨bk, o + k * 6 + 1, none⟩ = some (.int .u32 s1) ∧ wq.cell? ⟨bk, o + k * 6 + 2, none⟩ = some (.int .u32 s2) ∧ wq.cell? ⟨bk, o + k * 6 + 3, none⟩ = some (.int .i64 s3) ∧ wq.cell? ⟨bk, o + k * 6 + 4, none⟩ = some (.bool s4) ∧ wq.cell? ⟨bk, o + k * 6 + 5, none⟩ = some (.slice ba an bcap)) := hidIn fun wq hq =>
            ⟨(hq.cell (p := ⟨bk, o + k * 6, none⟩) hbk).trans p0, (hq.cell (p := ⟨bk, o + k * 6 + 1, none⟩) hbk).trans p1, (hq.cell (p := ⟨bk, o + k * 6 + 2, none⟩) hbk).trans p2, (hq.cell (p := ⟨bk, o + k * 6 + 3, none⟩) hbk).trans p3, (hq.cell (p := ⟨bk, o + k * 6 + 4, none⟩) hbk).trans p4, (hq.cell (p := ⟨bk, o + k * 6 + 5, none⟩) hbk).trans p5⟩
          have hki : (k : Int) < (LL : Int) := by omega
          clear hcell hz han p0 p1 p2 p3 p4 p5
          have c0 := (HCell.out _ HBr.out).1
          have x0 := cell_of_row _ _ 0 _ _ _ HXr.out
          simp at x0
          have kc0 := cell_regrown c0
          have kx0 := cell_regrown x0
          go_upto_region 13 with fail
          refine wp_region_quiet_below (by kernel_rfl) (by kernel_rfl) ?_
          repeat (go_big_quiet_step (fail))
          refine wpQuiet_nil ?_
          rintro _ ⟨⟨dq, osq⟩, rfl⟩
          have hbr := below_regrown wr dq osq
          generalize Go.Sort.grow (redrawn wr dq) osq = W6 at hbr ⊢
          have HB6 := hidIn (HBr.out.trans (hbr.mono HBr.out.size))
          have HX6 := hidIn ((hbr.block _ (block_lt HXr.out)).trans HXr.out)
          have Hbel6 := hidIn (Hbel.out.trans (hbr.mono Hbel.out.size))
          have HRow6 := hidIn (row_below HRow.out hbr (Nat.le_refl _))
          clear hbr
          clear c0 x0 kc0 kx0 HBr HXr Hbel HRow
          by_cases hso : s0 = r.origin
          · have h1 : (s0 == r.origin) = true := by simpa using hso
            have HO : Hid (DpM W5 W6 (.slice ua On ucap) L (r, .slice aa nl cap) (k + 1) b) := hidIn ⟨O, by rw [HOn.out]; exact HRow6.out, by rw [← insP_skip HZ.out hso]; exact HIn.out, by rw [HOn.out]; have := HOk.out; omega, Hbel6.out⟩
            clear hso
            go_wp2_with fail
            go_roundw
            case rel => exact ⟨k + 1, b, by omega, by go_num, rfl, HO⟩
            case measure => simp [intOf]; omega
          · have h1 : (s0 == r.origin) = false := by simpa using hso
            have Hso := hidIn hso
            clear hso
            have c0 := (HCell.out _ HB6.out).1
            have x0 := cell_of_row _ _ 0 _ _ _ HX6.out
            simp at x0
            have kc0 := cell_regrown c0
            have kx0 := cell_regrown x0
            cases b with
            | true =>
              go_upto_region 14 with fail
              refine wp_region_quiet_below (by kernel_rfl) (by kernel_rfl) ?_
              repeat (go_big_quiet_step (fail))
              refine wpQuiet_nil ?_
              rintro _ ⟨⟨dq, osq⟩, rfl⟩
              have hbr := below_regrown W6 dq osq
              generalize Go.Sort.grow (redrawn W6 dq) osq = W7 at hbr ⊢
              have HB7 := hidIn (HB6.out.trans (hbr.mono HB6.out.size))
              have HX7 := hidIn ((hbr.block _ (block_lt HX6.out)).trans HX6.out)
              have Hbel7 := hidIn (Hbel6.out.trans (hbr.mono Hbel6.out.size))
              have HRow7 := hidIn (row_below HRow6.out hbr (Nat.le_refl _))
              clear hbr
              clear c0 x0 kc0 kx0 HB6 HX6 Hbel6 HRow6
              have HBW := HB7
              have HbelW := Hbel7
              obtain ⟨c0, c1, c2, c3, c4, c5⟩ := HCell.out _ HBW.out
              obtain ⟨g, gcap, w9, hrun, hown, hb9, _⟩ := append_recF HRow7.out (⟨s0, s1, s2, s3, s4, as'⟩, .slice ba an bcap) rfl (by have := HOk1.out; omega) HbelW.out.size
              have HRun := hidIn hrun
              have HO : Hid (DpM W5 w9 (.slice (some ⟨g, 0, none⟩) (On + 1) gcap) L (r, .slice aa nl cap) (k + 1) true) := hidIn (by
                have hlen : (O ++ [(((⟨s0, s1, s2, s3, s4, as'⟩, .slice ba an bcap) : Rc × Value))]).length = On + 1 := by simp [HOn.out]
                refine ⟨O ++ [(⟨s0, s1, s2, s3, s4, as'⟩, .slice ba an bcap)], by rw [hlen]; exact hown, by rw [List.append_assoc, List.singleton_append, ← insP_over HZ.out Hso.out (by simp)]; exact HIn.out, by rw [hlen]; have := HOk.out; simp at this ⊢; omega, HbelW.out.trans hb9⟩)
              clear hrun hown hb9
              go_wp2_with (refine l_append rfl _ _ 22 rfl HRun.out ?_)
              go_roundw
              case rel => exact ⟨k + 1, true, by omega, by go_num, rfl, HO⟩
              case measure => simp [intOf]; omega
            | false =>
              by_cases hgt : r.origin < s0
              · have Hgt := hidIn hgt
                have hgd : decide (r.origin < s0) = true := by simpa using hgt
                go_upto_region 14 with fail
                refine wp_region_quiet_below (by kernel_rfl) (by kernel_rfl) ?_
                repeat (go_big_quiet_step (fail))
                refine wpQuiet_nil ?_
                rintro _ ⟨⟨dq, osq⟩, rfl⟩
                have hbr := below_regrown W6 dq osq
                generalize Go.Sort.grow (redrawn W6 dq) osq = W7 at hbr ⊢
                have HB7 := hidIn (HB6.out.trans (hbr.mono HB6.out.size))
                have HX7 := hidIn ((hbr.block _ (block_lt HX6.out)).trans HX6.out)
                have Hbel7 := hidIn (Hbel6.out.trans (hbr.mono Hbel6.out.size))
                have HRow7 := hidIn (row_below HRow6.out hbr (Nat.le_refl _))
                clear hbr
                clear c0 x0 kc0 kx0 HB6 HX6 Hbel6 HRow6
                have x0 := cell_of_row _ _ 0 _ _ _ HX7.out
                have x1 := cell_of_row _ _ 1 _ _ _ HX7.out
                have x2 := cell_of_row _ _ 2 _ _ _ HX7.out
                have x3 := cell_of_row _ _ 3 _ _ _ HX7.out
                have x4 := cell_of_row _ _ 4 _ _ _ HX7.out
                have x5 := cell_of_row _ _ 5 _ _ _ HX7.out
                simp at x0 x1 x2 x3 x4 x5
                obtain ⟨g1, gcap1, w8, hrun1, hown1, hb8, _⟩ := append_recF HRow7.out (r, .slice aa nl cap) rfl (by have := HOk1.out; omega) Hbel7.out.size
                have HRun1 := hidIn hrun1
                have HRow8 := hidIn hown1
                have HbelW := hidIn (Hbel7.out.trans hb8)
                have HBW := hidIn (HB5.out.trans (HbelW.out.mono HB5.out.size))
                clear hrun1 hown1 hb8
                go_upto_region 16 with (refine l_append rfl _ _ 22 rfl HRun1.out ?_)
                clear x0 x1 x2 x3 x4 x5 HRun1
                obtain ⟨c0, c1, c2, c3, c4, c5⟩ := HCell.out _ HBW.out
                obtain ⟨g, gcap, w9, hrun, hown, hb9, _⟩ := append_recF HRow8.out (⟨s0, s1, s2, s3, s4, as'⟩, .slice ba an bcap) rfl (by have := HOk1.out; omega) HbelW.out.size
                have HRun := hidIn hrun
                have HO : Hid (DpM W5 w9 (.slice (some ⟨g, 0, none⟩) ((On + 1) + 1) gcap) L (r, .slice aa nl cap) (k + 1) true) := hidIn (by
                  have hlen : ((O ++ [((r, .slice aa nl cap) : Rc × Value)]) ++ [(((⟨s0, s1, s2, s3, s4, as'⟩, .slice ba an bcap) : Rc × Value))]).length = (On + 1) + 1 := by simp [HOn.out]
                  refine ⟨(O ++ [((r, .slice aa nl cap) : Rc × Value)]) ++ [(⟨s0, s1, s2, s3, s4, as'⟩, .slice ba an bcap)], by rw [hlen]; exact hown, by rw [List.append_assoc, List.append_assoc, List.singleton_append, List.singleton_append, ← insP_in HZ.out Hso.out Hgt.out]; exact HIn.out, by rw [hlen]; have := HOk.out; simp at this ⊢; omega, HbelW.out.trans hb9⟩)
                clear hrun hown hb9
                go_wp2_with (refine l_append rfl _ _ 22 rfl HRun.out ?_)
                go_roundw
                case rel => exact ⟨k + 1, true, by omega, by go_num, rfl, HO⟩
                case measure => simp [intOf]; omega
              · have Hgt := hidIn hgt
                have hgd : decide (r.origin < s0) = false := by simpa using hgt
                go_upto_region 14 with fail
                refine wp_region_quiet_below (by kernel_rfl) (by kernel_rfl) ?_
                repeat (go_big_quiet_step (fail))
                refine wpQuiet_nil ?_
                rintro _ ⟨⟨dq, osq⟩, rfl⟩
                have hbr := below_regrown W6 dq osq
                generalize Go.Sort.grow (redrawn W6 dq) osq = W7 at hbr ⊢
                have HB7 := hidIn (HB6.out.trans (hbr.mono HB6.out.size))
                have HX7 := hidIn ((hbr.block _ (block_lt HX6.out)).trans HX6.out)
                have Hbel7 := hidIn (Hbel6.out.trans (hbr.mono Hbel6.out.size))
                have HRow7 := hidIn (row_below HRow6.out hbr (Nat.le_refl _))
                clear hbr
                clear c0 x0 kc0 kx0 HB6 HX6 Hbel6 HRow6
                have HBW := HB7
                have HbelW := Hbel7
                obtain ⟨c0, c1, c2, c3, c4, c5⟩ := HCell.out _ HBW.out
                obtain ⟨g, gcap, w9, hrun, hown, hb9, _⟩ := append_recF HRow7.out (⟨s0, s1, s2, s3, s4, as'⟩, .slice ba an bcap) rfl (by have := HOk1.out; omega) HbelW.out.size
                have HRun := hidIn hrun
                have HO : Hid (DpM W5 w9 (.slice (some ⟨g, 0, none⟩) (On + 1) gcap) L (r, .slice aa nl cap) (k + 1) false) := hidIn (by
                  have hlen : (O ++ [(((⟨s0, s1, s2, s3, s4, as'⟩, .slice ba an bcap) : Rc × Value))]).length = On + 1 := by simp [HOn.out]
                  refine ⟨O ++ [(⟨s0, s1, s2, s3, s4, as'⟩, .slice ba an bcap)], by rw [hlen]; exact hown, by rw [List.append_assoc, List.singleton_append, ← insP_over HZ.out Hso.out (fun h => Hgt.out h.2)]; exact HIn.out, by rw [hlen]; have := HOk.out; simp at this ⊢; omega, HbelW.out.trans hb9⟩)
                clear hrun hown hb9
                go_wp2_with (refine l_append rfl _ _ 22 rfl HRun.out ?_)
                go_roundw
                case rel => exact ⟨k + 1, false, by omega, by go_num, rfl, HO⟩
                case measure => simp [intOf]; omega
        · obtain rfl : k = LL := by omega
          have HEnd : Hid (O ++ insP (r, .slice aa nl cap) [] b = insP (r, .slice aa nl cap) L false) := hidIn (by have := HIn.out; rwa [← HLL.out, List.drop_length] at this)
          cases b with
          | true =>
            have HAns : Hid (wr.ownsRow w.heap.size 28 6 (.slice ua On ucap) (insP (r, .slice aa nl cap) L false).length (fl rcc (insP (r, .slice aa nl cap) L false))) := hidIn (by
              rw [← HEnd.out]
              simp only [insP, if_true, List.append_nil]
              rw [HOn.out]
              exact row_low HRow.out HB5.out.size)
            go_wp2_with fail
            go_returns
            exact ⟨.inr (.inr ⟨Hok.out, Hnew.out, _, rfl, HAns.out⟩), HBr.out⟩
          | false =>
            have x0 := cell_of_row _ _ 0 _ _ _ HXr.out
            have x1 := cell_of_row _ _ 1 _ _ _ HXr.out
            have x2 := cell_of_row _ _ 2 _ _ _ HXr.out
            have x3 := cell_of_row _ _ 3 _ _ _ HXr.out
            have x4 := cell_of_row _ _ 4 _ _ _ HXr.out
            have x5 := cell_of_row _ _ 5 _ _ _ HXr.out
            simp at x0 x1 x2 x3 x4 x5
            obtain ⟨g1, gcap1, w8, hrun1, hown1, hb8, _⟩ := append_recF HRow.out (r, .slice aa nl cap) rfl (by have := HOk1.out; omega) Hbel.out.size
            have HRun1 := hidIn hrun1
            have HAns : Hid (w8.ownsRow w.heap.size 28 6 (.slice (some ⟨g1, 0, none⟩) (On + 1) gcap1) (insP (r, .slice aa nl cap) L false).length (fl rcc (insP (r, .slice aa nl cap) L false))) := hidIn (by
              rw [← HEnd.out]
              simp only [insP, Bool.false_eq_true, if_false]
              rw [List.length_append, HOn.out]
              exact row_low hown1 HB5.out.size)
            have HB8 := hidIn (HBr.out.trans (hb8.mono HB5.out.size))
            clear hrun1 hown1 hb8
            go_wp2_with (refine l_append rfl _ _ 22 rfl HRun1.out ?_)
            go_returns
            exact ⟨.inr (.inr ⟨Hok.out, Hnew.out, _, rfl, HAns.out⟩), HB8.out⟩
    | some old =>
      obtain ⟨⟨q0, q1, q2, q3, q4, qa⟩, vo⟩ := old
      have hmem : (⟨⟨q0, q1, q2, q3, q4, qa⟩, vo⟩ : Rc × Value) ∈ L := List.mem_of_find?_eq_some Hfo.out
      have hvo := HA.out _ hmem
      have hU := HL.out _ hmem
      simp only [U32] at hvo hU
      obtain ⟨oa, ocap, rfl, _⟩ := hvo
      obtain ⟨on, hon⟩ : ∃ on, qa.length = on := ⟨_, rfl⟩
      rw [hon] at Hfo ⊢
      have HNw : Hid (∀ wq, Calls Try.prog 35 #[.agg #[.int .i64 r.origin, .int .u32 r.epoch, .int .u32 r.seq], .agg #[.int .i64 q0, .int .u32 q1, .int .u32 q2]] wq fun e w' => e = .returned (.int .i64 (newI r.epoch r.seq q1 q2)) ∧ Below wq.heap.size wq w') := hidIn fun wq => dnewI Hr.out hU _ _ wq
      obtain ⟨nn, hnn⟩ : ∃ nn, newI r.epoch r.seq q1 q2 = nn := ⟨_, rfl⟩
      rw [hnn] at HNw
      have Hnn := hidIn hnn
      clear hmem hU hon hnn
      simp only [rOf, uOf, Option.map, Option.getD, Option.isSome]
      obtain ⟨W4, hW4⟩ : ∃ W4, w3.alloc (.cells #[.int .i64 q0, .int .u32 q1, .int .u32 q2, .int .i64 q3, .bool q4, .slice oa on ocap] 28) = W4 := ⟨_, rfl⟩
      have hb4 : Below w3.heap.size w3 W4 := by rw [← hW4]; exact (Below.refl _ w3).alloc (Nat.le_refl _) _
      have HB4 := hidIn (Hb3.out.trans (hb4.mono Hb3.out.size))
      have HX4 := hidIn ((hb4.block _ (block_lt HX3.out)).trans HX3.out)
      have HY4 : Hid (W4.heap[w3.heap.size]? = some (.cells #[.int .i64 q0, .int .u32 q1, .int .u32 q2, .int .i64 q3, .bool q4, .slice oa on ocap] 28)) := hidIn (by rw [← hW4]; exact heap_alloc_last w3 _)
      have HW4 := hidIn hW4
      clear hb4 hW4 HX3 Hb3
      have x0 := cell_of_row _ _ 0 _ _ _ HX4.out
      have x1 := cell_of_row _ _ 1 _ _ _ HX4.out
      have x2 := cell_of_row _ _ 2 _ _ _ HX4.out
      have x3 := cell_of_row _ _ 3 _ _ _ HX4.out
      have x4 := cell_of_row _ _ 4 _ _ _ HX4.out
      have x5 := cell_of_row _ _ 5 _ _ _ HX4.out
      simp at x0 x1 x2 x3 x4 x5
      have z0 := cell_of_row _ _ 0 _ _ _ HY4.out
      have z1 := cell_of_row _ _ 1 _ _ _ HY4.out
      have z2 := cell_of_row _ _ 2 _ _ _ HY4.out
      have z3 := cell_of_row _ _ 3 _ _ _ HY4.out
      have z4 := cell_of_row _ _ 4 _ _ _ HY4.out
      have z5 := cell_of_row _ _ 5 _ _ _ HY4.out
      simp at z0 z1 z2 z3 z4 z5
      have kx0 := cell_regrown x0
      have kx1 := cell_regrown x1
      have kx2 := cell_regrown x2
      have kx3 := cell_regrown x3
      have kx4 := cell_regrown x4
      have kx5 := cell_regrown x5
      have kz0 := cell_regrown z0
      have kz1 := cell_regrown z1
      have kz2 := cell_regrown z2
      have kz3 := cell_regrown z3
      have kz4 := cell_regrown z4
      have kz5 := cell_regrown z5
      go_upto_region 5 with fail
      rw [HW4.out]
      clear HW4
      refine wp_region_quiet_below (by kernel_rfl) (by kernel_rfl) ?_
      repeat (go_big_quiet_step (first
        | (go_at_call 36; exact Calls.regrown_of (dstamp_lit _ _ _ _ _ _ _ _ _))
        | (go_at_call 35; exact Calls.regrown_of (HNw.out _))))
      refine wpQuiet_nil ?_
      rintro _ ⟨⟨dq, osq⟩, rfl⟩
      have hbr := below_regrown W4 dq osq
      generalize Go.Sort.grow (redrawn W4 dq) osq = W5 at hbr ⊢
      have HB5 := hidIn (HB4.out.trans (hbr.mono HB4.out.size))
      have HX5 := hidIn ((hbr.block _ (block_lt HX4.out)).trans HX4.out)
      clear hbr HB4 HX4 HY4 HNw x0 x1 x2 x3 x4 x5 z0 z1 z2 z3 z4 z5 kx0 kx1 kx2 kx3 kx4 kx5 kz0 kz1 kz2 kz3 kz4 kz5
      by_cases hle : nn ≤ 0
      · have hd : decide (nn ≤ 0) = true := by simpa using hle
        have HAns : Hid (DpAns w W5 (.slice va LL lcap) L (r, .slice aa nl cap) (.returned (.tuple #[.slice va LL lcap, .int .i64 nn, .int .i64 0]))) := hidIn (.inr (.inl ⟨Hok.out, _, Hfo.out, by show newI r.epoch r.seq q1 q2 ≤ 0; rw [Hnn.out]; exact hle, by show _ = Ending.returned (.tuple #[_, .int .i64 (newI r.epoch r.seq q1 q2), _]); rw [Hnn.out]⟩))
        go_wp2_with fail
        go_returns
        exact ⟨HAns.out, HB5.out⟩
      · have hd : decide (nn ≤ 0) = false := by simpa using hle
        have Hnew : Hid (∀ old, fdR L r.origin = some old → 0 < newI r.epoch r.seq old.1.epoch old.1.seq) := hidIn fun old h => by
          rw [Hfo.out] at h
          cases h
          show 0 < newI r.epoch r.seq q1 q2
          rw [Hnn.out]
          omega
        clear Hfo Hnn hle
        go_wp2_with fail
        go_loopw [10, 11, 12] (fun u p i wr => ∃ (k : Nat) (b : Bool), k ≤ LL ∧ i = .int .i64 k ∧ p = .bool b ∧ Hid (DpM W5 wr u L (r, .slice aa nl cap) k b)) (fun _ _ i _ => LL - (intOf i).toNat)
        case atStart => exact ⟨0, false, Nat.zero_le _, rfl, rfl, hidIn ⟨[], World.ownsRow_nil _ _ _ _, by rw [List.drop_zero, List.nil_append], Nat.zero_le _, Below.refl _ _⟩⟩
        case round =>
          obtain ⟨k, b, hk, rfl, rfl, HM⟩ := hrel
          obtain ⟨O, hrow, hin, hOk, hbel⟩ := HM.out
          clear HM
          have HBr := hidIn (HB5.out.trans (hbel.mono HB5.out.size))
          have HXr := hidIn ((hbel.block _ (block_lt HX5.out)).trans HX5.out)
          have Hbel := hidIn hbel
          have HRow := hidIn hrow
          have HIn := hidIn hin
          obtain ⟨ua, ucap, rfl⟩ := row_shape hrow
          obtain ⟨On, hOn⟩ : ∃ On, O.length = On := ⟨_, rfl⟩
          rw [hOn] at hOk HRow ⊢
          have HOn := hidIn hOn
          have HOk := hidIn hOk
          have HOk1 : Hid (On ≤ 25) := hidIn (by have := Bool.toNat_le b; omega)
          clear hrow hin hbel hOn hOk
          by_cases hlt : k < LL
          · obtain ⟨bk, o, rfl, hbk, hcell⟩ := Hat.out (by omega)
            obtain ⟨⟨⟨s0, s1, s2, s3, s4, as'⟩, va⟩, hz⟩ : ∃ z, L[k]? = some z := ⟨L[k]'(by rw [HLL.out]; exact hlt), List.getElem?_eq_getElem _⟩
            have hva := HA.out _ (List.mem_of_getElem? hz)
            simp only at hva
            obtain ⟨ba, bcap, rfl, _⟩ := hva
            obtain ⟨an, han⟩ : ∃ an, as'.length = an := ⟨_, rfl⟩
            rw [han] at hz
            obtain ⟨p0, p1, p2, p3, p4, p5⟩ := hcell k _ hz
            have HZ := hidIn hz
            have HCell : Hid (∀ wq, Below w.heap.size w wq → wq.cell? ⟨bk, o + k * 6, none⟩ = some (.int .i64 s0) ∧ wq.cell? ⟨bk, o + k * 6 + 1, none⟩ = some (.int .u32 s1) ∧ wq.cell? ⟨bk, o + k * 6 + 2, none⟩ = some (.int .u32 s2) ∧ wq.cell? ⟨bk, o + k * 6 + 3, none⟩ = some (.int .i64 s3) ∧ wq.cell? ⟨bk, o + k * 6 + 4, none⟩ = some (.bool s4) ∧ wq.cell? ⟨bk, o + k * 6 + 5, none⟩ = some (.slice ba an bcap)) := hidIn fun wq hq =>
              ⟨(hq.cell (p := ⟨bk, o + k * 6, none⟩) hbk).trans p0, (hq.cell (p := ⟨bk, o + k * 6 + 1, none⟩) hbk).trans p1, (hq.cell (p := ⟨bk, o + k * 6 + 2, none⟩) hbk).trans p2, (hq.cell (p := ⟨bk, o + k * 6 + 3, none⟩) hbk).trans p3, (hq.cell (p := ⟨bk, o + k * 6 + 4, none⟩) hbk).trans p4, (hq.cell (p := ⟨bk, o + k * 6 + 5, none⟩) hbk).trans p5⟩
            have hki : (k : Int) < (LL : Int) := by omega
            clear hcell hz han p0 p1 p2 p3 p4 p5
            have c0 := (HCell.out _ HBr.out).1
            have x0 := cell_of_row _ _ 0 _ _ _ HXr.out
            simp at x0
            have kc0 := cell_regrown c0
            have kx0 := cell_regrown x0
            go_upto_region 13 with fail
            refine wp_region_quiet_below (by kernel_rfl) (by kernel_rfl) ?_
            repeat (go_big_quiet_step (fail))
            refine wpQuiet_nil ?_
            rintro _ ⟨⟨dq, osq⟩, rfl⟩
            have hbr := below_regrown wr dq osq
            generalize Go.Sort.grow (redrawn wr dq) osq = W6 at hbr ⊢
            have HB6 := hidIn (HBr.out.trans (hbr.mono HBr.out.size))
            have HX6 := hidIn ((hbr.block _ (block_lt HXr.out)).trans HXr.out)
            have Hbel6 := hidIn (Hbel.out.trans (hbr.mono Hbel.out.size))
            have HRow6 := hidIn (row_below HRow.out hbr (Nat.le_refl _))
            clear hbr
            clear c0 x0 kc0 kx0 HBr HXr Hbel HRow
            by_cases hso : s0 = r.origin
            · have h1 : (s0 == r.origin) = true := by simpa using hso
              have HO : Hid (DpM W5 W6 (.slice ua On ucap) L (r, .slice aa nl cap) (k + 1) b) := hidIn ⟨O, by rw [HOn.out]; exact HRow6.out, by rw [← insP_skip HZ.out hso]; exact HIn.out, by rw [HOn.out]; have := HOk.out; omega, Hbel6.out⟩
              clear hso
              go_wp2_with fail
              go_roundw
              case rel => exact ⟨k + 1, b, by omega, by go_num, rfl, HO⟩
              case measure => simp [intOf]; omega
            · have h1 : (s0 == r.origin) = false := by simpa using hso
              have Hso := hidIn hso
              clear hso
              have c0 := (HCell.out _ HB6.out).1
              have x0 := cell_of_row _ _ 0 _ _ _ HX6.out
              simp at x0
              have kc0 := cell_regrown c0
              have kx0 := cell_regrown x0
              cases b with
              | true =>
                go_upto_region 14 with fail
                refine wp_region_quiet_below (by kernel_rfl) (by kernel_rfl) ?_
                repeat (go_big_quiet_step (fail))
                refine wpQuiet_nil ?_
                rintro _ ⟨⟨dq, osq⟩, rfl⟩
                have hbr := below_regrown W6 dq osq
                generalize Go.Sort.grow (redrawn W6 dq) osq = W7 at hbr ⊢
                have HB7 := hidIn (HB6.out.trans (hbr.mono HB6.out.size))
                have HX7 := hidIn ((hbr.block _ (block_lt HX6.out)).trans HX6.out)
                have Hbel7 := hidIn (Hbel6.out.trans (hbr.mono Hbel6.out.size))
                have HRow7 := hidIn (row_below HRow6.out hbr (Nat.le_refl _))
                clear hbr
                clear c0 x0 kc0 kx0 HB6 HX6 Hbel6 HRow6
                have HBW := HB7
                have HbelW := Hbel7
                obtain ⟨c0, c1, c2, c3, c4, c5⟩ := HCell.out _ HBW.out
                obtain ⟨g, gcap, w9, hrun, hown, hb9, _⟩ := append_recF HRow7.out (⟨s0, s1, s2, s3, s4, as'⟩, .slice ba an bcap) rfl (by have := HOk1.out; omega) HbelW.out.size
                have HRun := hidIn hrun
                have HO : Hid (DpM W5 w9 (.slice (some ⟨g, 0, none⟩) (On + 1) gcap) L (r, .slice aa nl cap) (k + 1) true) := hidIn (by
                  have hlen : (O ++ [(((⟨s0, s1, s2, s3, s4, as'⟩, .slice ba an bcap) : Rc × Value))]).length = On + 1 := by simp [HOn.out]
                  refine ⟨O ++ [(⟨s0, s1, s2, s3, s4, as'⟩, .slice ba an bcap)], by rw [hlen]; exact hown, by rw [List.append_assoc, List.singleton_append, ← insP_over HZ.out Hso.out (by simp)]; exact HIn.out, by rw [hlen]; have := HOk.out; simp at this ⊢; omega, HbelW.out.trans hb9⟩)
                clear hrun hown hb9
                go_wp2_with (refine l_append rfl _ _ 22 rfl HRun.out ?_)
                go_roundw
                case rel => exact ⟨k + 1, true, by omega, by go_num, rfl, HO⟩
                case measure => simp [intOf]; omega
              | false =>
                by_cases hgt : r.origin < s0
                · have Hgt := hidIn hgt
                  have hgd : decide (r.origin < s0) = true := by simpa using hgt
                  go_upto_region 14 with fail
                  refine wp_region_quiet_below (by kernel_rfl) (by kernel_rfl) ?_
                  repeat (go_big_quiet_step (fail))
                  refine wpQuiet_nil ?_
                  rintro _ ⟨⟨dq, osq⟩, rfl⟩
                  have hbr := below_regrown W6 dq osq
                  generalize Go.Sort.grow (redrawn W6 dq) osq = W7 at hbr ⊢
                  have HB7 := hidIn (HB6.out.trans (hbr.mono HB6.out.size))
                  have HX7 := hidIn ((hbr.block _ (block_lt HX6.out)).trans HX6.out)
                  have Hbel7 := hidIn (Hbel6.out.trans (hbr.mono Hbel6.out.size))
                  have HRow7 := hidIn (row_below HRow6.out hbr (Nat.le_refl _))
                  clear hbr
                  clear c0 x0 kc0 kx0 HB6 HX6 Hbel6 HRow6
                  have x0 := cell_of_row _ _ 0 _ _ _ HX7.out
                  have x1 := cell_of_row _ _ 1 _ _ _ HX7.out
                  have x2 := cell_of_row _ _ 2 _ _ _ HX7.out
                  have x3 := cell_of_row _ _ 3 _ _ _ HX7.out
                  have x4 := cell_of_row _ _ 4 _ _ _ HX7.out
                  have x5 := cell_of_row _ _ 5 _ _ _ HX7.out
                  simp at x0 x1 x2 x3 x4 x5
                  obtain ⟨g1, gcap1, w8, hrun1, hown1, hb8, _⟩ := append_recF HRow7.out (r, .slice aa nl cap) rfl (by have := HOk1.out; omega) Hbel7.out.size
                  have HRun1 := hidIn hrun1
                  have HRow8 := hidIn hown1
                  have HbelW := hidIn (Hbel7.out.trans hb8)
                  have HBW := hidIn (HB5.out.trans (HbelW.out.mono HB5.out.size))
                  clear hrun1 hown1 hb8
                  go_upto_region 16 with (refine l_append rfl _ _ 22 rfl HRun1.out ?_)
                  clear x0 x1 x2 x3 x4 x5 HRun1
                  obtain ⟨c0, c1, c2, c3, c4, c5⟩ := HCell.out _ HBW.out
                  obtain ⟨g, gcap, w9, hrun, hown, hb9, _⟩ := append_recF HRow8.out (⟨s0, s1, s2, s3, s4, as'⟩, .slice ba an bcap) rfl (by have := HOk1.out; omega) HbelW.out.size
                  have HRun := hidIn hrun
                  have HO : Hid (DpM W5 w9 (.slice (some ⟨g, 0, none⟩) ((On + 1) + 1) gcap) L (r, .slice aa nl cap) (k + 1) true) := hidIn (by
                    have hlen : ((O ++ [((r, .slice aa nl cap) : Rc × Value)]) ++ [(((⟨s0, s1, s2, s3, s4, as'⟩, .slice ba an bcap) : Rc × Value))]).length = (On + 1) + 1 := by simp [HOn.out]
                    refine ⟨(O ++ [((r, .slice aa nl cap) : Rc × Value)]) ++ [(⟨s0, s1, s2, s3, s4, as'⟩, .slice ba an bcap)], by rw [hlen]; exact hown, by rw [List.append_assoc, List.append_assoc, List.singleton_append, List.singleton_append, ← insP_in HZ.out Hso.out Hgt.out]; exact HIn.out, by rw [hlen]; have := HOk.out; simp at this ⊢; omega, HbelW.out.trans hb9⟩)
                  clear hrun hown hb9
                  go_wp2_with (refine l_append rfl _ _ 22 rfl HRun.out ?_)
                  go_roundw
                  case rel => exact ⟨k + 1, true, by omega, by go_num, rfl, HO⟩
                  case measure => simp [intOf]; omega
                · have Hgt := hidIn hgt
                  have hgd : decide (r.origin < s0) = false := by simpa using hgt
                  go_upto_region 14 with fail
                  refine wp_region_quiet_below (by kernel_rfl) (by kernel_rfl) ?_
                  repeat (go_big_quiet_step (fail))
                  refine wpQuiet_nil ?_
                  rintro _ ⟨⟨dq, osq⟩, rfl⟩
                  have hbr := below_regrown W6 dq osq
                  generalize Go.Sort.grow (redrawn W6 dq) osq = W7 at hbr ⊢
                  have HB7 := hidIn (HB6.out.trans (hbr.mono HB6.out.size))
                  have HX7 := hidIn ((hbr.block _ (block_lt HX6.out)).trans HX6.out)
                  have Hbel7 := hidIn (Hbel6.out.trans (hbr.mono Hbel6.out.size))
                  have HRow7 := hidIn (row_below HRow6.out hbr (Nat.le_refl _))
                  clear hbr
                  clear c0 x0 kc0 kx0 HB6 HX6 Hbel6 HRow6
                  have HBW := HB7
                  have HbelW := Hbel7
                  obtain ⟨c0, c1, c2, c3, c4, c5⟩ := HCell.out _ HBW.out
                  obtain ⟨g, gcap, w9, hrun, hown, hb9, _⟩ := append_recF HRow7.out (⟨s0, s1, s2, s3, s4, as'⟩, .slice ba an bcap) rfl (by have := HOk1.out; omega) HbelW.out.size
                  have HRun := hidIn hrun
                  have HO : Hid (DpM W5 w9 (.slice (some ⟨g, 0, none⟩) (On + 1) gcap) L (r, .slice aa nl cap) (k + 1) false) := hidIn (by
                    have hlen : (O ++ [(((⟨s0, s1, s2, s3, s4, as'⟩, .slice ba an bcap) : Rc × Value))]).length = On + 1 := by simp [HOn.out]
                    refine ⟨O ++ [(⟨s0, s1, s2, s3, s4, as'⟩, .slice ba an bcap)], by rw [hlen]; exact hown, by rw [List.append_assoc, List.singleton_append, ← insP_over HZ.out Hso.out (fun h => Hgt.out h.2)]; exact HIn.out, by rw [hlen]; have := HOk.out; simp at this ⊢; omega, HbelW.out.trans hb9⟩)
                  clear hrun hown hb9
                  go_wp2_with (refine l_append rfl _ _ 22 rfl HRun.out ?_)
                  go_roundw
                  case rel => exact ⟨k + 1, false, by omega, by go_num, rfl, HO⟩
                  case measure => simp [intOf]; omega
          · obtain rfl : k = LL := by omega
            have HEnd : Hid (O ++ insP (r, .slice aa nl cap) [] b = insP (r, .slice aa nl cap) L false) := hidIn (by have := HIn.out; rwa [← HLL.out, List.drop_length] at this)
            cases b with
            | true =>
              have HAns : Hid (wr.ownsRow w.heap.size 28 6 (.slice ua On ucap) (insP (r, .slice aa nl cap) L false).length (fl rcc (insP (r, .slice aa nl cap) L false))) := hidIn (by
                rw [← HEnd.out]
                simp only [insP, if_true, List.append_nil]
                rw [HOn.out]
                exact row_low HRow.out HB5.out.size)
              go_wp2_with fail
              go_returns
              exact ⟨.inr (.inr ⟨Hok.out, Hnew.out, _, rfl, HAns.out⟩), HBr.out⟩
            | false =>
              have x0 := cell_of_row _ _ 0 _ _ _ HXr.out
              have x1 := cell_of_row _ _ 1 _ _ _ HXr.out
              have x2 := cell_of_row _ _ 2 _ _ _ HXr.out
              have x3 := cell_of_row _ _ 3 _ _ _ HXr.out
              have x4 := cell_of_row _ _ 4 _ _ _ HXr.out
              have x5 := cell_of_row _ _ 5 _ _ _ HXr.out
              simp at x0 x1 x2 x3 x4 x5
              obtain ⟨g1, gcap1, w8, hrun1, hown1, hb8, _⟩ := append_recF HRow.out (r, .slice aa nl cap) rfl (by have := HOk1.out; omega) Hbel.out.size
              have HRun1 := hidIn hrun1
              have HAns : Hid (w8.ownsRow w.heap.size 28 6 (.slice (some ⟨g1, 0, none⟩) (On + 1) gcap1) (insP (r, .slice aa nl cap) L false).length (fl rcc (insP (r, .slice aa nl cap) L false))) := hidIn (by
                rw [← HEnd.out]
                simp only [insP, Bool.false_eq_true, if_false]
                rw [List.length_append, HOn.out]
                exact row_low hown1 HB5.out.size)
              have HB8 := hidIn (HBr.out.trans (hb8.mono HB5.out.size))
              clear hrun1 hown1 hb8
              go_wp2_with (refine l_append rfl _ _ 22 rfl HRun1.out ?_)
              go_returns
              exact ⟨.inr (.inr ⟨Hok.out, Hnew.out, _, rfl, HAns.out⟩), HB8.out⟩
  · have hck0 : ck = 2 := by rw [← Hck.out]; unfold ckN; rw [if_neg hok]
    subst hck0
    have Hok := hidIn hok
    clear hok
    go_wp2_with fail
    go_returns
    exact ⟨.inl ⟨by simpa using Hok.out, rfl⟩, Hb2.out⟩
end Go.Proofs.Ytpdpdhnllmlfdaa
namespace Go.Proofs.Ytpdpdhnllmlfdaa
open Go.RowKit Go.Maps

theorem mayS_pos {x : Ed} (h : mayS x.1 x.2.1 x.2.2 = true) : 1 ≤ x.1 ∧ x.1 ≤ 24 ∧ 0 < x.2.1 ∧ 0 < x.2.2 := by
  unfold mayS at h
  simp only [Bool.and_eq_true, decide_eq_true_eq, isR_iff] at h
  omega
theorem fdS_snoc (U : List Ed) (x : Ed) (i : Int) : fdS (U ++ [x]) i = (fdS U i).or (if x.1 = i then some x else none) := by
  unfold fdS
  rw [List.find?_append]
  congr 1
  by_cases h : x.1 = i
  · rw [if_pos h, List.find?_cons, show (x.1 == i) = true by simpa using h]
  · rw [if_neg h, List.find?_cons, show (x.1 == i) = false by simpa using h]; rfl
theorem fdS_mem {l : List Ed} {i : Int} {y : Ed} (h : fdS l i = some y) : y ∈ l ∧ y.1 = i := ⟨List.mem_of_find?_eq_some h, by have := List.find?_some h; simpa using this⟩
/-- The stamps by origin, as the document finds them. -/
def ByOk (l : List Ed) (g : Nat → Ed) : Prop := (∀ i : Nat, g i = sD (fdS l (i : Int))) ∧ ∀ y ∈ l, mayS y.1 y.2.1 y.2.2 = true
theorem ByOk.zero {l : List Ed} {g : Nat → Ed} (h : ByOk l g) {x : Ed} (hx : mayS x.1 x.2.1 x.2.2 = true) : g x.1.toNat = (0, 0, 0) ↔ fdS l x.1 = none := by
  have h1 := mayS_pos hx
  have h2 : ((x.1.toNat : Nat) : Int) = x.1 := by omega
  rw [h.1, h2]
  constructor
  · intro h3
    cases h4 : fdS l x.1 with
    | none => rfl
    | some y =>
      rw [h4] at h3
      have h5 := mayS_pos (h.2 y (fdS_mem h4).1)
      have h6 : y = (0, 0, 0) := h3
      rw [h6] at h5
      simp at h5
  · intro h3
    rw [h3]
    rfl
theorem byS_ok : ∀ (n : Nat) (l : List Ed), l.length = n → ∀ g, byS l = some g → ByOk l g
  | 0, l, hl, g, h => by
    rw [List.length_eq_zero_iff.1 hl] at h ⊢
    cases h
    exact ⟨fun i => rfl, fun y hy => by simp at hy⟩
  | n + 1, l, hl, g, h => by
    obtain ⟨U, x, rfl⟩ : ∃ U x, l = U ++ [x] := by
      rcases List.eq_nil_or_concat l with h' | ⟨U, x, h'⟩
      · rw [h'] at hl; simp at hl
      · exact ⟨U, x, by simpa using h'⟩
    have hb : byS (U ++ [x]) = addS (byS U) x := by unfold byS; rw [List.foldl_append]; rfl
    rw [hb] at h
    cases hU : byS U with
    | none => rw [hU] at h; cases h
    | some f =>
      have ih := byS_ok n U (by simpa using hl) f hU
      rw [hU] at h
      have h1 : (if mayS x.1 x.2.1 x.2.2 = true ∧ f x.1.toNat = (0, 0, 0) then some (upS f x.1.toNat x) else none) = some g := h
      by_cases hc : mayS x.1 x.2.1 x.2.2 = true ∧ f x.1.toNat = (0, 0, 0)
      · rw [if_pos hc] at h1
        cases h1
        have hn := (ih.zero hc.1).1 hc.2
        have hp := mayS_pos hc.1
        refine ⟨fun i => ?_, fun y hy => ?_⟩
        · rw [fdS_snoc]
          by_cases hi : i = x.1.toNat
          · have h2 : x.1 = (i : Int) := by omega
            rw [if_pos h2, ← h2, hn]
            unfold upS
            rw [if_pos hi]
            rfl
          · have h2 : ¬ x.1 = (i : Int) := by omega
            rw [if_neg h2]
            unfold upS
            rw [if_neg hi, ih.1 i]
            cases fdS U (i : Int) <;> rfl
        · rcases List.mem_append.1 hy with hy | hy
          · exact ih.2 y hy
          · rw [List.mem_singleton.1 hy]; exact hc.1
      · rw [if_neg hc] at h1; cases h1
theorem newI_turn (e q f r : Int) : newI e q f r = -1 ↔ 0 < newI f r e q := by
  have h1 := newI_vals e q f r
  have h2 := newI_pos e q f r
  have h3 := newI_pos f r e q
  have h4 := newI_vals f r e q
  have h5 : newI e q f r = -1 ↔ (e < f ∨ (e = f ∧ q < r)) := by
    unfold newI cmpI
    repeat' split
    all_goals omega
  omega
/-- What is sent, what is wanted, as the document asks it. -/
theorem mis_ask {F : Rf} (hF : OkF F) {l : List Ed} {g : Nat → Ed} (h : ByOk l g) (i : Nat) :
    (newI (gD (F (i : Int))).epoch (gD (F (i : Int))).seq (g i).2.1 (g i).2.2 = 1 ↔ ((F (i : Int)).isSome = true ∧ ((fdS l (i : Int)).isSome = false ∨ 0 < newI (gD (F (i : Int))).epoch (gD (F (i : Int))).seq (sD (fdS l (i : Int))).2.1 (sD (fdS l (i : Int))).2.2))) ∧
    (newI (gD (F (i : Int))).epoch (gD (F (i : Int))).seq (g i).2.1 (g i).2.2 = -1 ↔ ((fdS l (i : Int)).isSome = true ∧ ((F (i : Int)).isSome = false ∨ 0 < newI (sD (fdS l (i : Int))).2.1 (sD (fdS l (i : Int))).2.2 (gD (F (i : Int))).epoch (gD (F (i : Int))).seq))) := by
  rw [h.1 i, newI_turn]
  cases hr : F (i : Int) with
  | none =>
    cases hs : fdS l (i : Int) with
    | none => simp [gD, sD, rc0, newI, cmpI]
    | some y =>
      have h1 := mayS_pos (h.2 y (fdS_mem hs).1)
      have h2 := (newI_pos 0 0 y.2.1 y.2.2).1
      have h3 := (newI_pos y.2.1 y.2.2 0 0).2 (by omega)
      simp [gD, sD, rc0]
      omega
  | some r =>
    have h0 := recOk_pos (hF _ _ hr).1
    cases hs : fdS l (i : Int) with
    | none =>
      have h2 := (newI_pos 0 0 r.epoch r.seq).1
      have h3 := (newI_pos r.epoch r.seq 0 0).2 (by omega)
      have h4 := newI_vals 0 0 r.epoch r.seq
      simp [gD, sD]
      omega
    | some y =>
      have h4 := newI_vals r.epoch r.seq y.2.1 y.2.2
      simp [gD, sD]
      omega
end Go.Proofs.Ytpdpdhnllmlfdaa
namespace Go.Proofs.Ytpdpdhnllmlfdaa
open Go.RowKit Go.Maps

def ansG (F : Rf) (g : Nat → Ed) (i : Nat) : Int := newI (gD (F (i : Int))).epoch (gD (F (i : Int))).seq (g i).2.1 (g i).2.2
def sndG (F : Rf) (g : Nat → Ed) (n : Nat) : List Rc := (List.range n).filterMap fun (i : Nat) => if ansG F g i = 1 then some (gD (F (i : Int))) else none
def wntG (F : Rf) (g : Nat → Ed) (n : Nat) : List Int := (List.range n).filterMap fun (i : Nat) => if ansG F g i = -1 then some (i : Int) else none
theorem sndG_succ (F : Rf) (g : Nat → Ed) (n : Nat) : sndG F g (n + 1) = sndG F g n ++ (if ansG F g n = 1 then [gD (F (n : Int))] else []) := by
  unfold sndG
  rw [List.range_succ, List.filterMap_append]
  by_cases h : ansG F g n = 1 <;> simp [h]
theorem wntG_succ (F : Rf) (g : Nat → Ed) (n : Nat) : wntG F g (n + 1) = wntG F g n ++ (if ansG F g n = -1 then [(n : Int)] else []) := by
  unfold wntG
  rw [List.range_succ, List.filterMap_append]
  by_cases h : ansG F g n = -1 <;> simp [h]
theorem sndG_send (f : Sf) (g : Nat → Ed) (n : Nat) : sendL f g n = sndG (fR f) g n := rfl
theorem wntG_want (f : Sf) (g : Nat → Ed) (n : Nat) : wantL f g n = wntG (fR f) g n := rfl
theorem ansG_zero {F : Rf} (hF : OkF F) {l : List Ed} {g : Nat → Ed} (h : ByOk l g) : ansG F g 0 = 0 := by
  have h1 : F ((0 : Nat) : Int) = none := hF.out (by omega)
  have h2 : fdS l ((0 : Nat) : Int) = none := by
    cases h3 : fdS l ((0 : Nat) : Int) with
    | none => rfl
    | some y =>
      have h4 := fdS_mem h3
      have h5 := mayS_pos (h.2 y h4.1)
      omega
  have h3 : g 0 = (0, 0, 0) := by rw [h.1 0, h2]; rfl
  unfold ansG
  rw [h1, h3]
  rfl
/-- What the document's Missing answers. -/
def DmAns (w w' : World) (F : Rf) (L : List (Rc × Value)) (o : Option (Nat → Ed)) (e : Ending) : Prop :=
  (o = none ∧ e = .returned (.tuple #[.slice none 0 0, .slice none 0 0, .int .i64 2])) ∨
    ∃ g u v O, o = some g ∧ e = .returned (.tuple #[u, v, .int .i64 0]) ∧ w'.ownsRow w.heap.size 28 6 u O.length (fl rcc O) ∧ rcs O = sndG F g 25 ∧ (∀ x ∈ O, x ∈ L) ∧ w'.ownsRow w.heap.size 3 1 v (wntG F g 25).length (fl ic (wntG F g 25))
/-- Amid it. -/
def DmM (w wr : World) (F : Rf) (g : Nat → Ed) (L : List (Rc × Value)) (k : Nat) (u v : Value) : Prop :=
  ∃ O, wr.ownsRow w.heap.size 28 6 u O.length (fl rcc O) ∧ rcs O = sndG F g k ∧ (∀ x ∈ O, x ∈ L) ∧ wr.ownsRow w.heap.size 3 1 v (wntG F g k).length (fl ic (wntG F g k)) ∧ O.length ≤ k ∧ (wntG F g k).length ≤ k ∧ Below w.heap.size w wr
theorem DmM.keep {w wr w' : World} {F : Rf} {g : Nat → Ed} {L : List (Rc × Value)} {k : Nat} {u v : Value} (h : DmM w wr F g L k u v) (hb : Below wr.heap.size wr w') : DmM w w' F g L k u v := by
  obtain ⟨O, h1, h2, h3, h4, h5, h6, h7⟩ := h
  exact ⟨O, row_below h1 hb (Nat.le_refl _), h2, h3, row_below h4 hb (Nat.le_refl _), h5, h6, h7.trans (hb.mono h7.size)⟩
theorem append_recG {W : World} {base k : Nat} {u : Value} {l : List (Rc × Value)} (hr : W.ownsRow base 28 6 u k (fl rcc l)) (x : Rc × Value) (hx : x.2.oneCell' = true) (hk : (k + 1) * 56 ≤ 140737488355328) (hbase : base ≤ W.heap.size) :
    ∃ g cap w6, (Builtin.append_ #[22, 22] 22 #[u, .slice (some ⟨W.heap.size, 0, none⟩) 1 1]).run Try.prog (W.alloc (.cells (rcc x).toArray 28)) = .ok (.slice (some ⟨g, 0, none⟩) (k + 1) cap) w6 ∧
      w6.ownsRow base 28 6 (.slice (some ⟨g, 0, none⟩) (k + 1) cap) (k + 1) (fl rcc (l ++ [x])) ∧ Below base W w6 ∧ Fr (fun j => u.ownBlock = some j) W w6 := by
  obtain ⟨i0, hi, hz0, hz1, hz2⟩ := info_parts infoRec
  obtain ⟨g, cap, w6, hrun, hown, hgrow, _, _⟩ := run_append_lies (P := Try.prog) (W.alloc (.cells (rcc x).toArray 28)) 22 22 base 28 i0 _ 6 56 Try.underlying22 hi hz0 hz1 hz2 rfl (by decide) u k (fl rcc l) (hr.alloc _) ⟨W.heap.size, 0, none⟩ 1 1 (rcc x) rfl (fun j v hv => by
    rw [Addr.add_mid, Nat.zero_add, cell_of_row _ _ j (rcc x).toArray 28 (0, 0) (heap_alloc_last W _)]
    simpa using hv) (by simp only [rcc, List.mem_cons, List.not_mem_nil, or_false]; rintro u (rfl | rfl | rfl | rfl | rfl | rfl) <;> first | rfl | exact hx) (by omega) (by unfold maxLen; omega) hk (by simp; omega) (W.heap.size + 1) (by simp)
  refine ⟨g, cap, w6, hrun, by rw [fl_snoc]; exact hown, ?_, ?_⟩
  · exact ((Below.refl _ W).alloc hbase _).grown hgrow (by simp; omega) (fun j e => by
      rcases hr.2 with ⟨rfl, _⟩ | ⟨g', cap', cur, rfl, hb, _⟩
      · simp [Value.ownBlock] at e
      · simp [Value.ownBlock] at e; omega)
  · refine ⟨hgrow.os, hgrow.tape, hgrow.output, Nat.le_trans (by simp) hgrow.size, fun j hj hn => ?_⟩
    rw [hgrow.block j (by simp; omega) (fun e => hn e.symm), Below.heap_alloc _ _ _ hj]
theorem DmM.send {w W : World} {F : Rf} {g : Nat → Ed} {L : List (Rc × Value)} {k : Nat} {u v : Value} (h : DmM w W F g L k u v) (hk : k < 25) (ha : ansG F g k = 1) {x : Rc × Value} (hx : x ∈ L) (h1x : x.2.oneCell' = true) (hr : x.1 = gD (F (k : Int))) :
    ∃ gg cap w6, (Builtin.append_ #[22, 22] 22 #[u, .slice (some ⟨W.heap.size, 0, none⟩) 1 1]).run Try.prog (W.alloc (.cells (rcc x).toArray 28)) = .ok (.slice (some ⟨gg, 0, none⟩) ((sndG F g k).length + 1) cap) w6 ∧ DmM w w6 F g L (k + 1) (.slice (some ⟨gg, 0, none⟩) ((sndG F g k).length + 1) cap) v ∧ Fr (fun j => u.ownBlock = some j) W w6 := by
  obtain ⟨O, h1, h2, h3, h4, h5, h6, h7⟩ := h
  obtain ⟨gg, cap, w6, hrun, hown, hb6, hF6⟩ := append_recG h1 x h1x (by omega) h7.size
  have hLs : (sndG F g k).length = O.length := by rw [← h2, List.length_map]
  rw [hLs]
  have hno2 : ∀ j, v.ownBlock = some j → ¬ u.ownBlock = some j := fun j hj hu => by
    obtain ⟨cur, h⟩ := row_ty h4 hj
    obtain ⟨cur', h'⟩ := row_ty h1 hu
    rw [h] at h'
    simp at h'
  have hl : (O ++ [x]).length = O.length + 1 := by simp
  refine ⟨gg, cap, w6, hrun, ⟨O ++ [x], by rw [hl]; exact hown, ?_, fun y hy => ?_, ?_, by rw [hl]; omega, ?_, h7.trans hb6⟩, hF6⟩
  · rw [sndG_succ, if_pos ha, ← h2, ← hr]; simp
  · rcases List.mem_append.1 hy with hy | hy
    · exact h3 y hy
    · rw [List.mem_singleton.1 hy]; exact hx
  · rw [wntG_succ, if_neg (by omega), List.append_nil]
    exact row_fr h4 hF6 hno2
  · rw [wntG_succ, if_neg (by omega), List.append_nil]; omega
theorem DmM.want {w W : World} {F : Rf} {g : Nat → Ed} {L : List (Rc × Value)} {k : Nat} {u v : Value} (h : DmM w W F g L k u v) (hk : k < 25) (ha : ansG F g k = -1) :
    ∃ gg cap w6, (Builtin.append_ #[46, 46] 46 #[v, .slice (some ⟨W.heap.size, 0, none⟩) 1 1]).run Try.prog (W.alloc (.cells (ic (k : Int)).toArray 3)) = .ok (.slice (some ⟨gg, 0, none⟩) ((wntG F g k).length + 1) cap) w6 ∧ DmM w w6 F g L (k + 1) u (.slice (some ⟨gg, 0, none⟩) ((wntG F g k).length + 1) cap) := by
  obtain ⟨O, h1, h2, h3, h4, h5, h6, h7⟩ := h
  obtain ⟨gg, cap, w6, hrun, hown, _, hg6, hb6⟩ := append_in h4 (k : Int) (by omega) h7.size
  have hF6 : Fr (fun j => v.ownBlock = some j) W w6 := ⟨hg6.os, hg6.tape, hg6.output, hg6.size, fun j hj hn => hg6.block j hj (fun e => hn e.symm)⟩
  have hl : (wntG F g (k + 1)) = wntG F g k ++ [(k : Int)] := by rw [wntG_succ, if_pos ha]
  refine ⟨gg, cap, w6, hrun, O, row_fr h1 hF6 (fun j hj hv => ?_), ?_, h3, by rw [hl, List.length_append]; exact hown, by omega, by rw [hl, List.length_append]; simp; omega, h7.trans hb6⟩
  · obtain ⟨c1, e1⟩ := row_ty h1 hj
    obtain ⟨c2, e2⟩ := row_ty h4 hv
    rw [e1] at e2
    simp at e2
  · rw [sndG_succ, if_neg (by omega), List.append_nil]; exact h2
theorem DmM.none {w W : World} {F : Rf} {g : Nat → Ed} {L : List (Rc × Value)} {k : Nat} {u v : Value} (h : DmM w W F g L k u v) (ha : ansG F g k = 0) : DmM w W F g L (k + 1) u v := by
  obtain ⟨O, h1, h2, h3, h4, h5, h6, h7⟩ := h
  have e1 : sndG F g (k + 1) = sndG F g k := by rw [sndG_succ, if_neg (by omega), List.append_nil]
  have e2 : wntG F g (k + 1) = wntG F g k := by rw [wntG_succ, if_neg (by omega), List.append_nil]
  refine ⟨O, h1, by rw [e1]; exact h2, h3, ?_, by omega, ?_, h7⟩
  · rw [e2]; exact h4
  · rw [e2]; omega
theorem DmM.shape {w W : World} {F : Rf} {g : Nat → Ed} {L : List (Rc × Value)} {k : Nat} {u v : Value} (h : DmM w W F g L k u v) : ∃ a c b d, u = .slice a (sndG F g k).length c ∧ v = .slice b (wntG F g k).length d := by
  obtain ⟨O, h1, h2, _, h4, _⟩ := h
  obtain ⟨a, c, e1⟩ := row_shape h1
  obtain ⟨b, d, e2⟩ := row_shape h4
  have : (sndG F g k).length = O.length := by rw [← h2, List.length_map]
  exact ⟨a, c, b, d, by rw [this]; exact e1, e2⟩
theorem byS_bad {l : List Ed} {k : Nat} {x : Ed} {f : Nat → Ed} (h : byS (l.take k) = some f) (hx : l[k]? = some x) (hn : ¬ (mayS x.1 x.2.1 x.2.2 = true ∧ (fdS (l.take k) x.1).isSome = false)) : byS l = none := by
  refine (byS_take h hx).2 ?_
  show (if mayS x.1 x.2.1 x.2.2 = true ∧ f x.1.toNat = (0, 0, 0) then some (upS f x.1.toNat x) else none) = none
  rw [if_neg]
  rintro ⟨h1, h2⟩
  refine hn ⟨h1, ?_⟩
  rw [((byS_ok _ _ rfl f h).zero h1).1 h2]
  rfl
theorem byS_good {l : List Ed} {k : Nat} {x : Ed} {f : Nat → Ed} (h : byS (l.take k) = some f) (hx : l[k]? = some x) (hm : mayS x.1 x.2.1 x.2.2 = true) (hn : (fdS (l.take k) x.1).isSome = false) : ∃ f', byS (l.take (k + 1)) = some f' := by
  rw [(byS_take h hx).1]
  show ∃ f', (if mayS x.1 x.2.1 x.2.2 = true ∧ f x.1.toNat = (0, 0, 0) then some (upS f x.1.toNat x) else none) = some f'
  rw [if_pos ⟨hm, ((byS_ok _ _ rfl f h).zero hm).2 (by simpa using hn)⟩]
  exact ⟨_, rfl⟩
set_option maxRecDepth 100000 in
set_option maxHeartbeats 4000000 in
theorem dmissing_any {F : Rf} (hF : OkF F) {L : List (Rc × Value)} {v : Value} {l : List Ed} {sv : Value} {w : World} (hR : RecsAt w v L) (hL : rcs L = allR F 24) (hU : ∀ y ∈ L, U32 y.1) (hS : SlAt sc3 3 w sv l) (hB : ∀ y ∈ l, (0 ≤ y.2.1 ∧ y.2.1 < 4294967296) ∧ 0 ≤ y.2.2 ∧ y.2.2 < 4294967296) :
    Calls Try.prog 26 #[v, sv] w fun e w' => DmAns w w' F L (byS l) e ∧ Below w.heap.size w w' := by
  have HG : Hid (∀ (x : Int) wq, Below w.heap.size w wq → Calls Try.prog 16 #[v, .int .i64 x] wq fun e w' => GdAns (fdR L x) e ∧ Below wq.heap.size wq w') := hidIn fun x wq hq => dget_any (hR.keep hq (Nat.le_refl _)) x
  have HFd : Hid (∀ (x : Int) wq, Below w.heap.size w wq → Calls Try.prog 47 #[sv, .int .i64 x] wq fun e w' => FdAns (fdS l x) e ∧ Below wq.heap.size wq w') := hidIn fun x wq hq => find_any (hS.keep hq (Nat.le_refl _)) x
  have HA := hidIn hR.a
  have HLF := hidIn hL
  have HU := hidIn hU
  have HF := hidIn hF
  have HB := hidIn hB
  have HS := hidIn hS
  obtain ⟨va, lcap, rfl, _, _, _⟩ := hR.r.recs
  obtain ⟨sa, scap, rfl, hsl, hsc, _⟩ := hS
  obtain ⟨LN, hLN⟩ : ∃ LN, L.length = LN := ⟨_, rfl⟩
  obtain ⟨LL, hLL⟩ : ∃ LL, l.length = LL := ⟨_, rfl⟩
  rw [hLN] at HG ⊢
  rw [hLL] at HFd HS hsl hsc ⊢
  have HLL := hidIn hLL
  clear hLN hLL hR hL hU hF hB
  go_enter Try.func26, Try.ntmps26
  go_wp2_with fail
  go_loopw [7] (fun i wr => ∃ k : Nat, k ≤ LL ∧ i = .int .i64 k ∧ Hid (Below w.heap.size w wr ∧ ∃ g, byS (l.take k) = some g)) (fun i _ => LL - (intOf i).toNat)
  case atStart => exact ⟨0, Nat.zero_le _, rfl, hidIn ⟨Below.refl _ _, no3, rfl⟩⟩
  case round =>
    obtain ⟨k, hk, rfl, HI⟩ := hrel
    obtain ⟨hbr, g, hg⟩ := HI.out
    have HBr := hidIn hbr
    have Hg := hidIn hg
    clear HI hbr hg
    by_cases hlt : k < LL
    · obtain ⟨bk, o, rfl, hbk, hcell⟩ := HS.out.sts (by omega)
      obtain ⟨⟨s0, s1, s2⟩, hz⟩ : ∃ z, l[k]? = some z := ⟨l[k]'(by rw [HLL.out]; exact hlt), List.getElem?_eq_getElem _⟩
      obtain ⟨c0, c1, c2⟩ := hcell k _ hz
      simp only at c0 c1 c2
      have HC0 : Hid (∀ wq, Below w.heap.size w wq → wq.cell? ⟨bk, o + k * 3, none⟩ = some (.int .i64 s0) ∧ wq.cell? ⟨bk, o + k * 3 + 1, none⟩ = some (.int .u32 s1) ∧ wq.cell? ⟨bk, o + k * 3 + 2, none⟩ = some (.int .u32 s2)) := hidIn fun wq hq =>
        ⟨(hq.cell (p := ⟨bk, o + k * 3, none⟩) hbk).trans c0, (hq.cell (p := ⟨bk, o + k * 3 + 1, none⟩) hbk).trans c1, (hq.cell (p := ⟨bk, o + k * 3 + 2, none⟩) hbk).trans c2⟩
      have HCl : Hid (∀ wq, Below wr.heap.size wr wq → wq.cell? ⟨bk, o + k * 3, none⟩ = some (.int .i64 s0) ∧ wq.cell? ⟨bk, o + k * 3 + 1, none⟩ = some (.int .u32 s1) ∧ wq.cell? ⟨bk, o + k * 3 + 2, none⟩ = some (.int .u32 s2)) := hidIn fun wq hq => HC0.out wq (HBr.out.trans (hq.mono HBr.out.size))
      have hki : (k : Int) < (LL : Int) := by omega
      have hkc : k ≤ scap := by omega
      have hkc2 : (k : Int) ≤ (scap : Int) := by omega
      have HZ := hidIn hz
      have htk : (l.take k).length = k := by rw [List.length_take, HLL.out]; omega
      have HFk : Hid (∀ wq, Below w.heap.size w wq → Calls Try.prog 47 #[.slice (some ⟨bk, o, none⟩) k scap, .int .i64 s0] wq fun e w' => FdAns (fdS (l.take k) s0) e ∧ Below wq.heap.size wq w') := hidIn fun wq hq => find_any (by have := (HS.out.keep hq (Nat.le_refl _)).some20 k; rwa [htk] at this) s0
      clear hcell hz c0 c1 c2 htk HC0
      obtain ⟨z0, z1, z2⟩ := HCl.out _ (Below.refl _ _)
      go_wp2_with fail
      refine (dmayS_any s0 s1 s2 wr).mono ?_
      rintro e w1 ⟨rfl, hb1⟩
      clear z0 z1 z2
      obtain ⟨m, hm⟩ : ∃ m, mayS s0 s1 s2 = m := ⟨_, rfl⟩
      rw [hm]
      have HB1 := hidIn (HBr.out.trans (hb1.mono HBr.out.size))
      have HC1 : Hid (∀ wq, Below w1.heap.size w1 wq → wq.cell? ⟨bk, o + k * 3, none⟩ = some (.int .i64 s0) ∧ wq.cell? ⟨bk, o + k * 3 + 1, none⟩ = some (.int .u32 s1) ∧ wq.cell? ⟨bk, o + k * 3 + 2, none⟩ = some (.int .u32 s2)) := hidIn fun wq hq => HCl.out wq (hb1.trans (hq.mono hb1.size))
      have Hm := hidIn hm
      clear hm hb1 HCl HBr
      cases m with
      | false =>
        have HN : Hid (byS l = none) := hidIn (byS_bad Hg.out HZ.out (fun h => by have h1 : mayS s0 s1 s2 = true := h.1; rw [Hm.out] at h1; cases h1))
        go_wp2_with fail
        go_returns
        exact ⟨.inl ⟨HN.out, rfl⟩, HB1.out⟩
      | true =>
        obtain ⟨wr, rfl⟩ : ∃ wr, wr = w1 := ⟨_, rfl⟩
        have HCl := HC1
        have HBr := HB1
        have HFk := hidIn (fun wq (hq : Below wr.heap.size wr wq) => HFk.out wq (HBr.out.trans (hq.mono HBr.out.size)))
        clear HC1 HB1
        obtain ⟨fo, hfo⟩ : ∃ fo, fdS (l.take k) s0 = fo := ⟨_, rfl⟩
        rw [hfo] at HFk
        have Hfo := hidIn hfo
        clear hfo
        have HEnd : Hid (fo.isSome = true → byS l = none) := hidIn fun h => byS_bad Hg.out HZ.out (fun h' => by have h1 : (fdS (l.take k) s0).isSome = false := h'.2; rw [Hfo.out, h] at h1; cases h1)
        have HOn : Hid (fo.isSome = false → ∃ f', byS (l.take (k + 1)) = some f') := hidIn fun h => byS_good Hg.out HZ.out Hm.out (by show (fdS (l.take k) s0).isSome = false; rw [Hfo.out]; exact h)
        clear Hfo Hg HZ Hm
        obtain ⟨fb, hfb⟩ : ∃ fb, fo.isSome = fb := ⟨_, rfl⟩
        obtain ⟨⟨e0, e1, e2⟩, hfs⟩ : ∃ x, sD fo = x := ⟨_, rfl⟩
        simp only [FdAns, hfs, hfb] at HFk
        rw [hfb] at HEnd HOn
        clear hfb hfs
        go_upto_region 6 with fail
        refine wp_region_held_drew (S := fun wx => Below wr.heap.size wr wx) (by kernel_rfl) ((Below.refl _ wr).drew) (fun hHeld => ?_)
        have hh : Below wr.heap.size wr wr.drew := hHeld
        refine wpAnyH_take (i := 0) (v := ?_) rfl (by kernel_rfl) (by kernel_rfl) (by kernel_rfl) (fun _ _ _ h => h) (Or.inl ⟨by rfl, ?_⟩) (by assumption) ?_
        rotate_left
        · intro wq hSw
          clear hSw
          go_simp
          try (with_reducible rfl)
        refine wpAnyH_take (i := 1) (v := ?_) rfl (by kernel_rfl) (by kernel_rfl) (by kernel_rfl) (fun _ _ _ h => h) (Or.inl ⟨by rfl, ?_⟩) (by assumption) ?_
        rotate_left
        · intro wq hSw
          clear hSw
          go_simp
          try (with_reducible rfl)
        refine wpAnyH_take (i := 2) (v := ?_) rfl (by kernel_rfl) (by kernel_rfl) (by kernel_rfl) (fun _ _ _ h => h) (Or.inl ⟨by rfl, ?_⟩) (by assumption) ?_
        rotate_left
        · intro wq hSw
          clear hSw
          go_simp
          try (with_reducible rfl)
        refine wpAnyH_take (i := 3) (v := ?_) rfl (by kernel_rfl) (by kernel_rfl) (by kernel_rfl) (fun _ _ _ h => h) (Or.inl ⟨by rfl, ?_⟩) (by assumption) ?_
        rotate_left
        · intro wq hSw
          clear hSw
          go_simp
          try (with_reducible rfl)
        refine wpAnyH_take (i := 4) (v := ?_) rfl (by kernel_rfl) (by kernel_rfl) (by kernel_rfl) (fun _ _ _ h => h) (Or.inl ⟨by rfl, ?_⟩) (by assumption) ?_
        rotate_left
        · intro wq hSw
          clear hSw
          go_simp
          try (with_reducible rfl)
        refine wpAnyH_take (i := 5) (v := ?_) rfl (by kernel_rfl) (by kernel_rfl) (by kernel_rfl) (fun _ _ _ h => h) (Or.inl ⟨by rfl, ?_⟩) (by assumption) ?_
        rotate_left
        · intro wq hSw
          clear hSw
          go_simp
          try (with_reducible rfl)
        refine wpAnyH_take (i := 6) (v := ?_) rfl (by kernel_rfl) (by kernel_rfl) (by kernel_rfl) (fun _ _ _ h => h) (Or.inl ⟨by rfl, ?_⟩) (by assumption) ?_
        rotate_left
        · intro wq hSw
          clear hSw
          go_simp
          try (with_reducible rfl)
        refine wpAnyH_take (i := 7) (v := ?_) rfl (by kernel_rfl) (by kernel_rfl) (by kernel_rfl) (fun _ _ _ h => h) (Or.inl ⟨by rfl, ?_⟩) (by assumption) ?_
        rotate_left
        · intro wq hSw
          obtain ⟨z0, z1, z2⟩ := HCl.out wq hSw
          clear hSw
          go_simp
          try (with_reducible rfl)
        refine wpAnyH_ready (rs := [8, 12]) (by kernel_rfl) (by simp) ?_
        refine AllReadyH.cons rfl (fun K hK => ?_) (AllReadyH.cons rfl (fun K hK => ?_) AllReadyH.nil)
        · go_simp
          refine (HFk.out _ hh).mono ?_
          rintro e w5 ⟨rfl, hbx⟩
          have h5 : Below wr.heap.size wr w5 := hh.trans (hbx.mono hh.size)
          refine hK.out _ _ h5 (fun _ => ?_)
          clear hK K hbx
          refine wpAnyH_take (i := 9) (v := ?_) rfl (by kernel_rfl) (by kernel_rfl) (by kernel_rfl) (fun _ _ _ h => h) (Or.inl ⟨by rfl, ?_⟩) (by assumption) ?_
          rotate_left
          · intro wq hSw
            clear hSw
            go_simp
            try (with_reducible rfl)
          refine wpAnyH_take (i := 10) (v := ?_) rfl (by kernel_rfl) (by kernel_rfl) (by kernel_rfl) (fun _ _ _ h => h) (Or.inl ⟨by rfl, ?_⟩) (by assumption) ?_
          rotate_left
          · intro wq hSw
            clear hSw
            go_simp
            try (with_reducible rfl)
          refine wpAnyH_take (i := 11) (v := ?_) rfl (by kernel_rfl) (by kernel_rfl) (by kernel_rfl) (fun _ _ _ h => h) (Or.inl ⟨by rfl, ?_⟩) (by assumption) ?_
          rotate_left
          · intro wq hSw
            clear hSw
            go_simp
            try (with_reducible rfl)
          refine wpAnyH_ready (rs := [12]) (by kernel_rfl) (by simp) ?_
          refine AllReadyH.cons rfl (fun K hK => ?_) AllReadyH.nil
          go_simp
          obtain ⟨W6, hW6⟩ : ∃ W6, w5.alloc (.cells #[.int .i64 0, .int .u32 0, .int .u32 0] 71) = W6 := ⟨_, rfl⟩
          have h6 : Below wr.heap.size wr W6 := by rw [← hW6]; exact h5.alloc h5.size _
          have hz8 : W6.heap[w5.heap.size]? = some (.cells #[.int .i64 0, .int .u32 0, .int .u32 0] 71) := by rw [← hW6]; exact heap_alloc_last w5 _
          rw [hW6]
          have h58 := h5.size
          obtain ⟨b8, hb8⟩ : ∃ b8, w5.heap.size = b8 := ⟨_, rfl⟩
          rw [hb8] at hz8 h58 ⊢
          refine hK.out _ _ h6 (fun _ => ?_)
          clear hK K hW6 hb8
          refine wpAnyH_ready (rs := [13]) (by kernel_rfl) (by simp) ?_
          refine AllReadyH.cons rfl (fun K hK => ?_) AllReadyH.nil
          have zz0 := cell_of_row _ _ 0 _ _ _ hz8
          have zz1 := cell_of_row _ _ 1 _ _ _ hz8
          have zz2 := cell_of_row _ _ 2 _ _ _ hz8
          have yy0 := frozen_new hz8 0
          have yy1 := frozen_new hz8 1
          have yy2 := frozen_new hz8 2
          simp at zz0 zz1 zz2
          go_simp
          generalize hW9 : World.setCell _ _ _ = W9
          have h9 : Below wr.heap.size wr W9 := by rw [← hW9]; exact ((h6.setCell (p := ⟨b8, 0, none⟩) h58 _).setCell (p := ⟨b8, 1, none⟩) h58 _).setCell (p := ⟨b8, 2, none⟩) h58 _
          have HB9 := hidIn (HBr.out.trans (h9.mono HBr.out.size))
          refine hK.out _ _ h9 (fun _ => ?_)
          clear hK K hW9 h6 hz8 zz0 zz1 zz2 yy0 yy1 yy2 HBr
          refine wpAnyH_take (i := 14) (v := ?_) rfl (by kernel_rfl) (by kernel_rfl) (by kernel_rfl) (fun _ _ _ h => h) (Or.inl ⟨by rfl, ?_⟩) (by assumption) ?_
          rotate_left
          · intro wq hSw
            clear hSw
            go_simp
            try (with_reducible rfl)
          refine wpAnyH_done (by kernel_rfl) ?_ _
          clear hHeld hh h5 h9
          cases fb with
          | true =>
            have HN := hidIn (HEnd.out rfl)
            go_wp2_with fail
            go_returns
            exact ⟨.inl ⟨HN.out, rfl⟩, HB9.out⟩
          | false =>
            have HO := hidIn (And.intro HB9.out (HOn.out rfl))
            go_wp2_with fail
            go_roundw
            case rel => exact ⟨k + 1, by omega, by go_num, HO⟩
            case measure => simp [intOf]; omega
        · go_simp
          obtain ⟨W4, hW4⟩ : ∃ W4, (wr.alloc (.cells #[.int .i64 0, .int .u32 0, .int .u32 0] 71)).drew = W4 := ⟨_, rfl⟩
          have h4 : Below wr.heap.size wr W4 := by rw [← hW4]; exact ((Below.refl _ wr).alloc (Nat.le_refl _) _).drew
          have hz4 : W4.heap[wr.heap.size]? = some (.cells #[.int .i64 0, .int .u32 0, .int .u32 0] 71) := by rw [← hW4]; exact heap_alloc_last wr _
          rw [hW4]
          obtain ⟨b8, hb8⟩ : ∃ b8, wr.heap.size = b8 := ⟨_, rfl⟩
          have h58 : wr.heap.size ≤ b8 := Nat.le_of_eq hb8
          rw [hb8] at hz4 ⊢
          refine hK.out _ _ h4 (fun _ => ?_)
          clear hK K hW4 hb8
          refine wpAnyH_ready (rs := [8]) (by kernel_rfl) (by simp) ?_
          refine AllReadyH.cons rfl (fun K hK => ?_) AllReadyH.nil
          go_simp
          refine (HFk.out _ h4).mono ?_
          rintro e w5 ⟨rfl, hbx⟩
          have h6 : Below wr.heap.size wr w5 := h4.trans (hbx.mono h4.size)
          have hz8 := (hbx.block _ (block_lt hz4)).trans hz4
          refine hK.out _ _ h6 (fun _ => ?_)
          clear hK K hbx hz4 h4
          refine wpAnyH_take (i := 9) (v := ?_) rfl (by kernel_rfl) (by kernel_rfl) (by kernel_rfl) (fun _ _ _ h => h) (Or.inl ⟨by rfl, ?_⟩) (by assumption) ?_
          rotate_left
          · intro wq hSw
            clear hSw
            go_simp
            try (with_reducible rfl)
          refine wpAnyH_take (i := 10) (v := ?_) rfl (by kernel_rfl) (by kernel_rfl) (by kernel_rfl) (fun _ _ _ h => h) (Or.inl ⟨by rfl, ?_⟩) (by assumption) ?_
          rotate_left
          · intro wq hSw
            clear hSw
            go_simp
            try (with_reducible rfl)
          refine wpAnyH_take (i := 11) (v := ?_) rfl (by kernel_rfl) (by kernel_rfl) (by kernel_rfl) (fun _ _ _ h => h) (Or.inl ⟨by rfl, ?_⟩) (by assumption) ?_
          rotate_left
          · intro wq hSw
            clear hSw
            go_simp
            try (with_reducible rfl)
          refine wpAnyH_ready (rs := [13]) (by kernel_rfl) (by simp) ?_
          refine AllReadyH.cons rfl (fun K hK => ?_) AllReadyH.nil
          have zz0 := cell_of_row _ _ 0 _ _ _ hz8
          have zz1 := cell_of_row _ _ 1 _ _ _ hz8
          have zz2 := cell_of_row _ _ 2 _ _ _ hz8
          have yy0 := frozen_new hz8 0
          have yy1 := frozen_new hz8 1
          have yy2 := frozen_new hz8 2
          simp at zz0 zz1 zz2
          go_simp
          generalize hW9 : World.setCell _ _ _ = W9
          have h9 : Below wr.heap.size wr W9 := by rw [← hW9]; exact ((h6.setCell (p := ⟨b8, 0, none⟩) h58 _).setCell (p := ⟨b8, 1, none⟩) h58 _).setCell (p := ⟨b8, 2, none⟩) h58 _
          have HB9 := hidIn (HBr.out.trans (h9.mono HBr.out.size))
          refine hK.out _ _ h9 (fun _ => ?_)
          clear hK K hW9 h6 hz8 zz0 zz1 zz2 yy0 yy1 yy2 HBr
          refine wpAnyH_take (i := 14) (v := ?_) rfl (by kernel_rfl) (by kernel_rfl) (by kernel_rfl) (fun _ _ _ h => h) (Or.inl ⟨by rfl, ?_⟩) (by assumption) ?_
          rotate_left
          · intro wq hSw
            clear hSw
            go_simp
            try (with_reducible rfl)
          refine wpAnyH_done (by kernel_rfl) ?_ _
          clear hHeld hh h9
          cases fb with
          | true =>
            have HN := hidIn (HEnd.out rfl)
            go_wp2_with fail
            go_returns
            exact ⟨.inl ⟨HN.out, rfl⟩, HB9.out⟩
          | false =>
            have HO := hidIn (And.intro HB9.out (HOn.out rfl))
            go_wp2_with fail
            go_roundw
            case rel => exact ⟨k + 1, by omega, by go_num, HO⟩
            case measure => simp [intOf]; omega
    · obtain rfl : k = LL := by omega
      have hki : ¬ (k : Int) < (k : Int) := by omega
      have HBy : Hid (byS l = some g) := hidIn (by have := Hg.out; rwa [← HLL.out, List.take_length] at this)
      have HOk := hidIn (byS_ok _ _ rfl g HBy.out)
      clear Hg
      obtain ⟨w2, hw2⟩ : ∃ w2, w2 = wr := ⟨_, rfl⟩
      have HB2 := hidIn HBr.out
      rw [← hw2] at HB2
      have Hw2 := hidIn hw2
      clear hw2 HBr
      go_wp2_with fail
      rw [← Hw2.out]
      clear Hw2
      go_loopw [10, 11, 12] (fun u v q wr => ∃ n : Nat, 1 ≤ n ∧ n ≤ 25 ∧ q = .int .i64 n ∧ Hid (DmM w2 wr F g L n u v)) (fun _ _ q _ => 25 - (intOf q).toNat)
      case atStart => exact ⟨1, Nat.le_refl _, by omega, rfl, hidIn (DmM.none (k := 0) ⟨[], World.ownsRow_nil _ _ _ _, rfl, fun x hx => by simp at hx, World.ownsRow_nil _ _ _ _, Nat.le_refl _, Nat.le_refl _, Below.refl _ _⟩ (ansG_zero HF.out HOk.out))⟩
      case round =>
        obtain ⟨n, h1n, hn, rfl, HR⟩ := hrel
        obtain ⟨a1, c1, a2, c2, rfl, rfl⟩ := HR.out.shape
        have HBr : Hid (Below w.heap.size w wr) := hidIn (by obtain ⟨_, _, _, _, _, _, _, h⟩ := HR.out; exact HB2.out.trans (h.mono HB2.out.size))
        by_cases hlt : n < 25
        · have hni : (n : Int) ≤ 24 := by omega
          have Hask := hidIn (mis_ask HF.out HOk.out n)
          have Hfr : Hid ((fdR L (n : Int)).map (·.1) = F (n : Int)) := hidIn (fdR_all HF.out HLF.out (by omega) (by omega))
          obtain ⟨ls, hls⟩ : ∃ ls, (sndG F g n).length = ls := ⟨_, rfl⟩
          obtain ⟨lw, hlw⟩ : ∃ lw, (wntG F g n).length = lw := ⟨_, rfl⟩
          have Hls := hidIn hls
          have Hlw := hidIn hlw
          rw [hls, hlw] at HR ⊢
          clear hls hlw
          go_wp2_with fail
          refine (HG.out (n : Int) wr HBr.out).mono ?_
          rintro e w3 ⟨h3, hb3⟩
          unfold GdAns at h3
          subst h3
          have HR3 := hidIn (HR.out.keep hb3)
          have HB3 := hidIn (HBr.out.trans (hb3.mono HBr.out.size))
          obtain ⟨fo, hfo⟩ : ∃ fo, fdR L (n : Int) = fo := ⟨_, rfl⟩
          obtain ⟨so, hso⟩ : ∃ so, fdS l (n : Int) = so := ⟨_, rfl⟩
          rw [hfo] at Hfr ⊢
          rw [hso] at Hask
          have Hfo := hidIn hfo
          have Hso := hidIn hso
          have Hub3 : Hid (∀ j, w3.heap.size ≤ j → ¬ (Value.slice a1 ls c1).ownBlock = some j) := hidIn fun j hj hu => by
            obtain ⟨O, h1, _⟩ := HR3.out
            obtain ⟨cur, h⟩ := row_ty h1 hu
            have := block_lt h
            omega
          clear hfo hso HR HBr hb3
          cases fo with
          | none =>
            have HFn : Hid (F (n : Int) = none) := hidIn (by rw [← Hfr.out]; rfl)
            simp only [rOf, uOf, Option.map, Option.getD, Option.isSome, rc0]
            obtain ⟨W4, hW4⟩ : ∃ W4, w3.alloc (.cells #[.int .i64 0, .int .u32 0, .int .u32 0, .int .i64 0, .bool false, .slice none 0 0] 28) = W4 := ⟨_, rfl⟩
            have hb4 : Below w3.heap.size w3 W4 := by rw [← hW4]; exact (Below.refl _ w3).alloc (Nat.le_refl _) _
            have hX4 : W4.heap[w3.heap.size]? = some (.cells #[.int .i64 0, .int .u32 0, .int .u32 0, .int .i64 0, .bool false, .slice none 0 0] 28) := by rw [← hW4]; exact heap_alloc_last w3 _
            obtain ⟨b13, hb13⟩ : ∃ b13, w3.heap.size = b13 := ⟨_, rfl⟩
            rw [hb13] at hX4
            have Hub := hidIn (show ∀ j, b13 ≤ j → ¬ (Value.slice a1 ls c1).ownBlock = some j by rw [← hb13]; exact Hub3.out)
            have hb34 : b13 ≤ W4.heap.size := by rw [← hb13]; exact hb4.size
            have HX4 := hidIn hX4
            have HR4 := hidIn (HR3.out.keep hb4)
            have HB4 := hidIn (HB3.out.trans (hb4.mono HB3.out.size))
            have HW4 := hidIn hW4
            clear hb4 hX4 hW4 HR3 HB3
            go_upto_region 15 with fail
            rw [HW4.out]
            clear HW4 hb13
            go_wp2_with fail
            refine (HFd.out (n : Int) W4 HB4.out).mono ?_
            rintro e w5 ⟨h5, hb5⟩
            unfold FdAns at h5
            subst h5
            rw [Hso.out]
            have HR5 := hidIn (HR4.out.keep hb5)
            have HB5 := hidIn (HB4.out.trans (hb5.mono HB4.out.size))
            have HX5 := hidIn ((hb5.block _ (block_lt HX4.out)).trans HX4.out)
            have Hbb5 : Hid (b13 ≤ w5.heap.size) := hidIn (Nat.le_trans hb34 hb5.size)
            clear HR4 HB4 HX4 hb5 hb34
            cases so with
            | none =>
              simp only [sD, Option.getD, Option.isSome]
              obtain ⟨W6, hW6⟩ : ∃ W6, w5.alloc (.cells #[.int .i64 0, .int .u32 0, .int .u32 0] 71) = W6 := ⟨_, rfl⟩
              have hbr : Below w5.heap.size w5 W6 := by rw [← hW6]; exact (Below.refl _ w5).alloc (Nat.le_refl _) _
              have hY6 : W6.heap[w5.heap.size]? = some (.cells #[.int .i64 0, .int .u32 0, .int .u32 0] 71) := by rw [← hW6]; exact heap_alloc_last w5 _
              obtain ⟨b15, hb15⟩ : ∃ b15, w5.heap.size = b15 := ⟨_, rfl⟩
              rw [hb15] at hY6
              have Hbb : Hid (b13 ≤ b15) := hidIn (by rw [← hb15]; exact Hbb5.out)
              have HY6 := hidIn hY6
              have HR6 := hidIn (HR5.out.keep hbr)
              have HB6 := hidIn (HB5.out.trans (hbr.mono HB5.out.size))
              have HX6 := hidIn ((hbr.block _ (block_lt HX5.out)).trans HX5.out)
              have HW6 := hidIn hW6
              clear hbr hY6 hW6 HR5 HB5 HX5
              have Ha : Hid (ansG F g n = 0) := hidIn (by
                have h1 := Hask.out.1
                have h2 := Hask.out.2
                rw [HFn.out] at h1 h2
                have h3 := newI_vals (gD (F (n : Int))).epoch (gD (F (n : Int))).seq (g n).2.1 (g n).2.2
                rw [HFn.out] at h3
                show newI (gD (F (n : Int))).epoch (gD (F (n : Int))).seq (g n).2.1 (g n).2.2 = 0
                rw [HFn.out]
                simp only [Option.isSome, Bool.false_eq_true, false_and, iff_false] at h1 h2
                omega)
              go_upto_region 16 with fail
              rw [HW6.out]
              clear HW6
              refine wp_region_quiet_below (by kernel_rfl) (by kernel_rfl) ?_
              repeat (go_big_quiet_step (fail))
              refine wpQuiet_nil ?_
              rintro _ ⟨⟨dq, osq⟩, rfl⟩
              have hbr := below_regrown W6 dq osq
              generalize Go.Sort.grow (redrawn W6 dq) osq = W7 at hbr ⊢
              have HR7 := hidIn (HR6.out.keep hbr)
              have HB7 := hidIn (HB6.out.trans (hbr.mono HB6.out.size))
              have HX7 := hidIn ((hbr.block _ (block_lt HX6.out)).trans HX6.out)
              have HY7 := hidIn ((hbr.block _ (block_lt HY6.out)).trans HY6.out)
              clear hbr HR6 HB6 HX6 HY6
              go_upto_region 18 with fail
              refine wp_region_quiet_below (by kernel_rfl) (by kernel_rfl) ?_
              repeat (go_big_quiet_step (fail))
              refine wpQuiet_nil ?_
              rintro _ ⟨⟨dq, osq⟩, rfl⟩
              have hbr := below_regrown W7 dq osq
              generalize Go.Sort.grow (redrawn W7 dq) osq = W8 at hbr ⊢
              have HR8 := hidIn (HR7.out.keep hbr)
              have HB8 := hidIn (HB7.out.trans (hbr.mono HB7.out.size))
              have HX8 := hidIn ((hbr.block _ (block_lt HX7.out)).trans HX7.out)
              have HY8 := hidIn ((hbr.block _ (block_lt HY7.out)).trans HY7.out)
              clear hbr HR7 HB7 HX7 HY7
              have HO := hidIn (HR8.out.none Ha.out)
              go_wp2_with fail
              go_roundw
              case rel => exact ⟨n + 1, by omega, by omega, by go_num, HO⟩
              case measure => simp [intOf]; omega
            | some st =>
              obtain ⟨e0, e1, e2⟩ := st
              have hme := HB.out _ (fdS_mem Hso.out).1
              simp only at hme
              have HU2 := hidIn hme
              clear hme
              simp only [sD, Option.getD, Option.isSome]
              obtain ⟨W6, hW6⟩ : ∃ W6, w5.alloc (.cells #[.int .i64 e0, .int .u32 e1, .int .u32 e2] 71) = W6 := ⟨_, rfl⟩
              have hbr : Below w5.heap.size w5 W6 := by rw [← hW6]; exact (Below.refl _ w5).alloc (Nat.le_refl _) _
              have hY6 : W6.heap[w5.heap.size]? = some (.cells #[.int .i64 e0, .int .u32 e1, .int .u32 e2] 71) := by rw [← hW6]; exact heap_alloc_last w5 _
              obtain ⟨b15, hb15⟩ : ∃ b15, w5.heap.size = b15 := ⟨_, rfl⟩
              rw [hb15] at hY6
              have Hbb : Hid (b13 ≤ b15) := hidIn (by rw [← hb15]; exact Hbb5.out)
              have HY6 := hidIn hY6
              have HR6 := hidIn (HR5.out.keep hbr)
              have HB6 := hidIn (HB5.out.trans (hbr.mono HB5.out.size))
              have HX6 := hidIn ((hbr.block _ (block_lt HX5.out)).trans HX5.out)
              have HW6 := hidIn hW6
              clear hbr hY6 hW6 HR5 HB5 HX5
              have Ha : Hid (ansG F g n = -1) := hidIn (Hask.out.2.2 ⟨rfl, .inl (by rw [HFn.out]; rfl)⟩)
              go_upto_region 16 with fail
              rw [HW6.out]
              clear HW6
              refine wp_region_quiet_below (by kernel_rfl) (by kernel_rfl) ?_
              repeat (go_big_quiet_step (fail))
              refine wpQuiet_nil ?_
              rintro _ ⟨⟨dq, osq⟩, rfl⟩
              have hbr := below_regrown W6 dq osq
              generalize Go.Sort.grow (redrawn W6 dq) osq = W7 at hbr ⊢
              have HR7 := hidIn (HR6.out.keep hbr)
              have HB7 := hidIn (HB6.out.trans (hbr.mono HB6.out.size))
              have HX7 := hidIn ((hbr.block _ (block_lt HX6.out)).trans HX6.out)
              have HY7 := hidIn ((hbr.block _ (block_lt HY6.out)).trans HY6.out)
              clear hbr HR6 HB6 HX6 HY6
              go_upto_region 18 with fail
              refine wp_region_quiet_below (by kernel_rfl) (by kernel_rfl) ?_
              repeat (go_big_quiet_step (fail))
              refine wpQuiet_nil ?_
              rintro _ ⟨⟨dq, osq⟩, rfl⟩
              have hbr := below_regrown W7 dq osq
              generalize Go.Sort.grow (redrawn W7 dq) osq = W8 at hbr ⊢
              have HR8 := hidIn (HR7.out.keep hbr)
              have HB8 := hidIn (HB7.out.trans (hbr.mono HB7.out.size))
              have HX8 := hidIn ((hbr.block _ (block_lt HX7.out)).trans HX7.out)
              have HY8 := hidIn ((hbr.block _ (block_lt HY7.out)).trans HY7.out)
              clear hbr HR7 HB7 HX7 HY7
              obtain ⟨gg, gcap, w9, hrun, hM⟩ := HR8.out.want hlt Ha.out
              rw [Hlw.out] at hrun hM
              have HRun := hidIn hrun
              have HO := hidIn hM
              clear hrun hM
              go_wp2_with (refine l_append rfl _ _ 46 rfl HRun.out ?_)
              go_roundw
              case rel => exact ⟨n + 1, by omega, by omega, by go_num, HO⟩
              case measure => simp [intOf]; omega
          | some old =>
            obtain ⟨⟨q0, q1, q2, q3, q4, qa⟩, vo⟩ := old
            have hmem : (⟨⟨q0, q1, q2, q3, q4, qa⟩, vo⟩ : Rc × Value) ∈ L := List.mem_of_find?_eq_some Hfo.out
            have hvo := HA.out _ hmem
            have hU := HU.out _ hmem
            simp only [U32] at hvo hU
            obtain ⟨oa, ocap, rfl, _⟩ := hvo
            obtain ⟨on, hon⟩ : ∃ on, qa.length = on := ⟨_, rfl⟩
            rw [hon] at Hfo hmem ⊢
            have Hmem := hidIn hmem
            have Hrec : Hid (((⟨q0, q1, q2, q3, q4, qa⟩, .slice oa on ocap) : Rc × Value).1 = gD (F (n : Int))) := hidIn (by rw [← Hfr.out]; rfl)
            have HFn : Hid (F (n : Int) = some ⟨q0, q1, q2, q3, q4, qa⟩) := hidIn (by rw [← Hfr.out]; rfl)
            have HU1 := hidIn hU
            clear hmem hU hon
            simp only [rOf, uOf, Option.map, Option.getD, Option.isSome]
            obtain ⟨W4, hW4⟩ : ∃ W4, w3.alloc (.cells #[.int .i64 q0, .int .u32 q1, .int .u32 q2, .int .i64 q3, .bool q4, .slice oa on ocap] 28) = W4 := ⟨_, rfl⟩
            have hb4 : Below w3.heap.size w3 W4 := by rw [← hW4]; exact (Below.refl _ w3).alloc (Nat.le_refl _) _
            have hX4 : W4.heap[w3.heap.size]? = some (.cells #[.int .i64 q0, .int .u32 q1, .int .u32 q2, .int .i64 q3, .bool q4, .slice oa on ocap] 28) := by rw [← hW4]; exact heap_alloc_last w3 _
            obtain ⟨b13, hb13⟩ : ∃ b13, w3.heap.size = b13 := ⟨_, rfl⟩
            rw [hb13] at hX4
            have Hub := hidIn (show ∀ j, b13 ≤ j → ¬ (Value.slice a1 ls c1).ownBlock = some j by rw [← hb13]; exact Hub3.out)
            have hb34 : b13 ≤ W4.heap.size := by rw [← hb13]; exact hb4.size
            have HX4 := hidIn hX4
            have HR4 := hidIn (HR3.out.keep hb4)
            have HB4 := hidIn (HB3.out.trans (hb4.mono HB3.out.size))
            have HW4 := hidIn hW4
            clear hb4 hX4 hW4 HR3 HB3
            go_upto_region 15 with fail
            rw [HW4.out]
            clear HW4 hb13
            go_wp2_with fail
            refine (HFd.out (n : Int) W4 HB4.out).mono ?_
            rintro e w5 ⟨h5, hb5⟩
            unfold FdAns at h5
            subst h5
            rw [Hso.out]
            have HR5 := hidIn (HR4.out.keep hb5)
            have HB5 := hidIn (HB4.out.trans (hb5.mono HB4.out.size))
            have HX5 := hidIn ((hb5.block _ (block_lt HX4.out)).trans HX4.out)
            have Hbb5 : Hid (b13 ≤ w5.heap.size) := hidIn (Nat.le_trans hb34 hb5.size)
            clear HR4 HB4 HX4 hb5 hb34
            cases so with
            | none =>
              simp only [sD, Option.getD, Option.isSome]
              obtain ⟨W6, hW6⟩ : ∃ W6, w5.alloc (.cells #[.int .i64 0, .int .u32 0, .int .u32 0] 71) = W6 := ⟨_, rfl⟩
              have hbr : Below w5.heap.size w5 W6 := by rw [← hW6]; exact (Below.refl _ w5).alloc (Nat.le_refl _) _
              have hY6 : W6.heap[w5.heap.size]? = some (.cells #[.int .i64 0, .int .u32 0, .int .u32 0] 71) := by rw [← hW6]; exact heap_alloc_last w5 _
              obtain ⟨b15, hb15⟩ : ∃ b15, w5.heap.size = b15 := ⟨_, rfl⟩
              rw [hb15] at hY6
              have Hbb : Hid (b13 ≤ b15) := hidIn (by rw [← hb15]; exact Hbb5.out)
              have HY6 := hidIn hY6
              have HR6 := hidIn (HR5.out.keep hbr)
              have HB6 := hidIn (HB5.out.trans (hbr.mono HB5.out.size))
              have HX6 := hidIn ((hbr.block _ (block_lt HX5.out)).trans HX5.out)
              have HW6 := hidIn hW6
              clear hbr hY6 hW6 HR5 HB5 HX5
              have Ha : Hid (ansG F g n = 1) := hidIn (Hask.out.1.2 ⟨by rw [HFn.out]; rfl, .inl rfl⟩)
              go_upto_region 16 with fail
              rw [HW6.out]
              clear HW6
              refine wp_region_quiet_below (by kernel_rfl) (by kernel_rfl) ?_
              repeat (go_big_quiet_step (fail))
              refine wpQuiet_nil ?_
              rintro _ ⟨⟨dq, osq⟩, rfl⟩
              have hbr := below_regrown W6 dq osq
              generalize Go.Sort.grow (redrawn W6 dq) osq = W7 at hbr ⊢
              have HR7 := hidIn (HR6.out.keep hbr)
              have HB7 := hidIn (HB6.out.trans (hbr.mono HB6.out.size))
              have HX7 := hidIn ((hbr.block _ (block_lt HX6.out)).trans HX6.out)
              have HY7 := hidIn ((hbr.block _ (block_lt HY6.out)).trans HY6.out)
              clear hbr HR6 HB6 HX6 HY6
              have z0 := cell_of_row _ _ 0 _ _ _ HX7.out
              have z1 := cell_of_row _ _ 1 _ _ _ HX7.out
              have z2 := cell_of_row _ _ 2 _ _ _ HX7.out
              have z3 := cell_of_row _ _ 3 _ _ _ HX7.out
              have z4 := cell_of_row _ _ 4 _ _ _ HX7.out
              have z5 := cell_of_row _ _ 5 _ _ _ HX7.out
              simp at z0 z1 z2 z3 z4 z5
              have kz0 := cell_regrown z0
              have kz1 := cell_regrown z1
              have kz2 := cell_regrown z2
              have kz3 := cell_regrown z3
              have kz4 := cell_regrown z4
              have kz5 := cell_regrown z5
              obtain ⟨gg, gcap, w9, hrun, hM, _⟩ := HR7.out.send hlt Ha.out (x := (⟨q0, q1, q2, q3, q4, qa⟩, .slice oa on ocap)) Hmem.out rfl Hrec.out
              rw [Hls.out] at hrun hM
              have HRun := hidIn hrun
              have HO := hidIn hM
              clear hrun hM
              go_upto_region 18 with (refine l_append rfl _ _ 22 rfl HRun.out ?_)
              clear z0 z1 z2 z3 z4 z5 kz0 kz1 kz2 kz3 kz4 kz5 HRun
              refine wp_region_quiet_below (by kernel_rfl) (by kernel_rfl) ?_
              repeat (go_big_quiet_step (fail))
              refine wpQuiet_nil ?_
              rintro _ ⟨⟨dq, osq⟩, rfl⟩
              have hbr := below_regrown w9 dq osq
              generalize Go.Sort.grow (redrawn w9 dq) osq = W10 at hbr ⊢
              have HO := hidIn (HO.out.keep hbr)
              clear hbr
              go_wp2_with fail
              go_roundw
              case rel => exact ⟨n + 1, by omega, by omega, by go_num, HO⟩
              case measure => simp [intOf]; omega
            | some st =>
              obtain ⟨e0, e1, e2⟩ := st
              have hme := HB.out _ (fdS_mem Hso.out).1
              simp only at hme
              have HU2 := hidIn hme
              clear hme
              simp only [sD, Option.getD, Option.isSome]
              obtain ⟨W6, hW6⟩ : ∃ W6, w5.alloc (.cells #[.int .i64 e0, .int .u32 e1, .int .u32 e2] 71) = W6 := ⟨_, rfl⟩
              have hbr : Below w5.heap.size w5 W6 := by rw [← hW6]; exact (Below.refl _ w5).alloc (Nat.le_refl _) _
              have hY6 : W6.heap[w5.heap.size]? = some (.cells #[.int .i64 e0, .int .u32 e1, .int .u32 e2] 71) := by rw [← hW6]; exact heap_alloc_last w5 _
              obtain ⟨b15, hb15⟩ : ∃ b15, w5.heap.size = b15 := ⟨_, rfl⟩
              rw [hb15] at hY6
              have Hbb : Hid (b13 ≤ b15) := hidIn (by rw [← hb15]; exact Hbb5.out)
              have HY6 := hidIn hY6
              have HR6 := hidIn (HR5.out.keep hbr)
              have HB6 := hidIn (HB5.out.trans (hbr.mono HB5.out.size))
              have HX6 := hidIn ((hbr.block _ (block_lt HX5.out)).trans HX5.out)
              have HW6 := hidIn hW6
              clear hbr hY6 hW6 HR5 HB5 HX5
              obtain ⟨n1, hn1⟩ : ∃ n1, newI q1 q2 e1 e2 = n1 := ⟨_, rfl⟩
              obtain ⟨n2, hn2⟩ : ∃ n2, newI e1 e2 q1 q2 = n2 := ⟨_, rfl⟩
              have Hcmp : Hid ((ansG F g n = 1 ↔ 0 < n1) ∧ (ansG F g n = -1 ↔ 0 < n2)) := hidIn (by
                have h1 := Hask.out.1
                have h2 := Hask.out.2
                rw [← hn1, ← hn2]
                unfold ansG
                rw [HFn.out] at h1 h2 ⊢
                simpa [sD, gD] using And.intro h1 h2)
              have hng : n2 = - n1 := by rw [← hn1, ← hn2]; exact newI_neg _ _ _ _
              have HNw : Hid (∀ wq, Calls Try.prog 35 #[.agg #[.int .i64 q0, .int .u32 q1, .int .u32 q2], .agg #[.int .i64 e0, .int .u32 e1, .int .u32 e2]] wq fun e w' => e = .returned (.int .i64 n1) ∧ Below wq.heap.size wq w') := hidIn fun wq => by rw [← hn1]; exact dnewI HU1.out ⟨HU2.out.1.1, HU2.out.1.2, HU2.out.2.1, HU2.out.2.2⟩ _ _ wq
              have HNw2 : Hid (∀ wq, Calls Try.prog 35 #[.agg #[.int .i64 e0, .int .u32 e1, .int .u32 e2], .agg #[.int .i64 q0, .int .u32 q1, .int .u32 q2]] wq fun e w' => e = .returned (.int .i64 n2) ∧ Below wq.heap.size wq w') := hidIn fun wq => by rw [← hn2]; exact dnewI ⟨HU2.out.1.1, HU2.out.1.2, HU2.out.2.1, HU2.out.2.2⟩ HU1.out _ _ wq
              clear hn1 hn2
              have z0 := cell_of_row _ _ 0 _ _ _ HX6.out
              have z1 := cell_of_row _ _ 1 _ _ _ HX6.out
              have z2 := cell_of_row _ _ 2 _ _ _ HX6.out
              have z3 := cell_of_row _ _ 3 _ _ _ HX6.out
              have z4 := cell_of_row _ _ 4 _ _ _ HX6.out
              have z5 := cell_of_row _ _ 5 _ _ _ HX6.out
              simp at z0 z1 z2 z3 z4 z5
              have kz0 := cell_regrown z0
              have kz1 := cell_regrown z1
              have kz2 := cell_regrown z2
              have kz3 := cell_regrown z3
              have kz4 := cell_regrown z4
              have kz5 := cell_regrown z5
              have y0 := cell_of_row _ _ 0 _ _ _ HY6.out
              have y1 := cell_of_row _ _ 1 _ _ _ HY6.out
              have y2 := cell_of_row _ _ 2 _ _ _ HY6.out
              simp at y0 y1 y2
              have ky0 := cell_regrown y0
              have ky1 := cell_regrown y1
              have ky2 := cell_regrown y2
              go_upto_region 16 with fail
              rw [HW6.out]
              clear HW6
              refine wp_region_quiet_below (by kernel_rfl) (by kernel_rfl) ?_
              repeat (go_big_quiet_step (first
                | (go_at_call 36; exact Calls.regrown_of (dstamp_lit _ _ _ _ _ _ _ _ _))
                | (go_at_call 35; exact Calls.regrown_of (HNw.out _))))
              refine wpQuiet_nil ?_
              rintro _ ⟨⟨dq, osq⟩, rfl⟩
              have hbr := below_regrown W6 dq osq
              generalize Go.Sort.grow (redrawn W6 dq) osq = W7 at hbr ⊢
              have HR7 := hidIn (HR6.out.keep hbr)
              have HB7 := hidIn (HB6.out.trans (hbr.mono HB6.out.size))
              have HX7 := hidIn ((hbr.block _ (block_lt HX6.out)).trans HX6.out)
              have HY7 := hidIn ((hbr.block _ (block_lt HY6.out)).trans HY6.out)
              clear hbr HR6 HB6 HX6 HY6
              clear z0 z1 z2 z3 z4 z5 kz0 kz1 kz2 kz3 kz4 kz5 y0 y1 y2 ky0 ky1 ky2 HNw
              by_cases hp : 0 < n1
              · have Ha : Hid (ansG F g n = 1) := hidIn (Hcmp.out.1.2 hp)
                have hd1 : decide (0 < n1) = true := by simpa using hp
                have hd2 : decide (0 < n2) = false := by simp; omega
                have z0 := cell_of_row _ _ 0 _ _ _ HX7.out
                have z1 := cell_of_row _ _ 1 _ _ _ HX7.out
                have z2 := cell_of_row _ _ 2 _ _ _ HX7.out
                have z3 := cell_of_row _ _ 3 _ _ _ HX7.out
                have z4 := cell_of_row _ _ 4 _ _ _ HX7.out
                have z5 := cell_of_row _ _ 5 _ _ _ HX7.out
                simp at z0 z1 z2 z3 z4 z5
                have kz0 := cell_regrown z0
                have kz1 := cell_regrown z1
                have kz2 := cell_regrown z2
                have kz3 := cell_regrown z3
                have kz4 := cell_regrown z4
                have kz5 := cell_regrown z5
                obtain ⟨gg, gcap, w9, hrun, hM, hF9⟩ := HR7.out.send hlt Ha.out (x := (⟨q0, q1, q2, q3, q4, qa⟩, .slice oa on ocap)) Hmem.out rfl Hrec.out
                rw [Hls.out] at hrun hM
                have HX9 := hidIn ((hF9.block b13 (block_lt HX7.out) (Hub.out b13 (Nat.le_refl _))).trans HX7.out)
                have HY9 := hidIn ((hF9.block b15 (block_lt HY7.out) (Hub.out b15 Hbb.out)).trans HY7.out)
                have HRun := hidIn hrun
                have HO := hidIn hM
                clear hrun hM hF9
                go_upto_region 18 with (refine l_append rfl _ _ 22 rfl HRun.out ?_)
                clear z0 z1 z2 z3 z4 z5 kz0 kz1 kz2 kz3 kz4 kz5 HRun HR7 HB7 HX7 HY7
                have z0 := cell_of_row _ _ 0 _ _ _ HX9.out
                have z1 := cell_of_row _ _ 1 _ _ _ HX9.out
                have z2 := cell_of_row _ _ 2 _ _ _ HX9.out
                have z3 := cell_of_row _ _ 3 _ _ _ HX9.out
                have z4 := cell_of_row _ _ 4 _ _ _ HX9.out
                have z5 := cell_of_row _ _ 5 _ _ _ HX9.out
                simp at z0 z1 z2 z3 z4 z5
                have kz0 := cell_regrown z0
                have kz1 := cell_regrown z1
                have kz2 := cell_regrown z2
                have kz3 := cell_regrown z3
                have kz4 := cell_regrown z4
                have kz5 := cell_regrown z5
                have y0 := cell_of_row _ _ 0 _ _ _ HY9.out
                have y1 := cell_of_row _ _ 1 _ _ _ HY9.out
                have y2 := cell_of_row _ _ 2 _ _ _ HY9.out
                simp at y0 y1 y2
                have ky0 := cell_regrown y0
                have ky1 := cell_regrown y1
                have ky2 := cell_regrown y2
                refine wp_region_quiet_below (by kernel_rfl) (by kernel_rfl) ?_
                repeat (go_big_quiet_step (first
                  | (go_at_call 36; exact Calls.regrown_of (dstamp_lit _ _ _ _ _ _ _ _ _))
                  | (go_at_call 35; exact Calls.regrown_of (HNw2.out _))))
                refine wpQuiet_nil ?_
                rintro _ ⟨⟨dq, osq⟩, rfl⟩
                have hbr := below_regrown w9 dq osq
                generalize Go.Sort.grow (redrawn w9 dq) osq = W10 at hbr ⊢
                have HO := hidIn (HO.out.keep hbr)
                clear hbr z0 z1 z2 z3 z4 z5 kz0 kz1 kz2 kz3 kz4 kz5 y0 y1 y2 ky0 ky1 ky2 HX9 HY9
                go_wp2_with fail
                go_roundw
                case rel => exact ⟨n + 1, by omega, by omega, by go_num, HO⟩
                case measure => simp [intOf]; omega
              · have hd1 : decide (0 < n1) = false := by simpa using hp
                have z0 := cell_of_row _ _ 0 _ _ _ HX7.out
                have z1 := cell_of_row _ _ 1 _ _ _ HX7.out
                have z2 := cell_of_row _ _ 2 _ _ _ HX7.out
                have z3 := cell_of_row _ _ 3 _ _ _ HX7.out
                have z4 := cell_of_row _ _ 4 _ _ _ HX7.out
                have z5 := cell_of_row _ _ 5 _ _ _ HX7.out
                simp at z0 z1 z2 z3 z4 z5
                have kz0 := cell_regrown z0
                have kz1 := cell_regrown z1
                have kz2 := cell_regrown z2
                have kz3 := cell_regrown z3
                have kz4 := cell_regrown z4
                have kz5 := cell_regrown z5
                have y0 := cell_of_row _ _ 0 _ _ _ HY7.out
                have y1 := cell_of_row _ _ 1 _ _ _ HY7.out
                have y2 := cell_of_row _ _ 2 _ _ _ HY7.out
                simp at y0 y1 y2
                have ky0 := cell_regrown y0
                have ky1 := cell_regrown y1
                have ky2 := cell_regrown y2
                go_upto_region 18 with fail
                refine wp_region_quiet_below (by kernel_rfl) (by kernel_rfl) ?_
                repeat (go_big_quiet_step (first
                  | (go_at_call 36; exact Calls.regrown_of (dstamp_lit _ _ _ _ _ _ _ _ _))
                  | (go_at_call 35; exact Calls.regrown_of (HNw2.out _))))
                refine wpQuiet_nil ?_
                rintro _ ⟨⟨dq, osq⟩, rfl⟩
                have hbr := below_regrown W7 dq osq
                generalize Go.Sort.grow (redrawn W7 dq) osq = W8 at hbr ⊢
                have HR8 := hidIn (HR7.out.keep hbr)
                have HB8 := hidIn (HB7.out.trans (hbr.mono HB7.out.size))
                have HX8 := hidIn ((hbr.block _ (block_lt HX7.out)).trans HX7.out)
                have HY8 := hidIn ((hbr.block _ (block_lt HY7.out)).trans HY7.out)
                clear hbr HR7 HB7 HX7 HY7
                clear z0 z1 z2 z3 z4 z5 kz0 kz1 kz2 kz3 kz4 kz5 y0 y1 y2 ky0 ky1 ky2
                by_cases hq : 0 < n2
                · have Ha : Hid (ansG F g n = -1) := hidIn (Hcmp.out.2.2 hq)
                  have hd2 : decide (0 < n2) = true := by simpa using hq
                  obtain ⟨gg, gcap, w9, hrun, hM⟩ := HR8.out.want hlt Ha.out
                  rw [Hlw.out] at hrun hM
                  have HRun := hidIn hrun
                  have HO := hidIn hM
                  clear hrun hM
                  go_wp2_with (refine l_append rfl _ _ 46 rfl HRun.out ?_)
                  go_roundw
                  case rel => exact ⟨n + 1, by omega, by omega, by go_num, HO⟩
                  case measure => simp [intOf]; omega
                · have hd2 : decide (0 < n2) = false := by simpa using hq
                  have Ha : Hid (ansG F g n = 0) := hidIn (by
                    have h1 := Hcmp.out.1
                    have h2 := Hcmp.out.2
                    have h3 : ansG F g n = -1 ∨ ansG F g n = 0 ∨ ansG F g n = 1 := newI_vals _ _ _ _
                    omega)
                  have HO := hidIn (HR8.out.none Ha.out)
                  go_wp2_with fail
                  go_roundw
                  case rel => exact ⟨n + 1, by omega, by omega, by go_num, HO⟩
                  case measure => simp [intOf]; omega
        · have hni : ¬ (n : Int) ≤ 24 := by omega
          obtain rfl : n = 25 := by omega
          have HO : Hid (DmAns w wr F L (byS l) (.returned (.tuple #[.slice a1 (sndG F g 25).length c1, .slice a2 (wntG F g 25).length c2, .int .i64 0])) ∧ Below w.heap.size w wr) := hidIn (by
            obtain ⟨O, h1, h2, h3, h4, h5, h6, h7⟩ := HR.out
            exact ⟨.inr ⟨g, _, _, O, HBy.out, rfl, row_low h1 HB2.out.size, h2, h3, row_low h4 HB2.out.size⟩, HBr.out⟩)
          clear HR
          generalize (sndG F g 25).length = l1 at HO ⊢
          generalize (wntG F g 25).length = l2 at HO ⊢
          go_wp2_with fail
          go_returns
          exact HO.out
end Go.Proofs.Ytpdpdhnllmlfdaa
