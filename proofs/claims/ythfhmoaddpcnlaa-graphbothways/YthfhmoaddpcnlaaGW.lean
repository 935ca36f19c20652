/- GraphBothWays. -/
import Derived.Test.YthfhmoaddpcnlaaGW0
namespace Go.Proofs.Ythfhmoaddpcnlaa
open Go.RowKit

set_option maxRecDepth 100000 in
set_option maxHeartbeats 2000000 in
theorem graphWays_walk {l : List (Rc × Value)} {v : Value} {w : World} (hR : RecsAt w v l) (_nn : NilOk v) (hg : ∀ y ∈ l, RecG w y) (bn : (l.length + 1) * 56 ≤ 140737488355328) :
    Calls Try.prog 7 #[v] w fun e w' => e = .returned (.bool true) ∧ Below w.heap.size w w' := by
  obtain ⟨a, cap, rfl, hl, hcap, hat⟩ := hR.r.recs
  have Ha := hidIn hat
  have HR := hidIn hR
  have HG := hidIn hg
  clear hat hR hg
  go_enter Try.func7, Try.ntmps7
  go_wp2_with fail
  refine (works_ok w).mono ?_
  rintro e w1 ⟨rfl, hb1⟩
  go_wp2_with fail
  refine (both_any (HR.out.keep hb1 (Nat.le_refl _))).mono ?_
  rintro e w2 ⟨hans, hb2⟩
  obtain ⟨ua, ucap, va, vcap, rfl, hu, hv⟩ := hans.uni
  obtain ⟨N, hN⟩ : ∃ N, ansN (rcs l) = N := ⟨_, rfl⟩
  obtain ⟨E, hE⟩ : ∃ E, ansE (rcs l) = E := ⟨_, rfl⟩
  obtain ⟨C, hC⟩ : ∃ C, ansC (rcs l) = C := ⟨_, rfl⟩
  rw [hN] at hu ⊢
  rw [hE] at hv ⊢
  rw [hC]
  have HN := hidIn hN
  have HE := hidIn hE
  have HC := hidIn hC
  have HGr := hidIn (grAt_of_rows hu hv)
  have HB2 := hidIn (hb1.trans (hb2.mono hb1.size))
  clear hN hE hC hu hv hans hb1 hb2
  obtain ⟨W3, hW3⟩ : ∃ W3, w2.alloc (.cells #[.slice ua N.length ucap, .slice va E.length vcap] 25) = W3 := ⟨_, rfl⟩
  have bA : Below w2.heap.size w2 W3 := by rw [← hW3]; exact (Below.refl _ w2).alloc (Nat.le_refl _) _
  have hGB : W3.heap[w2.heap.size]? = some (.cells #[.slice ua N.length ucap, .slice va E.length vcap] 25) := by rw [← hW3]; exact heap_alloc_last w2 _
  have HB3 := hidIn (HB2.out.trans (bA.mono HB2.out.size))
  have hbg := block_lt hGB
  have HF : Hid (∀ wq, Below W3.heap.size W3 wq → (wq.cell? ⟨w2.heap.size, 0, none⟩ = some (.slice ua N.length ucap) ∧ wq.cell? ⟨w2.heap.size, 1, none⟩ = some (.slice va E.length vcap)) ∧ GrAt wq (.slice ua N.length ucap) (.slice va E.length vcap) N E ∧ Below w.heap.size w wq) := hidIn fun wq h => by
    have j0 := (h.block _ hbg).trans hGB
    exact ⟨⟨cell_of_row _ _ 0 _ _ _ j0, cell_of_row _ _ 1 _ _ _ j0⟩, (HGr.out.keep bA (Nat.le_refl _)).keep h (Nat.le_refl _), HB3.out.trans (h.mono HB3.out.size)⟩
  have HW := hidIn hW3
  clear hW3 bA hGB
  go_upto_region 4 with fail
  rw [HW.out]
  clear HW HGr HB2
  generalize w2.heap.size = bg at *
  go_wp2_with fail
  go_loopw [5, 6] (fun u i wr => ∃ (r : Nat) (z : Int), r ≤ l.length ∧ i = .int .i64 z ∧ z = (r : Int) - 1 ∧ Hid (wr.ownsRow W3.heap.size 55 6 u (l.length - r) (fl rcc (l.reverse.take (l.length - r))) ∧ Below W3.heap.size W3 wr)) (fun _ i _ => (intOf i + 1).toNat)
  case atStart =>
    refine ⟨l.length, _, Nat.le_refl _, rfl, rfl, hidIn ⟨?_, Below.refl _ _⟩⟩
    rw [Nat.sub_self]
    exact World.ownsRow_nil _ _ _ _
  case round =>
    obtain ⟨r, z, hr, rfl, hz, HRr⟩ := hrel
    obtain ⟨hrow, hbel⟩ := HRr.out
    clear HRr
    obtain ⟨xa, xcap, rfl⟩ := row_shape hrow
    cases r with
    | succ q =>
      have hzq : z = (q : Int) := by omega
      rw [hzq]
      clear hz hzq
      obtain ⟨bk, o, rfl, hbk, hcell⟩ := Ha.out (by omega)
      obtain ⟨⟨⟨orig, epo, sq, cl, ig, as'⟩, va2⟩, hx⟩ : ∃ x, l[q]? = some x := ⟨l[q], List.getElem?_eq_getElem (by omega)⟩
      obtain ⟨aa, acap, hva, _⟩ := (HG.out _ (List.mem_of_getElem? hx)).1
      simp only at hva
      subst hva
      have hbw := (HF.out wr hbel).2.2
      obtain ⟨q0, q1, q2, q3, q4, q5⟩ := hcell q _ hx
      have c0 := (hbw.cell (p := ⟨bk, o + q * 6, none⟩) hbk).trans q0
      have c1 := (hbw.cell (p := ⟨bk, o + q * 6 + 1, none⟩) hbk).trans q1
      have c2 := (hbw.cell (p := ⟨bk, o + q * 6 + 2, none⟩) hbk).trans q2
      have c3 := (hbw.cell (p := ⟨bk, o + q * 6 + 3, none⟩) hbk).trans q3
      have c4 := (hbw.cell (p := ⟨bk, o + q * 6 + 4, none⟩) hbk).trans q4
      have c5 := (hbw.cell (p := ⟨bk, o + q * 6 + 5, none⟩) hbk).trans q5
      simp only at c0 c1 c2 c3 c4 c5
      have hn : l.length - (q + 1) + 1 = l.length - q := by omega
      have HT : Hid (l.reverse.take (l.length - q) = l.reverse.take (l.length - (q + 1)) ++ [(⟨orig, epo, sq, cl, ig, as'⟩, .slice aa as'.length acap)]) := hidIn (by
        rw [← hn]
        refine take_snoc ?_
        rw [List.getElem?_reverse (by omega), show l.length - 1 - (l.length - (q + 1)) = q from by omega]
        exact hx)
      obtain ⟨g, gcap, w6, hrun, hown, hb6⟩ := append_rec hrow (⟨orig, epo, sq, cl, ig, as'⟩, .slice aa as'.length acap) rfl (by omega) hbel.size
      have HRun := hidIn hrun
      have HO := hidIn hown
      have HB6 := hidIn (hbel.trans hb6)
      have Hn := hidIn hn
      have hqi : (0 : Int) ≤ (q : Int) := by omega
      clear hcell q0 q1 q2 q3 q4 q5 hx hrow hbel hbw hrun hown hb6 hn
      generalize l.length - (q + 1) = m at *
      go_wp2_with (refine l_append rfl _ _ 41 rfl HRun.out ?_)
      go_roundw
      case rel =>
        refine ⟨q, _, by omega, rfl, rfl, hidIn ⟨?_, HB6.out⟩⟩
        rw [HT.out, ← Hn.out]
        exact HO.out
      case measure => simp [intOf]
    | zero =>
      have hzq : z = -1 := by omega
      rw [hzq]
      clear hz hzq
      rw [Nat.sub_zero, List.take_of_length_le (by simp)] at hrow
      have HRow := hidIn hrow
      have HBel := hidIn hbel
      have HR4 : Hid (RecsAt wr (.slice xa l.length xcap) l.reverse) := hidIn ⟨slAt_of_row (cs := rcc) (fun _ => rfl) hrow (by simp), fun x hx => (HR.out.a x (List.mem_reverse.1 hx)).keep (HF.out wr hbel).2.2 (Nat.le_refl _)⟩
      clear hrow hbel
      generalize hwo : wr = wo at *
      clear hwo
      go_wp2_with fail
      refine (both_any HR4.out).mono ?_
      rintro e w5 ⟨hans, hb5⟩
      obtain ⟨ub, ubcap, vb, vbcap, rfl, hu, hv⟩ := hans.uni
      have hrev : rcs l.reverse = (rcs l).reverse := by simp [rcs]
      rw [hrev, (ans_turned (rcs l)).1, HN.out] at hu
      rw [hrev, (ans_turned (rcs l)).2.1, HE.out] at hv
      rw [hrev, (ans_turned (rcs l)).1, (ans_turned (rcs l)).2.1, (ans_turned (rcs l)).2.2, HN.out, HE.out, HC.out]
      have HGr5 := hidIn (grAt_of_rows hu hv)
      have HB5 := hidIn (HBel.out.trans (hb5.mono HBel.out.size))
      clear hans hu hv hb5 hrev HRow HR4 HBel
      obtain ⟨W6, hW6⟩ : ∃ W6, w5.alloc (.cells #[.slice ub N.length ubcap, .slice vb E.length vbcap] 25) = W6 := ⟨_, rfl⟩
      have bA : Below w5.heap.size w5 W6 := by rw [← hW6]; exact (Below.refl _ w5).alloc (Nat.le_refl _) _
      have hGB : W6.heap[w5.heap.size]? = some (.cells #[.slice ub N.length ubcap, .slice vb E.length vbcap] 25) := by rw [← hW6]; exact heap_alloc_last w5 _
      have HB6 := hidIn (HB5.out.trans (bA.mono HB5.out.size))
      have HGr6 := hidIn (HGr5.out.keep bA (Nat.le_refl _))
      have k0 : W6.cell? ⟨w5.heap.size, 0, none⟩ = some (.slice ub N.length ubcap) := cell_of_row _ _ 0 _ _ _ hGB
      have k1 : W6.cell? ⟨w5.heap.size, 1, none⟩ = some (.slice vb E.length vbcap) := cell_of_row _ _ 1 _ _ _ hGB
      obtain ⟨⟨f0, f1⟩, hgr, hbw6⟩ := HF.out W6 HB6.out
      have HW := hidIn hW6
      have hS := same_any hgr HGr6.out
      have hsame : sameG N N E E = true := by simp [sameG]
      rw [hsame] at hS
      have HS := hidIn hS
      clear hW6 bA hGB hS hsame hgr HGr5 HGr6 HB5
      go_upto_region 10 with fail
      rw [HW.out]
      clear HW
      generalize w5.heap.size = bh at *
      go_wp2_with fail
      refine HS.out.mono ?_
      rintro e w7 ⟨rfl, hb7⟩
      have HB7 := hidIn (HB6.out.trans (hb7.mono HB6.out.size))
      clear hb7 k0 k1 f0 f1 hbw6 HS
      obtain ⟨⟨f0, f1⟩, hgr, hbw7⟩ := HF.out w7 HB7.out
      by_cases hok : bothOk no1 (rcs l) = true
      · have hC0 : C = 0 := by rw [← HC.out]; unfold ansC; rw [if_pos hok]
        have hN0 : N = bothN (rcs l) := by rw [← HN.out]; unfold ansN; rw [if_pos hok]
        have hE0 : E = bothE (rcs l) := by rw [← HE.out]; unfold ansE; rw [if_pos hok]
        have hU := both_unl.1 hok
        have Hmay : Hid (graphOk N E = true) := hidIn (by rw [hN0, hE0]; exact both_may hU)
        have hlenN : N.length = l.length := by rw [hN0, bothN_len hU]; simp [rcs]
        have Hsym : Hid (∀ e ∈ E, ∃ e' ∈ E, e'.1 = e.2.1 ∧ e'.2.1 = e.1) := hidIn fun e he => by rw [hE0] at he ⊢; exact laidE_sym he
        subst hC0
        have hC := check_any hgr
        rw [Hmay.out] at hC
        have HCh := hidIn hC
        have hq : ((N.length : Int) == (l.length : Int)) = true := by rw [hlenN]; simp
        have HlenN := hidIn hlenN
        clear hC hN0 hE0 hU hok hlenN hgr HN HE HC
        go_wp2_with fail
        refine HCh.out.mono ?_
        rintro e w8 ⟨rfl, hb8⟩
        have HB8 := hidIn (HB7.out.trans (hb8.mono HB7.out.size))
        clear hb8 HCh f0 f1 hbw7 HB7 HB6
        obtain ⟨⟨f0, f1⟩, hgr, hbw8⟩ := HF.out w8 HB8.out
        simp only [if_true]
        go_wp2_with fail
        clear f0 f1 hbw8 hq
        have HGr8 := hidIn hgr
        clear hgr
        go_loopw [9] (fun i wr => ∃ k : Nat, k ≤ E.length ∧ i = .int .i64 k ∧ Hid (Below W3.heap.size W3 wr)) (fun i _ => E.length - (intOf i).toNat)
        case atStart => exact ⟨0, Nat.zero_le _, rfl, HB8⟩
        case round =>
          obtain ⟨k, hk, rfl, HBr⟩ := hrel
          obtain ⟨⟨f0, f1⟩, hgr, hbwr⟩ := HF.out wr HBr.out
          by_cases hlt : k < E.length
          · obtain ⟨⟨x, y, c⟩, hx⟩ : ∃ z, E[k]? = some z := ⟨E[k], List.getElem?_eq_getElem hlt⟩
            obtain ⟨va', vcap', he, _, _, hcl⟩ := hgr.e.eds
            simp only [Value.slice.injEq, true_and] at he
            obtain ⟨rfl, rfl⟩ := he
            obtain ⟨bk, o, rfl, hbk, hcell⟩ := hcl (by omega)
            obtain ⟨c0, c1, _⟩ := hcell k _ hx
            simp only at c0 c1
            have hback : hasE E y x = true := by
              obtain ⟨e', h1, h2, h3⟩ := Hsym.out _ (List.mem_of_getElem? hx)
              exact hasE_iff.2 ⟨e', h1, h2, h3⟩
            have HH : Hid (∀ d os, Calls Try.prog 27 #[grV (.slice ua N.length ucap) (.slice (some ⟨bk, o, none⟩) E.length vcap), .int .i64 y, .int .i64 x] (Go.Sort.grow (redrawn wr d) os) fun e w' => e = .returned (.bool true) ∧ Below (Go.Sort.grow (redrawn wr d) os).heap.size (Go.Sort.grow (redrawn wr d) os) w') := hidIn fun d os => by
              have := has_any (vn := .slice ua N.length ucap) (hgr.e.keep (below_regrown wr d os) (Nat.le_refl _)) y x
              rwa [hback] at this
            have k0 := cell_regrown c0
            have k1 := cell_regrown c1
            have k2 := cell_regrown f0
            have k3 := cell_regrown f1
            have hki : (k : Int) < (E.length : Int) := by omega
            clear hcl hcell hx hback hgr
            go_upto_region 19 with fail
            clear c0 c1 f0 f1
            refine wp_region_quiet_below (by kernel_rfl) (by kernel_rfl) ?_
            repeat (go_big_quiet_step (first | (go_at_call 27; exact Calls.regrown_of (HH.out _ _))))
            refine wpQuiet_nil ?_
            intro _ hw'
            obtain ⟨⟨dq, osq⟩, hw''⟩ := hw'
            subst hw''
            have HB4 := hidIn (HBr.out.trans ((below_regrown wr dq osq).mono HBr.out.size))
            generalize Go.Sort.grow (redrawn wr dq) osq = W4 at HB4 ⊢
            clear k0 k1 k2 k3 HH
            go_wp2_with fail
            go_roundw
            case rel => exact ⟨k + 1, by omega, by go_num, HB4⟩
            case measure => simp [intOf]; omega
          · have hki : ¬ ((k : Int) < (E.length : Int)) := by omega
            clear hgr
            generalize hwo : wr = wo at *
            clear hwo
            go_wp2_with fail
            clear f0 f1 hbwr
            go_loopw [10] (fun i wr => ∃ k : Nat, k ≤ N.length ∧ i = .int .i64 k ∧ Hid (Below W3.heap.size W3 wr)) (fun i _ => N.length - (intOf i).toNat)
            case atStart => exact ⟨0, Nat.zero_le _, rfl, HBr⟩
            case round =>
              obtain ⟨i, hi, rfl, HBs⟩ := hrel
              obtain ⟨⟨f0, f1⟩, hgr, hbws⟩ := HF.out wr HBs.out
              by_cases hlt3 : i < N.length
              · obtain ⟨x, hx⟩ : ∃ z, N[i]? = some z := ⟨N[i], List.getElem?_eq_getElem hlt3⟩
                obtain ⟨na', ncap', he, _, _, hcl⟩ := hgr.n.ints
                simp only [Value.slice.injEq, true_and] at he
                obtain ⟨rfl, rfl⟩ := he
                obtain ⟨bk, o, rfl, hbk, hcell⟩ := hcl (by omega)
                have c0 := hcell i _ hx
                have hxN := List.mem_of_getElem? hx
                have HP := hidIn (part_ok (hgr.keep (Below.refl wr.heap.size wr).drew (Nat.le_refl _)) Hmay.out hxN)
                have hii : (i : Int) < (N.length : Int) := by omega
                have HxN := hidIn hxN
                have Hx := hidIn hx
                have hbd := graphOk_bd Hmay.out
                have HBd := hidIn hbd
                clear hcl hcell hx hgr hxN hbd
                go_upto_region 24 with fail
                go_cut [11, 12] (fun x1 y1 wx => y1 = .int .i64 0 ∧ ∃ f pa m pcap, IsPart E x f ∧ (markedL f).length = m + 1 ∧ x1 = .slice pa (m + 1) pcap ∧ wx.ownsRow wr.heap.size 3 1 (.slice pa (m + 1) pcap) (m + 1) (fl ic (markedL f)) ∧ Below wr.heap.size wr wx)
                case first =>
                  go_region_with (go_at_call 12; refine HP.out.mono ?_; rintro e w9 ⟨⟨f, pa, m, pcap, hf, hm, rfl, hrow⟩, hb9⟩; have Hf := hidIn hf; have Hm := hidIn hm; have Hrow := hidIn hrow; have HB9 := hidIn hb9; clear hf hm hrow hb9)
                  all_goals (go_wp2_with fail; go_meet; exact ⟨rfl, f, pa, m, pcap, Hf.out, Hm.out, rfl, Hrow.out, Below.trans (Below.refl _ wr).drew HB9.out⟩)
                case rest =>
                  obtain ⟨rfl, f, pa, m, pcap, hf, hm, rfl, hrow, hbc⟩ := hcut
                  have Hf := hidIn hf
                  have Hm := hidIn hm
                  have Hrow := hidIn hrow
                  have HBc := hidIn (HBs.out.trans (hbc.mono HBs.out.size))
                  clear hf hm hrow HP f0 f1 hbws c0
                  have HS : Hid (x ∈ markedL f) := hidIn (part_self (HBd.out.1 x HxN.out) Hf.out)
                  generalize hwo2 : wr = wo2 at *
                  clear hwo2
                  generalize hwp : wc = wp at *
                  clear hwp
                  go_wp2_with fail
                  go_loopw [13, 14] (fun b i wr => ∃ (k : Nat) (bb : Bool), k ≤ m + 1 ∧ i = .int .i64 k ∧ b = .bool bb ∧ Hid (bb = decide (x ∈ (markedL f).take k) ∧ Below wp.heap.size wp wr)) (fun _ i _ => m + 1 - (intOf i).toNat)
                  case atStart => exact ⟨0, false, Nat.zero_le _, rfl, rfl, hidIn ⟨by simp, Below.refl _ _⟩⟩
                  case round =>
                    obtain ⟨k4, bb, hk4, rfl, rfl, HR4⟩ := hrel
                    obtain ⟨hbb, hbq⟩ := HR4.out
                    have Hbb := hidIn hbb
                    have HBq := hidIn hbq
                    clear HR4 hbb hbq
                    have hb3q := HBc.out.trans (HBq.out.mono HBc.out.size)
                    obtain ⟨⟨f0, f1⟩, hgr, hbwq⟩ := HF.out wr hb3q
                    by_cases hlt4 : k4 < m + 1
                    · obtain ⟨y, hy⟩ : ∃ y, (markedL f)[k4]? = some y := ⟨(markedL f)[k4]'(by rw [Hm.out]; exact hlt4), List.getElem?_eq_getElem _⟩
                      have HT := hidIn (take_snoc hy)
                      have hym := List.mem_of_getElem? hy
                      have hyN := part_mem HxN.out HBd.out.2.1 Hf.out hym
                      have HRq := hidIn (row_below Hrow.out HBq.out (Nat.le_refl _))
                      obtain ⟨pb, po, rfl, hpb, hpc⟩ := row_cells HRq.out Hm.out
                      have cy := hpc k4 y hy
                      obtain ⟨na', ncap', he, _, _, hcl⟩ := hgr.n.ints
                      simp only [Value.slice.injEq, true_and] at he
                      obtain ⟨rfl, rfl⟩ := he
                      obtain ⟨bk', o', he, _, hcell⟩ := hcl (by omega)
                      simp only [Option.some.injEq, Addr.mk.injEq, and_true] at he
                      obtain ⟨rfl, rfl⟩ := he
                      have cx := hcell i x Hx.out
                      have HP2 : Hid (∀ wq, Below wp.heap.size wp wq → Calls Try.prog 12 #[grV (.slice (some ⟨bk, o, none⟩) N.length ucap) (.slice va E.length vcap), .int .i64 y] wq fun e w' => (∃ f ua m cap, IsPart E y f ∧ (markedL f).length = m + 1 ∧ e = .returned (.tuple #[.slice ua (m + 1) cap, .int .i64 0]) ∧ w'.ownsRow wq.heap.size 3 1 (.slice ua (m + 1) cap) (m + 1) (fl ic (markedL f))) ∧ Below wq.heap.size wq w') := hidIn fun wq h => part_ok (HF.out wq (HBc.out.trans (h.mono HBc.out.size))).2.1 Hmay.out hyN
                      have Hym := hidIn hym
                      have Hy := hidIn hy
                      have hk4i : (k4 : Int) < (m : Int) + 1 := by omega
                      clear hcl hcell hgr hym hyN hy hbwq hpc hb3q
                      obtain ⟨b2, hb2, hrun⟩ : ∃ b2, b2 = (bb || decide (y = x)) ∧ True := ⟨_, rfl, trivial⟩
                      have Hb2 := hidIn hb2
                      clear hb2 hrun
                      go_upto_region 29 with fail
                      go_cut [13] (fun x1 wx => x1 = .bool b2 ∧ Below wp.heap.size wp wx)
                      case first =>
                        cases bb
                        · by_cases hyx : y = x
                          · have hq : (y == x) = true := by simpa using hyx
                            have Hyx := hidIn hyx
                            clear hyx
                            go_quiet (fail)
                            go_wp2_with fail
                            go_meet
                            exact ⟨by rw [Hb2.out]; simp [Hyx.out], below_drewN HBq.out _⟩
                          · have hq : (y == x) = false := by simpa using hyx
                            have Hyx := hidIn hyx
                            clear hyx
                            go_quiet (fail)
                            go_wp2_with fail
                            go_meet
                            exact ⟨by rw [Hb2.out]; simp [Hyx.out], below_drewN HBq.out _⟩
                        · go_quiet (fail)
                          go_wp2_with fail
                          go_meet
                          exact ⟨by rw [Hb2.out]; simp, below_drewN HBq.out _⟩
                      case rest =>
                        obtain ⟨rfl, hbc2⟩ := hcut
                        have HBx := hidIn hbc2
                        have hb3x := HBc.out.trans (hbc2.mono HBc.out.size)
                        clear f0 f1 cy cx hbc2
                        obtain ⟨⟨f0, f1⟩, _, _⟩ := HF.out wc hb3x
                        have HRx := hidIn (row_below Hrow.out HBx.out (Nat.le_refl _))
                        obtain ⟨pb', po', he, _, hpc⟩ := row_cells HRx.out Hm.out
                        simp only [Option.some.injEq, Addr.mk.injEq, and_true] at he
                        obtain ⟨rfl, rfl⟩ := he
                        have cy := hpc k4 y Hy.out
                        have HPx := hidIn (HP2.out wc.drew HBx.out.drew)
                        clear HP2 HBq HRq hpc hb3x
                        go_upto_region 30 with fail
                        generalize hwx : wc = wx at *
                        clear hwx
                        go_cut [15, 16] (fun x1 y1 wy => y1 = .int .i64 0 ∧ ∃ f2 pa2 m2 pcap2, IsPart E y f2 ∧ (markedL f2).length = m2 + 1 ∧ x1 = .slice pa2 (m2 + 1) pcap2 ∧ wy.ownsRow wx.heap.size 3 1 (.slice pa2 (m2 + 1) pcap2) (m2 + 1) (fl ic (markedL f2)) ∧ Below wx.heap.size wx wy)
                        case first =>
                          go_region_with (go_at_call 12; refine HPx.out.mono ?_; rintro e w9 ⟨⟨f2, pa2, m2, pcap2, hf, hm, rfl, hrow⟩, hb9⟩; have Hf2 := hidIn hf; have Hm2 := hidIn hm; have Hrow2 := hidIn hrow; have HB9 := hidIn hb9; clear hf hm hrow hb9)
                          all_goals (go_wp2_with fail; go_meet; exact ⟨rfl, f2, pa2, m2, pcap2, Hf2.out, Hm2.out, rfl, Hrow2.out, Below.trans (Below.refl _ wx).drew HB9.out⟩)
                        case rest =>
                          obtain ⟨rfl, f2, pa2, m2, pcap2, hf2, hm2, rfl, hrow2, hbc3⟩ := hcut
                          have hsame := part_one Hsym.out Hf.out Hym.out hf2
                          rw [hsame] at hm2 hrow2
                          obtain rfl : m2 = m := by have := Hm.out; omega
                          have HBy := hidIn (HBx.out.trans (hbc3.mono HBx.out.size))
                          have HRy := hidIn (row_below Hrow.out HBy.out (Nat.le_refl _))
                          obtain ⟨pb', po', he, _, hpc⟩ := row_cells HRy.out Hm.out
                          simp only [Option.some.injEq, Addr.mk.injEq, and_true] at he
                          obtain ⟨rfl, rfl⟩ := he
                          obtain ⟨pb2, po2, rfl, _, hpc2⟩ := row_cells hrow2 hm2
                          obtain ⟨z0, hz0⟩ : ∃ z, (markedL f)[0]? = some z := ⟨(markedL f)[0]'(by rw [Hm.out]; omega), List.getElem?_eq_getElem _⟩
                          obtain ⟨z1, hz1⟩ : ∃ z, (markedL f)[m2]? = some z := ⟨(markedL f)[m2]'(by rw [Hm.out]; omega), List.getElem?_eq_getElem _⟩
                          have d0 := hpc 0 z0 hz0
                          have d1 := hpc m2 z1 hz1
                          have e0 := hpc2 0 z0 hz0
                          have e1 := hpc2 m2 z1 hz1
                          rw [Nat.add_zero] at d0 e0
                          have hmi : (0 : Int) < (m2 : Int) + 1 := by omega
                          have hmj : (m2 : Int) < (m2 : Int) + 1 := by omega
                          have hm25 : m2 ≤ 24 := by have := markedL_len f; have := Hm.out; omega
                          have wr1 : IntKind.i64.wrap ((m2 : Int) + 1 - 1) = (m2 : Int) := by rw [IntKind.wrap_i64]; omega
                          have wr2 : IntKind.i64.wrap (m2 : Int) = (m2 : Int) := by rw [IntKind.wrap_i64]; omega
                          clear hf2 hm2 hrow2 hbc3 hsame hpc hpc2 hz0 hz1 cy f0 f1 HPx HRx
                          go_upto_region 31 with fail
                          go_quiet (fail)
                          go_wp2_with fail
                          go_roundw
                          case rel =>
                            refine ⟨k4 + 1, b2, by omega, by go_num, rfl, hidIn ⟨?_, below_drewN HBy.out _⟩⟩
                            rw [Hb2.out, Hbb.out, HT.out]
                            simp [eq_comm]
                          case measure => simp [intOf]; omega
                    · have hk4i : ¬ ((k4 : Int) < (m : Int) + 1) := by omega
                      have hbt : bb = true := by
                        rw [Hbb.out, List.take_of_length_le (by rw [Hm.out]; omega)]
                        simpa using HS.out
                      subst hbt
                      have HBz := hidIn hb3q
                      clear hgr hb3q
                      go_wp2_with fail
                      go_roundw
                      case rel => exact ⟨i + 1, by omega, by go_num, HBz⟩
                      case measure => simp [intOf]; omega
              · have hii : ¬ ((i : Int) < (N.length : Int)) := by omega
                clear hgr
                go_wp2_with fail
                go_returns
                exact ⟨rfl, hbws⟩
      · have hC2 : C = 2 := by rw [← HC.out]; unfold ansC; rw [if_neg hok]
        subst hC2
        clear hgr
        go_wp2_with fail
        go_ret
        exact ⟨rfl, hbw7⟩
end Go.Proofs.Ythfhmoaddpcnlaa
