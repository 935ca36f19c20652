/- GraphLess. -/
import Derived.Test.YthfhmoaddpcnlaaGX0
namespace Go.Proofs.Ythfhmoaddpcnlaa
open Go.RowKit

set_option maxRecDepth 100000 in
set_option maxHeartbeats 4000000 in
theorem graphLess_walk {l : List (Rc × Value)} {v : Value} {w : World} (hR : RecsAt w v l) (nn : NilOk v) (hg : ∀ y ∈ l, RecG w y) (bn : (l.length + 1) * 56 ≤ 140737488355328) (N1 N2 : Int) (_w1 : (Lit.int .i64 N1).wf = true) (_w2 : (Lit.int .i64 N2).wf = true) :
    Calls Try.prog 8 #[v, .int .i64 N1, .int .i64 N2] w fun e w' => e = .returned (.bool true) ∧ Below w.heap.size w w' := by
  obtain ⟨a, cap, rfl, hl, hcap, hat⟩ := hR.r.recs
  have Ha := hidIn hat
  have HR := hidIn hR
  have HG := hidIn hg
  have Hnn := hidIn nn
  clear hat hR hg nn _w1 _w2
  go_enter Try.func8, Try.ntmps8
  go_wp2_with fail
  refine (works_ok w).mono ?_
  rintro e w1 ⟨rfl, hb1⟩
  go_wp2_with fail
  refine (both_any (HR.out.keep hb1 (Nat.le_refl _))).mono ?_
  rintro e w2 ⟨hans, hb2⟩
  obtain ⟨ua, ucap, va, vcap, rfl, hu, hv⟩ := hans.uni
  obtain ⟨N, hN⟩ : ∃ N, ansN (rcs l) = N := ⟨_, rfl⟩
  obtain ⟨E, hE⟩ : ∃ E, ansE (rcs l) = E := ⟨_, rfl⟩
  obtain ⟨C, hC⟩ : ∃ C, ansC (rcs l) = C := ⟨_, rfl⟩
  rw [hN] at hu ⊢
  rw [hE] at hv ⊢
  rw [hC]
  have HN := hidIn hN
  have HE := hidIn hE
  have HC := hidIn hC
  have HGr := hidIn (grAt_of_rows hu hv)
  have HB2 := hidIn (hb1.trans (hb2.mono hb1.size))
  clear hN hE hC hu hv hans hb1 hb2
  obtain ⟨W3, hW3⟩ : ∃ W3, w2.alloc (.cells #[.slice ua N.length ucap, .slice va E.length vcap] 25) = W3 := ⟨_, rfl⟩
  have bA : Below w2.heap.size w2 W3 := by rw [← hW3]; exact (Below.refl _ w2).alloc (Nat.le_refl _) _
  have hGB : W3.heap[w2.heap.size]? = some (.cells #[.slice ua N.length ucap, .slice va E.length vcap] 25) := by rw [← hW3]; exact heap_alloc_last w2 _
  have HB3 := hidIn (HB2.out.trans (bA.mono HB2.out.size))
  have hbg := block_lt hGB
  have HGr3 := hidIn (HGr.out.keep bA (Nat.le_refl _))
  have HGB := hidIn hGB
  have HW := hidIn hW3
  clear hW3 bA hGB HGr HB2
  go_upto_region 4 with fail
  rw [HW.out]
  clear HW
  generalize w2.heap.size = bg at *
  by_cases hok : bothOk no1 (rcs l) = true
  case neg =>
    have hC2 : C = 2 := by rw [← HC.out]; unfold ansC; rw [if_neg hok]
    subst hC2
    go_wp2_with fail
    go_ret
    exact ⟨rfl, HB3.out⟩
  have hC0 : C = 0 := by rw [← HC.out]; unfold ansC; rw [if_pos hok]
  have hN0 : N = bothN (rcs l) := by rw [← HN.out]; unfold ansN; rw [if_pos hok]
  have hE0 : E = bothE (rcs l) := by rw [← HE.out]; unfold ansE; rw [if_pos hok]
  subst hC0
  have HU := hidIn (both_unl.1 hok)
  have HN0 := hidIn hN0
  have HE0 := hidIn hE0
  clear hok hN0 hE0 HN HE HC
  by_cases hl0 : l.length = 0
  · have hq : ((l.length : Int) == 0) = true := by rw [hl0]; rfl
    go_wp2_with fail
    go_ret
    exact ⟨rfl, HB3.out⟩
  have hq : ((l.length : Int) == 0) = false := by
    apply Bool.eq_false_iff.2
    intro h
    simp at h
    exact hl0 (by rw [h]; rfl)
  have hpos : 0 < l.length := by omega
  have hposi : (0 : Int) < (l.length : Int) := by omega
  obtain ⟨t, k, ht, ht1, ht2, hk, hm1, hm2⟩ := rem_nat N1 l.length hpos
  have hki : (k : Int) < (l.length : Int) := by omega
  obtain ⟨bk, o, rfl, hbk, hcell⟩ := Ha.out hpos
  obtain ⟨⟨⟨orig, epo, sq, cl, ig, as'⟩, va2⟩, hx⟩ : ∃ x, l[k]? = some x := ⟨l[k], List.getElem?_eq_getElem hk⟩
  obtain ⟨aa, acap, hva, hal, hacap, haat⟩ := (HG.out _ (List.mem_of_getElem? hx)).1
  simp only at hva hal hacap
  subst hva
  obtain ⟨q0, q1, q2, q3, q4, q5⟩ := hcell k _ hx
  have c0 := (HB3.out.cell (p := ⟨bk, o + k * 6, none⟩) hbk).trans q0
  have c1 := (HB3.out.cell (p := ⟨bk, o + k * 6 + 1, none⟩) hbk).trans q1
  have c2 := (HB3.out.cell (p := ⟨bk, o + k * 6 + 2, none⟩) hbk).trans q2
  have c3 := (HB3.out.cell (p := ⟨bk, o + k * 6 + 3, none⟩) hbk).trans q3
  have c4 := (HB3.out.cell (p := ⟨bk, o + k * 6 + 4, none⟩) hbk).trans q4
  have c5 := (HB3.out.cell (p := ⟨bk, o + k * 6 + 5, none⟩) hbk).trans q5
  simp only at c0 c1 c2 c3 c4 c5
  have Hx := hidIn hx
  have Hat := hidIn haat
  obtain ⟨W4, hW4⟩ : ∃ W4, W3.alloc (recO ⟨orig, epo, sq, cl, ig, as'⟩ (.slice aa as'.length acap)) = W4 := ⟨_, rfl⟩
  have bA : Below W3.heap.size W3 W4 := by rw [← hW4]; exact (Below.refl _ W3).alloc (Nat.le_refl _) _
  have hRB : W4.heap[W3.heap.size]? = some (recO ⟨orig, epo, sq, cl, ig, as'⟩ (.slice aa as'.length acap)) := by rw [← hW4]; exact heap_alloc_last W3 _
  have hlt4 := block_lt hRB
  have HB4 := hidIn (HB3.out.trans (bA.mono HB3.out.size))
  have HF : Hid (∀ wq, Below W4.heap.size W4 wq → (wq.cell? ⟨bg, 0, none⟩ = some (.slice ua N.length ucap) ∧ wq.cell? ⟨bg, 1, none⟩ = some (.slice va E.length vcap)) ∧ (wq.cell? ⟨W3.heap.size, 0, none⟩ = some (.int .i64 orig) ∧ wq.cell? ⟨W3.heap.size, 5, none⟩ = some (.slice aa as'.length acap)) ∧ GrAt wq (.slice ua N.length ucap) (.slice va E.length vcap) N E ∧ RecsAt wq (.slice (some ⟨bk, o, none⟩) l.length cap) l ∧ Below w.heap.size w wq) := hidIn fun wq h => by
    have b3 := bA.trans (h.mono bA.size)
    have j0 := (b3.block _ hbg).trans HGB.out
    have j1 := (h.block _ hlt4).trans hRB
    have bw := HB3.out.trans (b3.mono HB3.out.size)
    exact ⟨⟨cell_of_row _ _ 0 _ _ _ j0, cell_of_row _ _ 1 _ _ _ j0⟩, ⟨cell_of_row _ _ 0 _ _ _ j1, cell_of_row _ _ 5 _ _ _ j1⟩, HGr3.out.keep b3 (Nat.le_refl _), HR.out.keep bw (Nat.le_refl _), bw⟩
  have HW := hidIn hW4
  clear hW4 bA hRB hlt4 hcell hx haat q0 q1 q2 q3 q4 q5 HGr3 HGB
  go_upto_region 8 with fail
  rw [HW.out]
  clear HW c0 c1 c2 c3 c4 c5 ht hm1 hm2 ht1 ht2
  generalize W3.heap.size = br at *
  obtain ⟨⟨g0, g1⟩, ⟨r0, r5⟩, _⟩ := HF.out W4 (Below.refl _ _)
  obtain ⟨n, hn⟩ : ∃ n, as'.length = n := ⟨_, rfl⟩
  rw [hn] at HF hal hacap r5
  have Hn := hidIn hn
  clear hn
  by_cases hn0 : n = 0
  · have hq2 : ((n : Int) == 0) = true := by rw [hn0]; rfl
    go_wp2_with fail
    go_ret
    exact ⟨rfl, HB4.out⟩
  have hq2 : ((n : Int) == 0) = false := by
    apply Bool.eq_false_iff.2
    intro h
    simp at h
    exact hn0 (by rw [h])
  have hnpos : 0 < n := by omega
  have hnposi : (0 : Int) < (n : Int) := by omega
  have hn16 : n ≤ 16 := by rw [← Hn.out]; exact (recOk_parts (HU.out.1 _ (List.mem_map.2 ⟨_, List.mem_of_getElem? Hx.out, rfl⟩))).2.1
  obtain ⟨t2, j, ht, ht1, ht2, hj, hm1, hm2⟩ := rem_nat N2 n hnpos
  have hji : (j : Int) < (n : Int) := by omega
  have wr1 : IntKind.i64.wrap t2 = t2 := by rw [IntKind.wrap_i64]; omega
  have wr2 : IntKind.i64.wrap (t2 + (n : Int)) = t2 + (n : Int) := by rw [IntKind.wrap_i64]; omega
  have wr3 : IntKind.i64.wrap (j : Int) = (j : Int) := by rw [IntKind.wrap_i64]; omega
  go_upto_region 10 with fail
  go_quiet (fail)
  clear hm1 hm2 ht ht1 ht2 wr1 wr2 wr3 r0 r5 g0 g1
  generalize hV : World.drewN W4 _ = V
  have hbV : Below W4.heap.size W4 V := by rw [← hV]; exact below_drewN (Below.refl _ _) _
  clear hV
  obtain ⟨⟨g0, g1⟩, ⟨r0, r5⟩, _, _, hbwV⟩ := HF.out V hbV
  obtain ⟨ba, oa, rfl, hba, hacell⟩ := Hat.out (by show 0 < as'.length; have := Hn.out; omega)
  have hacell' : ∀ i x, as'[i]? = some x → ∀ p u, (ac x)[p]? = some u → w.cell? ⟨ba, oa + i * 2 + p, none⟩ = some u := hacell
  have HAc : Hid (∀ wq, Below w.heap.size w wq → ∀ i x, as'[i]? = some x → ∀ p u, (ac x)[p]? = some u → wq.cell? ⟨ba, oa + i * 2 + p, none⟩ = some u) := hidIn fun wq h i x hx p u hu => (h.cell (p := ⟨ba, oa + i * 2 + p, none⟩) hba).trans (hacell' i x hx p u hu)
  obtain ⟨⟨y1, y2⟩, hy⟩ : ∃ y, as'[j]? = some y := ⟨as'[j]'(by have := Hn.out; omega), List.getElem?_eq_getElem _⟩
  have d0 : V.cell? ⟨ba, oa + j * 2, none⟩ = some (.int .i64 y1) := HAc.out V hbwV j _ hy 0 _ rfl
  have Hy := hidIn hy
  have hba4 : ba < V.heap.size := Nat.lt_of_lt_of_le hba hbwV.size
  obtain ⟨m, rfl⟩ : ∃ m, n = j + 1 + m := ⟨n - (j + 1), by omega⟩
  obtain ⟨c, rfl⟩ : ∃ c, acap = j + 1 + c := ⟨acap - (j + 1), by omega⟩
  obtain ⟨v1, w5, hrun1, hrow1, hb5, _⟩ := append_allA (W := V) (base := W4.heap.size) (n := 0) (u := .slice none 0 0) (l := []) (World.ownsRow_nil _ _ _ _) (slAt_take (cs := ac) (sz := 2) (n := j + 1 + m) (cap := j + 1 + c) (HAc.out V hbwV) Hn.out hal hacap hba4 (k := j) (by omega)) (by rw [List.length_take]; omega) hbV.size (.inl ⟨_, _, _, rfl⟩)
  rw [List.nil_append, Nat.zero_add, show (as'.take j).length = j from by rw [List.length_take]; have := Hn.out; omega] at hrow1
  obtain ⟨xa, xcap, rfl⟩ := row_shape hrow1
  have HRun1 := hidIn hrun1
  have HRow1 := hidIn hrow1
  have HB5 := hidIn (hbV.trans hb5)
  have HBV := hidIn hbV
  have hji2 : (j : Int) < (j : Int) + 1 + (m : Int) := by omega
  have hmc : m ≤ c := by omega
  clear hy hacell hacell' hrun1 hrow1 hb5 hbV hbwV Hat
  go_upto_region 14 with (refine l_append rfl _ _ 27 rfl HRun1.out ?_)
  clear g0 g1 r0 r5 d0 HRun1
  obtain ⟨⟨g0, g1⟩, ⟨r0, r5⟩, _, _, hbw5⟩ := HF.out w5 HB5.out
  go_cut [11] (fun x wx => ∃ ya ycap, x = .slice ya (j + m) ycap ∧ wx.ownsRow W4.heap.size 37 2 (.slice ya (j + m) ycap) (j + m) (fl ac (as'.take j ++ as'.drop (j + 1))) ∧ Below W4.heap.size W4 wx)
  case first =>
    have hba5 : ba < w5.heap.size := Nat.lt_of_lt_of_le hba hbw5.size
    by_cases hc0 : c = 0
    · subst hc0
      obtain rfl : m = 0 := by omega
      have hd : as'.drop (j + 1) = [] := List.drop_eq_nil_of_le (by have := Hn.out; omega)
      obtain ⟨v2, w6, hrun2, hrow2, hb6, _⟩ := append_allA (v := .slice (some ⟨ba, oa, none⟩) 0 0) (m := as'.drop (j + 1)) HRow1.out (by rw [hd]; exact ⟨_, 0, rfl, by simp, by simp, fun h => by simp at h⟩) (by rw [hd]; simp; omega) HB5.out.size (.inl ⟨_, _, _, rfl⟩)
      rw [show (as'.drop (j + 1)).length = 0 from by rw [hd]; rfl] at hrow2
      obtain ⟨ya, ycap, rfl⟩ := row_shape hrow2
      have HRun2 := hidIn hrun2
      have HRow2 := hidIn hrow2
      have HB6 := hidIn (HB5.out.trans hb6)
      clear hrun2 hrow2 hb6 hd
      go_wp2_with (refine l_append rfl _ _ 27 rfl HRun2.out ?_)
      go_meet
      exact ⟨_, _, rfl, HRow2.out, HB6.out⟩
    · have hdl : (as'.drop (j + 1)).length = m := by rw [List.length_drop]; have := Hn.out; omega
      obtain ⟨v2, w6, hrun2, hrow2, hb6, _⟩ := append_allA HRow1.out (slAt_drop (cs := ac) (sz := 2) (n := m) (cap := c) (HAc.out w5 hbw5) (by omega) hmc hba5 (k := j + 1) Hn.out) (by rw [hdl]; omega) HB5.out.size (.inl ⟨_, _, _, rfl⟩)
      rw [hdl] at hrow2
      obtain ⟨ya, ycap, rfl⟩ := row_shape hrow2
      have HRun2 := hidIn hrun2
      have HRow2 := hidIn hrow2
      have HB6 := hidIn (HB5.out.trans hb6)
      clear hrun2 hrow2 hb6 hdl
      go_wp2_with (refine l_append rfl _ _ 27 rfl HRun2.out ?_)
      go_meet
      exact ⟨_, _, rfl, HRow2.out, HB6.out⟩
  case rest =>
    obtain ⟨ya, ycap, rfl, hrow, hbc⟩ := hcut
    clear g0 g1 r0 r5 HRow1
    obtain ⟨_, _, _, hrc, hbwc⟩ := HF.out wc hbc
    obtain ⟨v3, w7, hrun3, hrow7, hb7, _⟩ := append_allR (W := wc) (base := wc.heap.size) (k := 0) (u := .slice none 0 0) (l := []) (World.ownsRow_nil _ _ _ _) hrc.r (fun x hx => by obtain ⟨_, _, h, _⟩ := (HG.out x hx).1; rw [h]; rfl) (by omega) (Nat.le_refl _) (.inl ⟨_, _, _, rfl⟩)
    rw [Nat.zero_add, List.nil_append] at hrow7
    obtain ⟨gz, zcap, cur, rfl, hgz, hcur, _⟩ : ∃ gz zcap cur, v3 = .slice (some ⟨gz, 0, none⟩) l.length zcap ∧ wc.heap.size ≤ gz ∧ w7.heap[gz]? = some (.cells cur 55) ∧ True := by
      rcases hrow7.2 with ⟨h, h0⟩ | ⟨g, cap', cur, h, hb, hh, _⟩
      · omega
      · exact ⟨g, cap', cur, h, hb, hh, trivial⟩
    have hx7 := hrow7.1
    have s5 := hrow7.cells (g := gz) rfl (k * 6 + 5) _ (List.getElem?_eq_getElem (by rw [hx7]; omega))
    rw [Addr.add_mid, Nat.zero_add] at s5
    generalize (fl rcc l)[k * 6 + 5]'_ = z5 at s5
    have sf := frozen_new hcur (k * 6 + 5)
    obtain ⟨W8, hW8⟩ : ∃ W8, w7.setCell ⟨gz, k * 6 + 5, none⟩ (.slice ya (j + m) ycap) = W8 := ⟨_, rfl⟩
    have hb8 : Below wc.heap.size wc W8 := by rw [← hW8]; exact hb7.setCell (p := ⟨gz, k * 6 + 5, none⟩) hgz _
    have hrow8 : W8.ownsRow wc.heap.size 55 6 (.slice (some ⟨gz, 0, none⟩) l.length zcap) l.length (fl rcc (l.set k (less1 ⟨orig, epo, sq, cl, ig, as'⟩ j, .slice ya (j + m) ycap))) := by
      have := row_set hrow7 (k * 6 + 5) (.slice ya (j + m) ycap)
      rw [hW8, fl_set l k _ _ _ (as'.take j ++ as'.drop (j + 1)) Hx.out] at this
      exact this
    have hbw8 := hbwc.trans (hb8.mono hbwc.size)
    have hlen : (as'.take j ++ as'.drop (j + 1)).length = j + m := by rw [List.length_append, List.length_take, List.length_drop]; have := Hn.out; omega
    have HR8 : Hid (RecsAt W8 (.slice (some ⟨gz, 0, none⟩) l.length zcap) (l.set k (less1 ⟨orig, epo, sq, cl, ig, as'⟩ j, .slice ya (j + m) ycap))) := hidIn ⟨slAt_of_row (cs := rcc) (fun _ => rfl) hrow8 (by simp), fun x hx => by
      rcases List.mem_or_eq_of_mem_set hx with h | h
      · exact (HR.out.a x h).keep hbw8 (Nat.le_refl _)
      · rw [h]; exact slAt_of_row (cs := ac) (fun _ => rfl) (row_below hrow hb8 (Nat.le_refl _)) hlen⟩
    have HB8 := hidIn (hbc.trans (hb8.mono hbc.size))
    have HRcs : Hid (rcs (l.set k (less1 ⟨orig, epo, sq, cl, ig, as'⟩ j, .slice ya (j + m) ycap)) = (rcs l).set k (less1 ⟨orig, epo, sq, cl, ig, as'⟩ j)) := hidIn (by simp [rcs, List.map_set])
    have hxr : (rcs l)[k]? = some ⟨orig, epo, sq, cl, ig, as'⟩ := by rw [rcs, List.getElem?_map, Hx.out]; rfl
    obtain ⟨l1, l2, l3⟩ := less_all (k := j) (y := (y1, y2)) HU.out hxr Hy.out
    rw [← HRcs.out] at l1 l2 l3
    have HL1 := hidIn l1
    have HL2 := hidIn l2
    have HL3 := hidIn l3
    have HRun3 := hidIn hrun3
    have HW := hidIn hW8
    clear hrow hbc hrc hbwc hrun3 hrow7 hb7 hcur hx7 hW8 hb8 hrow8 hbw8 hlen hxr l1 l2 l3 hbw5
    generalize l.set k (less1 ⟨orig, epo, sq, cl, ig, as'⟩ j, Value.slice ya (j + m) ycap) = l' at *
    go_upto_region 18 with (refine l_append rfl _ _ 41 rfl HRun3.out ?_)
    rw [HW.out]
    clear HW s5 sf HRun3
    go_wp2_with fail
    refine (both_any HR8.out).mono ?_
    rintro e w9 ⟨hans, hb9⟩
    obtain ⟨u9, v9, rfl, hu9, hv9⟩ : ∃ u v, e = .returned (.tuple #[grV u v, .int .i64 0]) ∧ w9.ownsRow W8.heap.size 3 1 u (bothN (rcs l')).length (fl ic (bothN (rcs l'))) ∧ w9.ownsRow W8.heap.size 45 3 v (bothE (rcs l')).length (fl ec (bothE (rcs l'))) := by
      rcases hans with ⟨_, h⟩ | ⟨h, _⟩
      · exact h
      · rw [HL1.out] at h; cases h
    rw [HL2.out, ← HE0.out] at hv9
    have hML : (bothN (rcs l')).length = N.length := by rw [HL3.out, HN0.out, bothN_len HU.out]
    rw [hML] at hu9
    obtain ⟨F, hF⟩ : ∃ F, E.filter (npE orig y1) = F := ⟨_, rfl⟩
    have hF' : E.filter (npE (Rc.mk orig epo sq cl ig as').origin (y1, y2).1) = F := hF
    rw [hF'] at hv9
    have HFf := hidIn hF
    obtain ⟨pa, pcap, rfl⟩ := row_shape hu9
    obtain ⟨qa, qcap, rfl⟩ := row_shape hv9
    have HV9 := hidIn (slAt_of_row (cs := ec) (fun _ => rfl) hv9 rfl)
    have HB9 := hidIn (HB8.out.trans (hb9.mono HB8.out.size))
    clear hans hb9 hu9 hv9 hML hF hF' HL1 HL2 HL3 HR8 HRcs HN0 HE0
    obtain ⟨W10, hW10⟩ : ∃ W10, w9.alloc (.cells #[.slice pa N.length pcap, .slice qa F.length qcap] 25) = W10 := ⟨_, rfl⟩
    have bA : Below w9.heap.size w9 W10 := by rw [← hW10]; exact (Below.refl _ w9).alloc (Nat.le_refl _) _
    have hGB : W10.heap[w9.heap.size]? = some (.cells #[.slice pa N.length pcap, .slice qa F.length qcap] 25) := by rw [← hW10]; exact heap_alloc_last w9 _
    have hlt10 := block_lt hGB
    have HB10 := hidIn (HB9.out.trans (bA.mono HB9.out.size))
    have HF10 : Hid (∀ wq, Below W10.heap.size W10 wq → ((wq.cell? ⟨bg, 0, none⟩ = some (.slice ua N.length ucap) ∧ wq.cell? ⟨bg, 1, none⟩ = some (.slice va E.length vcap)) ∧ wq.cell? ⟨br, 0, none⟩ = some (.int .i64 orig)) ∧ (wq.cell? ⟨w9.heap.size, 0, none⟩ = some (.slice pa N.length pcap) ∧ wq.cell? ⟨w9.heap.size, 1, none⟩ = some (.slice qa F.length qcap)) ∧ SlAt ec 3 wq (.slice va E.length vcap) E ∧ SlAt ec 3 wq (.slice qa F.length qcap) F ∧ Below w.heap.size w wq) := hidIn fun wq h => by
      have j0 := (h.block _ hlt10).trans hGB
      obtain ⟨k1, k2, k3, _, k5⟩ := HF.out wq (HB10.out.trans (h.mono HB10.out.size))
      exact ⟨⟨k1, k2.1⟩, ⟨cell_of_row _ _ 0 _ _ _ j0, cell_of_row _ _ 1 _ _ _ j0⟩, k3.e, (HV9.out.keep bA (Nat.le_refl _)).keep h (Nat.le_refl _), k5⟩
    have HW := hidIn hW10
    clear hW10 bA hGB hlt10 HV9
    go_upto_region 19 with fail
    rw [HW.out]
    clear HW HB10 HB9 HB8
    generalize w9.heap.size = bh at *
    obtain ⟨_, _, _, hEl, _⟩ := (HF10.out W10 (Below.refl _ _)).2.2.1
    go_wp2_with fail
    go_loopw [15, 16] (fun cn i wr => ∃ (q t : Nat), q ≤ E.length ∧ cn = .int .i64 t ∧ i = .int .i64 q ∧ t ≤ q ∧ Hid (((E.take q).filter (npE orig y1)).length = t ∧ Below W10.heap.size W10 wr)) (fun _ i _ => E.length - (intOf i).toNat)
    case atStart => exact ⟨0, 0, Nat.zero_le _, rfl, rfl, Nat.le_refl _, hidIn ⟨by simp, Below.refl _ _⟩⟩
    case round =>
      obtain ⟨q, t, hqE, rfl, rfl, htq, HRr⟩ := hrel
      obtain ⟨hcn, hbr⟩ := HRr.out
      have Hcn := hidIn hcn
      have HBr := hidIn hbr
      clear HRr hcn hbr
      obtain ⟨⟨⟨f0, f1⟩, r0⟩, ⟨h0, h1⟩, hsE, hsF, hbwr⟩ := HF10.out wr HBr.out
      have HBwr := hidIn hbwr
      clear hbwr
      by_cases hlt : q < E.length
      · obtain ⟨⟨x, y, cc⟩, hx⟩ : ∃ z, E[q]? = some z := ⟨E[q], List.getElem?_eq_getElem hlt⟩
        obtain ⟨va', vcap', he, _, _, hcl⟩ := hsE.eds
        simp only [Value.slice.injEq, true_and] at he
        obtain ⟨rfl, rfl⟩ := he
        obtain ⟨bk2, o2, rfl, hbk2, hcell⟩ := hcl (by omega)
        obtain ⟨c0, c1, c2⟩ := hcell q _ hx
        simp only at c0 c1 c2
        have hqi : (q : Int) < (E.length : Int) := by omega
        obtain ⟨W11, hW11⟩ : ∃ W11, wr.alloc (.cells #[.int .i64 x, .int .i64 y, .int .i64 cc] 45) = W11 := ⟨_, rfl⟩
        have bA : Below wr.heap.size wr W11 := by rw [← hW11]; exact (Below.refl _ wr).alloc (Nat.le_refl _) _
        have hXB : W11.heap[wr.heap.size]? = some (.cells #[.int .i64 x, .int .i64 y, .int .i64 cc] 45) := by rw [← hW11]; exact heap_alloc_last wr _
        have e0 := cell_of_row _ _ 0 _ _ _ hXB
        have e1 := cell_of_row _ _ 1 _ _ _ hXB
        simp at e0 e1
        have HB11 := hidIn (HBr.out.trans (bA.mono HBr.out.size))
        obtain ⟨np, hnp⟩ : ∃ np, npE orig y1 (x, y, cc) = np := ⟨_, rfl⟩
        have HS : Hid (((E.take (q + 1)).filter (npE orig y1)).length = t + (if np = true then 1 else 0)) := hidIn (by
          rw [take_snoc hx, List.filter_append, List.length_append, Hcn.out, List.filter_cons, hnp, List.filter_nil]
          cases np <;> rfl)
        have HH : Hid (Calls Try.prog 27 #[grV (.slice pa N.length pcap) (.slice qa F.length qcap), .int .i64 x, .int .i64 y] W11 fun e w' => e = .returned (.bool np) ∧ Below W11.heap.size W11 w') := hidIn (by
          have h := has_any (vn := .slice pa N.length pcap) (hsF.keep bA (Nat.le_refl _)) x y
          have h2 : hasE F x y = np := by rw [← HFf.out, ← hnp]; exact hasE_less (e := (x, y, cc)) (List.mem_of_getElem? hx)
          rw [h2] at h
          exact h)
        obtain ⟨b1, hb1⟩ : ∃ b1, (x == orig) = b1 := ⟨_, rfl⟩
        obtain ⟨b2, hb2⟩ : ∃ b2, (y == y1) = b2 := ⟨_, rfl⟩
        obtain ⟨b3, hb3⟩ : ∃ b3, (y == orig) = b3 := ⟨_, rfl⟩
        obtain ⟨b4, hb4⟩ : ∃ b4, (x == y1) = b4 := ⟨_, rfl⟩
        have Hnp : Hid ((!np) = ((b1 && b2) || (b3 && b4))) := hidIn (by
          rw [← hnp, ← hb1, ← hb2, ← hb3, ← hb4]
          unfold npE
          rw [Bool.not_not]
          rfl)
        have HW := hidIn hW11
        have Hx2 := hidIn hx
        obtain ⟨⟨⟨f0', f1'⟩, r0'⟩, ⟨h0', h1'⟩, _, _, hbw11⟩ := HF10.out W11 HB11.out
        clear hcl hcell hx hW11 bA hXB hsE hsF hnp
        go_upto_region 26 with fail
        rw [HW.out]
        clear HW c0 c1 c2 f0 f1 r0 h0 h1
        generalize wr.heap.size = bx at *
        go_cut [18] (fun p wx => p = .bool (!np) ∧ wx = W11)
        case first =>
          cases b1 <;> cases b2 <;> cases b3 <;> cases b4
          all_goals
            go_wp2_with fail
            go_meet
            exact ⟨by rw [Hnp.out]; rfl, rfl⟩
        case rest =>
          obtain ⟨rfl, hwc⟩ := hcut
          rw [hwc]
          clear hwc hb1 hb2 hb3 hb4 Hnp
          go_wp2_with fail
          refine HH.out.mono ?_
          rintro e w12 ⟨rfl, hb12⟩
          have HB12 := hidIn (HB11.out.trans (hb12.mono HB11.out.size))
          clear hb12 HH e0 e1 f0' f1' r0' h0' h1' hbw11
          cases np
          · go_wp2_with fail
            go_roundw
            case rel => exact ⟨q + 1, t, by omega, rfl, by go_num, by omega, hidIn ⟨by rw [HS.out]; rfl, HB12.out⟩⟩
            case measure => simp [intOf]; omega
          · go_wp2_with fail
            go_roundw
            case rel => exact ⟨q + 1, t + 1, by omega, by go_num, by go_num, by omega, hidIn ⟨by rw [HS.out]; rfl, HB12.out⟩⟩
            case measure => simp [intOf]; omega
      · have hqi : ¬ ((q : Int) < (E.length : Int)) := by omega
        have hFt : F.length = t := by rw [← HFf.out, ← Hcn.out, List.take_of_length_le (by omega)]
        rw [hFt] at h1
        clear hsE hsF
        go_wp2_with fail
        go_ret
        exact ⟨rfl, HBwr.out⟩
end Go.Proofs.Ythfhmoaddpcnlaa
