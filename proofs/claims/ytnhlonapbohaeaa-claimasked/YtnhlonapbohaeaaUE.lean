/- ClaimAsked. -/
import Derived.Test.YtnhlonapbohaeaaUE0
namespace Go.Proofs.Ytnhlonapbohaeaa
open Go.RowKit

/-- Is a number in a list? -/
def hasB (l : List Int) (q : Int) : Bool := l.contains q
theorem hasB_snoc (l : List Int) (x q : Int) : hasB (l ++ [x]) q = (hasB l q || (x == q)) := by
  unfold hasB
  simp only [List.contains_eq_mem, List.mem_append, List.mem_singleton]
  by_cases h : q ∈ l
  · simp [h]
  · by_cases hx : x = q
    · simp [hx]
    · have : ¬ q = x := fun e => hx e.symm
      simp [h, hx, this]
def askL (l : List Int) : List Int := (l.take 30).map fun x => x % 30
theorem append_one1 {W : World} {base k : Nat} {u : Value} {l : List Int} (hr : W.ownsRow base 3 1 u k (fl ic l)) (x : Int) (hk : (k + 1) * 8 ≤ 140737488355328) (hbase : base ≤ W.heap.size) :
    ∃ g cap w6, (Builtin.append_ #[30, 30] 30 #[u, .slice (some ⟨W.heap.size, 0, none⟩) 1 1]).run Try.prog (W.alloc (.cells #[.int .i64 x] 3)) = .ok (.slice (some ⟨g, 0, none⟩) (k + 1) cap) w6 ∧ w6.ownsRow base 3 1 (.slice (some ⟨g, 0, none⟩) (k + 1) cap) (k + 1) (fl ic (l ++ [x])) ∧ Below base W w6 := by
  obtain ⟨g, cap, w6, h1, h2, _, _, h3⟩ := append_int hr x hk hbase
  exact ⟨g, cap, w6, h1, h2, h3⟩
set_option maxRecDepth 100000 in
set_option maxHeartbeats 8000000 in
theorem claimAsked_walk {ids as' : List Int} {v av : Value} {w : World} (h : SlAt uc8 1 w v ids) (hb : ∀ y ∈ ids, 0 ≤ y ∧ y ≤ 255) (ha : SlAt uc8 1 w av as') (hab : ∀ y ∈ as', 0 ≤ y ∧ y ≤ 255) :
    Calls Try.prog 6 #[v, av] w fun e w' => e = .returned (.bool true) ∧ Below w.heap.size w w' := by
  have HRe := hidIn (records_any h hb false)
  have HOk := hidIn (recsL_ok ids false)
  have hrl : (recsL ids false).length ≤ 24 := by rw [recsL_len]; omega
  have Hrl := hidIn hrl
  have Hadj : Hid (∀ r ∈ recsL ids false, r.adjs = []) := hidIn fun r hr => recsL_adj hr
  have HCl := hidIn (recsL_claim (ids := ids))
  generalize recsL ids false = rs at HRe HOk Hrl Hadj HCl
  obtain ⟨va, vc, rfl, _⟩ := h
  obtain ⟨aa, ac', rfl, hal, _, hat⟩ := ha.bytes
  have Ha := hidIn hat
  have Hab := hidIn hab
  obtain ⟨an, han⟩ : ∃ an, as'.length = an := ⟨_, rfl⟩
  have Han := hidIn han
  rw [han] at hal ⊢
  obtain ⟨rn, hrn⟩ : ∃ rn, rs.length = rn := ⟨_, rfl⟩
  rw [hrn] at HRe
  have Hrn := hidIn hrn
  clear hb ha hab hat hrl han hrn
  go_enter Try.func6, Try.ntmps6
  go_wp2_with fail
  refine HRe.out.mono ?_
  rintro e w1 ⟨⟨ra, rc, rfl, hr1⟩, hb1⟩
  have HAl := hidIn (all_any (recs_row hr1 Hrn.out Hadj.out) (by rw [List.length_map]; have := Hrl.out; omega))
  have HB1 := hidIn hb1
  clear hr1 hb1 HRe
  go_wp2_with fail
  refine HAl.out.mono ?_
  rintro e w2 ⟨hA, hb2⟩
  rw [rcs_withN] at hA
  rcases hA with ⟨_, u1, rfl, hu1⟩ | ⟨hA, _⟩
  rotate_left
  · rw [HOk.out] at hA; cases hA
  have HT2 := hidIn (tAt_ans hu1)
  have HB2 := hidIn (HB1.out.trans (hb2.mono HB1.out.size))
  clear hu1 hb2 HAl HB1
  go_wp2_with fail
  go_loopw [7, 8] (fun u i wr => ∃ k : Nat, k ≤ an ∧ k ≤ 30 ∧ i = .int .i64 k ∧ (∃ a c, u = .slice a k c) ∧ Hid (Below w2.heap.size w2 wr ∧ wr.ownsRow w2.heap.size 3 1 u k (fl ic ((as'.take k).map fun x => x % 30)))) (fun _ i _ => an - (intOf i).toNat)
  case atStart => exact ⟨0, Nat.zero_le _, Nat.zero_le _, rfl, ⟨none, 0, rfl⟩, hidIn ⟨Below.refl _ _, World.ownsRow_nil _ _ _ _⟩⟩
  case round =>
    obtain ⟨k, hk, hk30, rfl, ⟨ua, uc, rfl⟩, HR⟩ := hrel
    obtain ⟨hbw, hr⟩ := HR.out
    clear HR
    by_cases hlt : k < an ∧ k < 30
    · have hki : (k : Int) < (an : Int) := by omega
      have hk3 : (k : Int) < 30 := by omega
      obtain ⟨bk, o, rfl, hbk, hcell⟩ := Ha.out (by have := Han.out; omega)
      obtain ⟨z, hz⟩ : ∃ z, as'[k]? = some z := ⟨as'[k]'(by have := Han.out; omega), List.getElem?_eq_getElem _⟩
      obtain ⟨hz0, hz1⟩ := Hab.out z (List.mem_of_getElem? hz)
      have c0 := ((HB2.out.trans (hbw.mono HB2.out.size)).cell (p := ⟨bk, o + k, none⟩) hbk).trans (hcell k z hz)
      obtain ⟨y, hy⟩ : ∃ y, z % 30 = y := ⟨_, rfl⟩
      have ht : z.tmod 30 = y := by rw [Int.tmod_eq_emod_of_nonneg hz0]; exact hy
      have hy0 : 0 ≤ y := by omega
      have hy1 : y < 30 := by omega
      obtain ⟨g, gc, w6, hrun, hown, hb6⟩ := append_one1 hr y (by omega) hbw.size
      have HO : Hid (Below w2.heap.size w2 w6 ∧ w6.ownsRow w2.heap.size 3 1 (.slice (some ⟨g, 0, none⟩) (k + 1) gc) (k + 1) (fl ic ((as'.take (k + 1)).map fun x => x % 30))) := hidIn ⟨hbw.trans hb6, by rw [take_snoc hz, List.map_append]; simp only [List.map_cons, List.map_nil, hy]; exact hown⟩
      have HRun := hidIn hrun
      clear hcell hz hbw hr hrun hown hb6 hy hlt
      go_wp2_with (refine l_append rfl _ _ 30 rfl HRun.out ?_)
      go_roundw
      case rel => exact ⟨k + 1, by omega, by omega, by go_num, ⟨_, _, rfl⟩, HO⟩
      case measure => simp [intOf]; omega
    · have hR : (as'.take k).map (fun x => x % 30) = askL as' := by
        unfold askL
        by_cases h30 : k = 30
        · rw [h30]
        · rw [List.take_of_length_le (by have := Han.out; omega), List.take_of_length_le (by have := Han.out; omega)]
      rw [hR] at hr
      have hRl : (askL as').length = k := by rw [← hR, List.length_map, List.length_take]; have := Han.out; omega
      have hRw : ∀ z ∈ askL as', (Lit.int .i64 z).wf = true := fun z hz => by
        obtain ⟨y, _, rfl⟩ := List.mem_map.1 hz
        have h1 : 0 ≤ y % 30 := Int.emod_nonneg _ (by omega)
        have h2 : y % 30 < 30 := Int.emod_lt_of_pos _ (by omega)
        exact wf9 (by omega)
      generalize askL as' = R at hr hRl hRw
      have HT3 := hidIn (HT2.out.keep hbw)
      have HRs := hidIn (slAt_of_row (cs := ic) (fun _ => rfl) hr hRl)
      have HIds := hidIn (ids_T HT3.out (allC_wf HOk.out) (by have := allC_few HCl.out; omega) HRs.out (row_nilOk hr) (by omega) hRw)
      have HB3 := hidIn (HB2.out.trans (hbw.mono HB2.out.size))
      have HRl := hidIn hRl
      have hcond : ¬ ((k : Int) < (an : Int)) ∨ ((k : Int) < (an : Int) ∧ ¬ ((k : Int) < 30)) := by omega
      obtain ⟨u1a, u1c, hu1⟩ := HT3.out.shape
      subst hu1
      clear hR hr hRl hRw hbw HT2 HB2 hlt
      have hgo : ∀ P : Prop, (¬ ((k : Int) < (an : Int)) → P) → (((k : Int) < (an : Int)) → ¬ ((k : Int) < 30) → P) → P := fun P h1 h2 => hcond.elim h1 (fun h => h2 h.1 h.2)
      clear hcond
      refine hgo _ (fun hki => ?_) (fun hki hk3 => ?_)
      all_goals
        clear hgo
        go_wp2_with fail
        refine HIds.out.mono ?_
        rintro e w4 ⟨h4, hb4⟩
        obtain ⟨hv, wv, rfl, hh, hwi⟩ := h4
        have HAsk : Hid (∀ q ∈ R, ∀ (wa wb : World) (e : Ending), MineT wa wb (allC rs) q e → ∃ (id : Int) (ev : Value) (bi be : Bool), e = .returned (.tuple #[.int .i64 id, ev]) ∧ ((ev = .nilIface ∧ be = true) ∨ ∃ c, ev = rfs (pcf c) ∧ be = false) ∧ decide (0 < id) = bi ∧ hasB (idsT (allC rs) (rsL R)) id = (bi && be) ∧ hasB (wioT (allC rs) (rsL R)) q = !(bi && be)) := hidIn fun q hq wa wb e hm => hm.ask HOk.out (((rsL_ok R).2 q).2 hq)
        have hcnt := asked_count HOk.out R
        have hrR := rsL_len R
        have HH := hidIn (slAt_of_row (cs := ic) (fun _ => rfl) hh rfl)
        have HWo := hidIn (slAt_of_row (cs := ic) (fun _ => rfl) hwi rfl)
        have HR4 := hidIn (HRs.out.keep hb4 (Nat.le_refl _))
        have HT4 := hidIn (HT3.out.keep hb4)
        have HB4 := hidIn (HB3.out.trans (hb4.mono HB3.out.size))
        have Hml : Hid (∀ p ∈ allC rs, p.2.length ≤ 10000) := hidIn fun p hp => by have := (allC_rows hp).1; have := Hrl.out; omega
        generalize idsT (allC rs) (rsL R) = IT at HAsk hcnt HH
        generalize wioT (allC rs) (rsL R) = WT at HAsk hcnt HWo
        rw [HRl.out] at hrR
        obtain ⟨ha, hc, rfl, _, _, hhc⟩ := HH.out.ints
        obtain ⟨wa, wc, rfl, _, _, hwc⟩ := HWo.out.ints
        obtain ⟨qa, qc, hqe, _, _, hqc⟩ := HR4.out.ints
        simp only [Value.slice.injEq] at hqe
        obtain ⟨rfl, hz9, rfl⟩ := hqe
        clear hz9
        have HHc := hidIn hhc
        have HWc := hidIn hwc
        have HQc := hidIn hqc
        obtain ⟨hn, hhn⟩ : ∃ hn, IT.length = hn := ⟨_, rfl⟩
        obtain ⟨wn, hwn⟩ : ∃ wn, WT.length = wn := ⟨_, rfl⟩
        rw [hhn] at hcnt ⊢
        rw [hwn] at hcnt ⊢
        have Hhn := hidIn hhn
        have Hwn := hidIn hwn
        have HCnt := hidIn hcnt
        have hnb : hn ≤ 30 := by omega
        have hwb : wn ≤ 30 := by omega
        clear hh hwi hb4 hcnt hrR hhc hwc hqc hhn hwn HIds HRs HT3 HB3 HH HWo hki
        go_wp2_with fail
        go_loopw [11, 12] (fun mt i wr => ∃ p : Nat, p ≤ k ∧ i = .int .i64 p ∧ mt = .int .i64 ((rsL (R.take p)).length : Int) ∧ Hid (Below w4.heap.size w4 wr)) (fun _ i _ => k - (intOf i).toNat)
        case atStart => exact ⟨0, Nat.zero_le _, rfl, by rw [List.take_zero, rsL_nil]; rfl, hidIn (Below.refl _ _)⟩
        case round =>
          obtain ⟨p, hp, rfl, rfl, HW⟩ := hrel
          by_cases hltp : p < k
          · have hpi : (p : Int) < (k : Int) := by omega
            obtain ⟨rb, ro, rfl, hrb, hrcell⟩ := HQc.out (by have := HRl.out; omega)
            obtain ⟨q, hq⟩ : ∃ q, R[p]? = some q := ⟨R[p]'(by have := HRl.out; omega), List.getElem?_eq_getElem _⟩
            have HQ := hidIn (hrcell p q hq)
            have HCell := hidIn hrcell
            have Hq := hidIn hq
            obtain ⟨mt, hmt⟩ : ∃ mt, (rsL (R.take p)).length = mt := ⟨_, rfl⟩
            have Hmt := hidIn hmt
            have hmtb : mt ≤ 30 := by rw [← hmt]; refine Nat.le_trans (rsL_len _) ?_; rw [List.length_take]; omega
            rw [hmt]
            clear hrcell hq hmt
            go_wp2_with fail
            go_loopw [13, 14] (fun tw i wz => ∃ s : Nat, s ≤ p ∧ i = .int .i64 s ∧ tw = .bool (hasB (R.take s) q) ∧ Hid (Below w4.heap.size w4 wz)) (fun _ i _ => p - (intOf i).toNat)
            case atStart => exact ⟨0, Nat.zero_le _, rfl, rfl, HW⟩
            case round =>
              clear HW
              obtain ⟨s, hs, rfl, rfl, HW⟩ := hrel
              obtain ⟨bb, hbb⟩ : ∃ bb, hasB (R.take s) q = bb := ⟨_, rfl⟩
              rw [hbb]
              by_cases hlts : s < p
              · have hsi : (s : Int) < (p : Int) := by omega
                have hsk : (s : Int) < (k : Int) := by omega
                obtain ⟨x, hx⟩ : ∃ x, R[s]? = some x := ⟨R[s]'(by have := HRl.out; omega), List.getElem?_eq_getElem _⟩
                have c1 := (HW.out.cell (p := ⟨rb, ro + s, none⟩) hrb).trans (HCell.out s x hx)
                have c2 := (HW.out.cell (p := ⟨rb, ro + p, none⟩) hrb).trans HQ.out
                have HN : Hid (hasB (R.take (s + 1)) q = (bb || (x == q))) := hidIn (by rw [take_snoc hx, hasB_snoc, hbb])
                clear hx hbb
                cases bb
                · obtain ⟨bx, hbx⟩ : ∃ bx, (x == q) = bx := ⟨_, rfl⟩
                  rw [hbx] at HN
                  go_wp2_with fail
                  go_quiet (fail)
                  go_wp2_with fail
                  go_roundw
                  case rel => exact ⟨s + 1, by omega, by go_num, by rw [HN.out]; simp, hidIn (below_drewN HW.out _)⟩
                  case measure => simp [intOf]; omega
                · go_wp2_with fail
                  go_quiet (fail)
                  go_wp2_with fail
                  go_roundw
                  case rel => exact ⟨s + 1, by omega, by go_num, by rw [HN.out]; rfl, hidIn (below_drewN HW.out _)⟩
                  case measure => simp [intOf]; omega
              · have hsi : ¬ ((s : Int) < (p : Int)) := by omega
                have hse : s = p := by omega
                have Hbb : Hid (hasB (R.take p) q = bb) := hidIn (by rw [← hse]; exact hbb)
                clear hbb hse
                cases bb
                · have Hm2 : Hid ((rsL (R.take (p + 1))).length = mt + 1) := hidIn (by
                    rw [take_snoc Hq.out, rsL_out (by have := Hbb.out; unfold hasB at this; simpa using this), Hmt.out])
                  have c2 := (HW.out.cell (p := ⟨rb, ro + p, none⟩) hrb).trans HQ.out
                  have HMi := hidIn (mine_T q (HT4.out.keep HW.out) Hml.out)
                  go_wp2_with fail
                  refine HMi.out.mono ?_
                  rintro e w5 ⟨hm5, hb5⟩
                  obtain ⟨id, ev, bi, be, rfl, hev, hbi, hin, hout⟩ := HAsk.out q (List.mem_of_getElem? Hq.out) _ _ _ hm5
                  have HW5 := hidIn (HW.out.trans (hb5.mono HW.out.size))
                  have Hin := hidIn hin
                  have Hout := hidIn hout
                  have Hbi := hidIn hbi
                  have Hev := hidIn hev
                  clear hm5 hb5 hin hout hbi hev HW HMi c2
                  go_wp2_with fail
                  go_loopw [17, 19] (fun bn i wz => ∃ s : Nat, s ≤ hn ∧ i = .int .i64 s ∧ bn = .bool (hasB (IT.take s) id) ∧ Hid (Below w4.heap.size w4 wz)) (fun _ i _ => hn - (intOf i).toNat)
                  case atStart => exact ⟨0, Nat.zero_le _, rfl, rfl, HW5⟩
                  case round =>
                    clear HW5
                    obtain ⟨s, hs, rfl, rfl, HW⟩ := hrel
                    by_cases hlts : s < hn
                    · have hsi : (s : Int) < (hn : Int) := by omega
                      obtain ⟨hb, ho, rfl, hhb, hhcell⟩ := HHc.out (by have := Hhn.out; omega)
                      obtain ⟨x, hx⟩ : ∃ x, IT[s]? = some x := ⟨IT[s]'(by have := Hhn.out; omega), List.getElem?_eq_getElem _⟩
                      have c1 := (HW.out.cell (p := ⟨hb, ho + s, none⟩) hhb).trans (hhcell s x hx)
                      obtain ⟨bb, hbb⟩ : ∃ bb, hasB (IT.take s) id = bb := ⟨_, rfl⟩
                      rw [hbb]
                      obtain ⟨bx, hbx⟩ : ∃ bx, (x == id) = bx := ⟨_, rfl⟩
                      have HN : Hid (hasB (IT.take (s + 1)) id = (bb || bx)) := hidIn (by rw [take_snoc hx, hasB_snoc, hbb, hbx])
                      clear hx hbb hhcell
                      cases bb
                      · go_wp2_with fail
                        go_roundw
                        case rel => exact ⟨s + 1, by omega, by go_num, by rw [HN.out]; simp, HW⟩
                        case measure => simp [intOf]; omega
                      · go_wp2_with fail
                        go_roundw
                        case rel => exact ⟨s + 1, by omega, by go_num, by rw [HN.out]; rfl, HW⟩
                        case measure => simp [intOf]; omega
                    · have hsi : ¬ ((s : Int) < (hn : Int)) := by omega
                      have hse : hasB (IT.take s) id = (bi && be) := by rw [List.take_of_length_le (by have := Hhn.out; omega)]; exact Hin.out
                      rw [hse]
                      clear hse
                      go_wp2_with fail
                      go_loopw [18, 20] (fun bn i wz => ∃ r : Nat, r ≤ wn ∧ i = .int .i64 r ∧ bn = .bool (hasB (WT.take r) q) ∧ Hid (Below w4.heap.size w4 wz)) (fun _ i _ => wn - (intOf i).toNat)
                      case atStart => exact ⟨0, Nat.zero_le _, rfl, rfl, HW⟩
                      case round =>
                        clear HW
                        obtain ⟨r, hr, rfl, rfl, HW⟩ := hrel
                        by_cases hltr : r < wn
                        · have hri : (r : Int) < (wn : Int) := by omega
                          obtain ⟨wb, wo, rfl, hwb', hwcell⟩ := HWc.out (by have := Hwn.out; omega)
                          obtain ⟨x, hx⟩ : ∃ x, WT[r]? = some x := ⟨WT[r]'(by have := Hwn.out; omega), List.getElem?_eq_getElem _⟩
                          have c1 := (HW.out.cell (p := ⟨wb, wo + r, none⟩) hwb').trans (hwcell r x hx)
                          have c2 := (HW.out.cell (p := ⟨rb, ro + p, none⟩) hrb).trans HQ.out
                          obtain ⟨bb, hbb⟩ : ∃ bb, hasB (WT.take r) q = bb := ⟨_, rfl⟩
                          rw [hbb]
                          obtain ⟨bx, hbx⟩ : ∃ bx, (x == q) = bx := ⟨_, rfl⟩
                          have HN : Hid (hasB (WT.take (r + 1)) q = (bb || bx)) := hidIn (by rw [take_snoc hx, hasB_snoc, hbb, hbx])
                          clear hx hbb hwcell
                          cases bb
                          · go_wp2_with fail
                            go_quiet (fail)
                            go_wp2_with fail
                            go_roundw
                            case rel => exact ⟨r + 1, by omega, by go_num, by rw [HN.out]; simp, hidIn (below_drewN HW.out _)⟩
                            case measure => simp [intOf]; omega
                          · go_wp2_with fail
                            go_quiet (fail)
                            go_wp2_with fail
                            go_roundw
                            case rel => exact ⟨r + 1, by omega, by go_num, by rw [HN.out]; rfl, hidIn (below_drewN HW.out _)⟩
                            case measure => simp [intOf]; omega
                        · have hri : ¬ ((r : Int) < (wn : Int)) := by omega
                          have hre : hasB (WT.take r) q = !(bi && be) := by rw [List.take_of_length_le (by have := Hwn.out; omega)]; exact Hout.out
                          rw [hre]
                          clear hre
                          have hd := Hbi.out
                          have nN := eqlN
                          have nR := eqlR
                          rcases Hev.out with ⟨rfl, rfl⟩ | ⟨cc, rfl, rfl⟩
                          all_goals
                            cases bi
                            all_goals
                              simp only [Bool.and_false, Bool.false_and, Bool.not_false, Bool.and_self, Bool.not_true]
                              go_wp2_with fail
                              go_roundw
                              case rel => exact ⟨p + 1, by omega, by go_num, by rw [Hm2.out]; go_num, HW⟩
                              case measure => simp [intOf]; omega
                · have Hm2 : Hid ((rsL (R.take (p + 1))).length = mt) := hidIn (by
                    rw [take_snoc Hq.out, rsL_in (by have := Hbb.out; unfold hasB at this; simpa using this)]
                    exact Hmt.out)
                  go_wp2_with fail
                  go_roundw
                  case rel => exact ⟨p + 1, by omega, by go_num, by rw [Hm2.out], HW⟩
                  case measure => simp [intOf]; omega
          · have hpi : ¬ ((p : Int) < (k : Int)) := by omega
            have hpe : R.take p = R := List.take_of_length_le (by have := HRl.out; omega)
            rw [hpe, ← HCnt.out]
            have hq1 : (((hn + wn : Nat) : Int) == (hn : Int) + (wn : Int)) = true := by simp
            have HBw := hidIn (HB4.out.trans (HW.out.mono HB4.out.size))
            clear hpe HW
            go_wp2_with fail
            refine (cworks_any _).mono ?_
            rintro e w9 ⟨rfl, hb9⟩
            have HB9 := hidIn (HBw.out.trans (hb9.mono HBw.out.size))
            clear hb9
            go_wp2_with fail
            go_ret
            exact ⟨rfl, HB9.out⟩
end Go.Proofs.Ytnhlonapbohaeaa
