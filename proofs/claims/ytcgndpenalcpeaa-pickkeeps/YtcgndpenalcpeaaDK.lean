/- PickKeeps. -/
import Derived.Test.YtcgndpenalcpeaaD9
import Derived.Test.YtcgndpenalcpeaaDG
namespace Go.Proofs.Ytcgndpenalcpeaa
open Go.RowKit

theorem ch_nb {e : Nat} {l : List Int} (h : nbOk l = true) (h0 : l ≠ []) : chN e l = best (mix e) l ∧ chE l = 0 := ch_yes e h (List.length_pos_iff.2 h0)
/-- Both lists without one, a step on. -/
theorem out_step {l : List Int} {k : Nat} {x g : Int} (h : l[k]? = some x) : outL (l.take (k + 1)) g = if (x == g) = true then outL (l.take k) g else outL (l.take k) g ++ [x] := by rw [take_snoc h, outL_snoc]
theorem out_len (l : List Int) (g : Int) : (outL l g).length ≤ l.length := List.length_filter_le _ _
/-- Two lists of numbers in new memory, beside each other. -/
structure TwoR (w wz : World) (ua ub : Value) (la lb : List Int) : Prop where
  ra : wz.ownsRow w.heap.size 3 1 ua la.length (fl ic la)
  rb : wz.ownsRow w.heap.size 3 1 ub lb.length (fl ic lb)
  ap : ∀ i, ua.ownBlock = some i → ub.ownBlock ≠ some i
  be : Below w.heap.size w wz
theorem TwoR.swap {w wz : World} {ua ub : Value} {la lb : List Int} (h : TwoR w wz ua ub la lb) : TwoR w wz ub ua lb la := ⟨h.rb, h.ra, fun i h1 h2 => h.ap i h2 h1, h.be⟩
theorem TwoR.add {w wz : World} {ua ub : Value} {la lb : List Int} (h : TwoR w wz ua ub la lb) (x : Int) (hl : la.length ≤ 100000) :
    ∃ g cap w6, (Builtin.append_ #[23, 23] 23 #[ua, .slice (some ⟨wz.heap.size, 0, none⟩) 1 1]).run Try.prog (wz.alloc (.cells (ic x).toArray 3)) = .ok (.slice (some ⟨g, 0, none⟩) (la.length + 1) cap) w6 ∧ TwoR w w6 (.slice (some ⟨g, 0, none⟩) (la.length + 1) cap) ub (la ++ [x]) lb := by
  obtain ⟨g, cap, w6, hrun, hown, hg, hgr, hb⟩ := append_int h.ra x (by omega) h.be.size
  refine ⟨g, cap, w6, hrun, by simpa using hown, h.rb.kept hgr ?_, fun i hi hb' => ?_, h.be.trans hb⟩
  · cases hu : ub.ownBlock with
    | none => exact .inl rfl
    | some j => exact .inr fun e => h.ap j e.symm hu
  · have hi' : g = i := by simpa [Value.ownBlock] using hi
    subst hi'
    rcases hg with hg | hg
    · exact h.ap g hg hb'
    · have := (h.rb.lt g hb').2
      omega
theorem TwoR.start (w : World) : TwoR w w (.slice none 0 0) (.slice none 0 0) [] [] := ⟨World.ownsRow_nil _ _ _ _, World.ownsRow_nil _ _ _ _, fun i h => by simp [Value.ownBlock] at h, Below.refl _ _⟩
set_option maxRecDepth 100000 in
set_option maxHeartbeats 4000000 in
theorem pickKeeps_walk {e s v : Nat} (he : e < 4294967296) (hs : s < 4294967296) (hv : v < 256) (w : World) :
    Calls Try.prog 5 #[.int .u32 e, .int .u32 s, .int .u8 v] w fun x w' => x = .returned (.bool true) ∧ Below w.heap.size w w' := by
  have hnb := of_nb s
  have HNb := hidIn hnb
  have HRk := hidIn (rk_yes e hnb)
  have H24 := hidIn (nb_len hnb)
  have HU := hidIn (nb_unl he hnb)
  have HND := hidIn (nodup_rise (nb_rise hnb))
  clear hnb
  go_enter Try.func5, Try.ntmps5
  go_wp2_with fail
  refine (pworks_any w).mono ?_
  rintro x w1 ⟨rfl, hb1⟩
  have HB1 := hidIn hb1
  clear hb1
  go_wp2_with fail
  refine (of_any hs w1).mono ?_
  rintro x w2 ⟨⟨a, cap, rfl, hr2⟩, hb2⟩
  have HB2 := hidIn (HB1.out.trans (hb2.mono HB1.out.size))
  have HL2 := hidIn (row_sl hr2)
  have HNil := hidIn (row_nil hr2)
  clear hr2 hb2 HB1
  generalize ofL s = L at *
  by_cases hz : L.length = 0
  · have hzb : ((L.length : Int) == 0) = true := by rw [hz]; rfl
    have HC := hidIn (choose_any he HL2.out)
    rw [(ch_nil e HNb.out hz).2] at HC
    generalize L.length = ln at *
    clear hz
    go_wp2_with fail
    refine HC.out.mono ?_
    rintro x w3 ⟨rfl, hb3⟩
    have HB3 := hidIn (HB2.out.trans (hb3.mono HB2.out.size))
    clear hb3 HC
    go_wp2_with fail
    go_ret
    exact ⟨rfl, HB3.out⟩
  · have hne : L ≠ [] := fun e => hz (by rw [e]; rfl)
    have HNe := hidIn hne
    have hzb : ((L.length : Int) == 0) = false := by rw [beq_eq_false_iff_ne]; omega
    have HC := hidIn (choose_any he HL2.out)
    rw [(ch_nb (e := e) HNb.out hne).1, (ch_nb (e := e) HNb.out hne).2] at HC
    obtain ⟨ln, hln⟩ : ∃ ln, L.length = ln := ⟨_, rfl⟩
    have Hln := hidIn hln
    rw [hln] at HC HL2 HNil H24 hzb ⊢
    have hpos : 0 < ln := by omega
    clear hz hne hln
    go_wp2_with fail
    refine HC.out.mono ?_
    rintro x w3 ⟨rfl, hb3⟩
    have HB3 := hidIn (HB2.out.trans (hb3.mono HB2.out.size))
    have HL3 := hidIn (HL2.out.keep hb3 (Nat.le_refl _))
    have HR := hidIn (rank2_any he HL3.out HNil.out)
    rw [HRk.out.1, HRk.out.2] at HR
    clear hb3 HC HB2 HL2
    go_wp2_with fail
    refine HR.out.mono ?_
    rintro x w4 ⟨⟨a4, c4, rfl, hr4⟩, hb4⟩
    have HB4 := hidIn (HB3.out.trans (hb4.mono HB3.out.size))
    have HL4 := hidIn (HL3.out.keep hb4 (Nat.le_refl _)).ints
    have HO4 := hidIn (row_sl hr4).ints
    have HOl := hidIn ((rank_len (mix e) L).trans Hln.out)
    have HCons := hidIn (rank_cons HND.out HU.out HNe.out)
    clear hr4 hb4 HR HB3 HL3 HNil
    rw [HOl.out] at HO4 ⊢
    obtain ⟨b0, hb0⟩ : ∃ b, best (mix e) L = b := ⟨_, rfl⟩
    obtain ⟨OL, hOL⟩ : ∃ OL, rankL (mix e) L = OL := ⟨_, rfl⟩
    rw [hb0, hOL] at HCons
    rw [hOL] at HO4 HOl
    rw [hb0]
    obtain ⟨a5, k5, he5, _, _, hat5⟩ := HO4.out
    obtain ⟨bk5, o5, rfl, hbk5, hcell5⟩ := hat5 (by have := HOl.out; omega)
    simp only [Value.slice.injEq] at he5
    obtain ⟨rfl, h5a, h5b⟩ := he5
    obtain ⟨a6, k6, he6, _, _, hat6⟩ := HL4.out
    obtain ⟨bk6, o6, rfl, hbk6, hcell6⟩ := hat6 (by have := Hln.out; omega)
    simp only [Value.slice.injEq] at he6
    obtain ⟨rfl, h6a, h6b⟩ := he6
    have c0 := hcell5 0 b0 (by rw [HCons.out]; rfl)
    rw [Nat.add_zero] at c0
    obtain ⟨t, ht, htl⟩ : ∃ t : Nat, (v : Int).tmod (ln : Int) = (t : Int) ∧ t < ln := ⟨v % ln, by rw [Int.tmod_eq_emod_of_nonneg (by omega)]; rfl, Nat.mod_lt _ hpos⟩
    obtain ⟨g, hg⟩ : ∃ g, L[t]? = some g := ⟨L[t]'(by have := Hln.out; omega), List.getElem?_eq_getElem _⟩
    have c1 := hcell6 t g hg
    have hti : (t : Int) < (ln : Int) := by omega
    have hpi : (0 : Int) < (ln : Int) := by omega
    have hq0 : ((ln : Int) != (ln : Int)) = false := by simp
    have hq1 : (b0 != b0) = false := by simp
    have hnz : ((ln : Int) == 0) = false := hzb
    have HC5 := hidIn hcell5
    have HC6 := hidIn hcell6
    have HOr := hidIn hOL
    have HBest := hidIn hb0
    have h24 := H24.out
    clear h5a h5b h6a h6b hcell5 hcell6 hat5 hat6 hOL hb0 hg HL4 HO4 HCons
    go_wp2_with fail
    clear c0 c1
    go_loopw [15, 16, 17] (fun ua ub i wr => ∃ k : Nat, k ≤ ln ∧ i = .int .i64 k ∧ (∃ a c, ua = .slice a (outL (L.take k) g).length c) ∧ (∃ a c, ub = .slice a (outL (OL.take k) g).length c) ∧ Hid (TwoR w4 wr ua ub (outL (L.take k) g) (outL (OL.take k) g))) (fun _ _ i _ => ln - (intOf i).toNat)
    case atStart => exact ⟨0, Nat.zero_le _, rfl, ⟨none, 0, rfl⟩, ⟨none, 0, rfl⟩, hidIn (TwoR.start _)⟩
    case round =>
      obtain ⟨k, hk, rfl, ⟨ua, uac, rfl⟩, ⟨ub, ubc, rfl⟩, HT⟩ := hrel
      by_cases hlt : k < ln
      · obtain ⟨x, hx⟩ : ∃ x, L[k]? = some x := ⟨L[k]'(by have := Hln.out; omega), List.getElem?_eq_getElem _⟩
        obtain ⟨y, hy⟩ : ∃ y, OL[k]? = some y := ⟨OL[k]'(by have := HOl.out; omega), List.getElem?_eq_getElem _⟩
        have hki : (k : Int) < (ln : Int) := by omega
        have c0 := (HT.out.be.cell (p := ⟨bk6, o6 + k, none⟩) hbk6).trans (HC6.out k x hx)
        have c1 := (HT.out.be.cell (p := ⟨bk5, o5 + k, none⟩) hbk5).trans (HC5.out k y hy)
        have hsx := out_step (g := g) hx
        have hsy := out_step (g := g) hy
        have hl1 := out_len (L.take k) g
        have hl2 := out_len (OL.take k) g
        rw [List.length_take] at hl1 hl2
        clear hx hy
        generalize outL (L.take k) g = la at *
        generalize outL (OL.take k) g = lb at *
        by_cases hxg : x = g
        · have hqx : (x != g) = false := by simpa using hxg
          have HX : Hid (outL (L.take (k + 1)) g = la) := hidIn (by rw [hsx, if_pos (by simpa using hxg)])
          by_cases hyg : y = g
          · have hqy : (y != g) = false := by simpa using hyg
            have HY : Hid (outL (OL.take (k + 1)) g = lb) := hidIn (by rw [hsy, if_pos (by simpa using hyg)])
            clear hsx hsy hxg hyg hl1 hl2
            go_wp2_with fail
            go_roundw
            case rel => exact ⟨k + 1, by omega, by go_num, ⟨ua, uac, by rw [HX.out]⟩, ⟨ub, ubc, by rw [HY.out]⟩, hidIn (by rw [HX.out, HY.out]; exact HT.out)⟩
            case measure => simp [intOf]; omega
          · have hqy : (y != g) = true := by simpa using hyg
            have HY : Hid (outL (OL.take (k + 1)) g = lb ++ [y]) := hidIn (by rw [hsy, if_neg (by simpa using hyg)])
            obtain ⟨g2, gc2, w6, hrun2, hT2⟩ := HT.out.swap.add y (by omega)
            have HRun2 := hidIn hrun2
            have HT2 := hidIn hT2.swap
            clear hsx hsy hxg hyg hl1 hl2 hrun2 hT2
            go_wp2_with (refine l_append rfl _ _ 23 rfl HRun2.out ?_)
            go_roundw
            case rel => exact ⟨k + 1, by omega, by go_num, ⟨ua, uac, by rw [HX.out]⟩, ⟨_, gc2, by rw [HY.out]; simp; rfl⟩, hidIn (by rw [HX.out, HY.out]; exact HT2.out)⟩
            case measure => simp [intOf]; omega
        · have hqx : (x != g) = true := by simpa using hxg
          have HX : Hid (outL (L.take (k + 1)) g = la ++ [x]) := hidIn (by rw [hsx, if_neg (by simpa using hxg)])
          obtain ⟨g2, gc2, w6, hrun2, hT2⟩ := HT.out.add x (by omega)
          have HRun2 := hidIn hrun2
          have c16 := (hT2.be.cell (p := ⟨bk5, o5 + k, none⟩) hbk5).trans ((HT.out.be.cell (p := ⟨bk5, o5 + k, none⟩) hbk5).symm.trans c1)
          by_cases hyg : y = g
          · have hqy : (y != g) = false := by simpa using hyg
            have HY : Hid (outL (OL.take (k + 1)) g = lb) := hidIn (by rw [hsy, if_pos (by simpa using hyg)])
            have HT2 := hidIn hT2
            clear hsx hsy hxg hyg hl1 hl2 hrun2 hT2 c1
            go_upto_region 18 with (refine l_append rfl _ _ 23 rfl HRun2.out ?_)
            clear c0
            go_wp2_with fail
            go_roundw
            case rel => exact ⟨k + 1, by omega, by go_num, ⟨_, gc2, by rw [HX.out]; simp; rfl⟩, ⟨ub, ubc, by rw [HY.out]⟩, hidIn (by rw [HX.out, HY.out]; exact HT2.out)⟩
            case measure => simp [intOf]; omega
          · have hqy : (y != g) = true := by simpa using hyg
            have HY : Hid (outL (OL.take (k + 1)) g = lb ++ [y]) := hidIn (by rw [hsy, if_neg (by simpa using hyg)])
            obtain ⟨g3, gc3, w7, hrun3, hT3⟩ := hT2.swap.add y (by omega)
            have HRun3 := hidIn hrun3
            have HT3 := hidIn hT3.swap
            clear hsx hsy hxg hyg hl1 hl2 hrun2 hT2 c1 hrun3 hT3
            go_upto_region 18 with (refine l_append rfl _ _ 23 rfl HRun2.out ?_)
            clear c0
            go_wp2_with (refine l_append rfl _ _ 23 rfl HRun3.out ?_)
            go_roundw
            case rel => exact ⟨k + 1, by omega, by go_num, ⟨_, gc2, by rw [HX.out]; simp; rfl⟩, ⟨_, gc3, by rw [HY.out]; simp; rfl⟩, hidIn (by rw [HX.out, HY.out]; exact HT3.out)⟩
            case measure => simp [intOf]; omega
      · have hki : ¬ ((k : Int) < (ln : Int)) := by omega
        have hka : L.take k = L := List.take_of_length_le (by have := Hln.out; omega)
        have hkb : OL.take k = OL := List.take_of_length_le (by have := HOl.out; omega)
        rw [hka, hkb] at HT ⊢
        clear hka hkb hlt hk HC5 HC6
        have hnl := nb_sub HNb.out (out_sub L g)
        have hro : rkL e (outL L g) = outL OL g ∧ rkE (outL L g) = 0 := by
          refine ⟨?_, (rk_yes e hnl).2⟩
          rw [(rk_yes e hnl).1, rank_out HND.out HU.out, HOr.out]
        have HR5 := hidIn (rank2_any he (row_sl HT.out.ra) (row_nil HT.out.ra))
        rw [hro.1, hro.2] at HR5
        have HCh := hidIn (fun h0 => ch_nb (e := e) hnl h0)
        have HBo := hidIn (fun (h : best (mix e) L ≠ g) => best_out HU.out HNe.out h)
        have HIn := hidIn (fun (h : best (mix e) L ≠ g) => (mem_out.2 ⟨(best_ok (mix e) HNe.out).1, h⟩ : best (mix e) L ∈ outL L g))
        rw [HBest.out] at HBo HIn
        have HRb := hidIn (row_sl HT.out.rb)
        have HRa := hidIn (row_sl HT.out.ra)
        have HBr := hidIn (HB4.out.trans (HT.out.be.mono HB4.out.size))
        clear hro hnl HT HB4 HNb HND HU HRk HOr HBest HNe
        generalize outL L g = LE at *
        generalize outL OL g = RE at *
        go_wp2_with fail
        refine HR5.out.mono ?_
        rintro x w5 ⟨⟨a7, c7, rfl, hr7⟩, hb7⟩
        have HB7 := hidIn (HBr.out.trans (hb7.mono HBr.out.size))
        have HS7 := hidIn (lsame_any (row_sl hr7) (HRb.out.keep hb7 (Nat.le_refl _)))
        have HA7 := hidIn (fun q => HRa.out.keep (w' := w5.drewN q) (below_drewN (hb7) q) (Nat.le_refl _))
        clear hb7 hr7 HRb HRa HR5 HBr
        have hee : (RE == RE) = true := by simp
        rw [hee] at HS7
        go_wp2_with fail
        refine HS7.out.mono ?_
        rintro x w6 ⟨rfl, q, hw6⟩
        rw [hw6]
        clear hw6 w6 HS7 hee
        have HB8 := hidIn (below_drewN HB7.out q)
        have HA8 := hidIn (HA7.out q)
        generalize w5.drewN q = w8 at *
        clear HB7 HA7
        by_cases hz : LE.length = 0
        · have hzl : ((LE.length : Int) == 0) = true := by rw [hz]; rfl
          have hbg : (b0 == g) = true := by
            rw [beq_iff_eq]
            by_cases hh : b0 = g
            · exact hh
            · have := HIn.out hh
              rw [List.length_eq_zero_iff.1 hz] at this
              simp at this
          clear hz
          generalize LE.length = le at *
          go_wp2_with fail
          go_ret
          exact ⟨rfl, HB8.out⟩
        · have hzl : ((LE.length : Int) == 0) = false := by rw [beq_eq_false_iff_ne]; omega
          have hne : LE ≠ [] := fun e => hz (by rw [e]; rfl)
          have HC8 := hidIn (choose_any he HA8.out)
          rw [(HCh.out hne).1, (HCh.out hne).2] at HC8
          obtain ⟨b1, hb1⟩ : ∃ b, best (mix e) LE = b := ⟨_, rfl⟩
          rw [hb1] at HC8 HBo
          clear hz hne hb1
          generalize LE.length = le at *
          go_wp2_with fail
          refine HC8.out.mono ?_
          rintro x w9 ⟨rfl, hb9⟩
          have HB9 := hidIn (HB8.out.trans (hb9.mono HB8.out.size))
          clear hb9 HC8
          by_cases hh : b0 = g
          · have hbg : (b0 == g) = true := by simpa using hh
            clear hh
            go_wp2_with fail
            go_ret
            exact ⟨rfl, HB9.out⟩
          · have hbg : (b0 == g) = false := by simpa using hh
            have hbb : (b0 == b1) = true := by simpa using (HBo.out hh).symm
            clear hh
            go_wp2_with fail
            go_ret
            exact ⟨rfl, HB9.out⟩
theorem pickKeeps_int {a b c : Int} (ha : (Lit.int .u32 a).wf = true) (hb : (Lit.int .u32 b).wf = true) (hc : (Lit.int .u8 c).wf = true) (w : World) : Calls Try.prog 5 #[.int .u32 a, .int .u32 b, .int .u8 c] w fun x w' => x = .returned (.bool true) ∧ Below w.heap.size w w' := by
  obtain ⟨e, rfl, he⟩ := nat_u32 ha
  obtain ⟨s, rfl, hs⟩ := nat_u32 hb
  obtain ⟨v, rfl, hv⟩ := nat_u8 hc
  exact pickKeeps_walk he hs hv w
end Go.Proofs.Ytcgndpenalcpeaa
