/- The law HeaderKeeps, walked. -/
import Derived.Test.YtmdpbohepdblcaaDoorHB
namespace Go.Proofs.YtmdpbohepdblcaaDoor
open Go.RowKit

theorem HasBs.other {w : World} {c b N : Nat} (h : HasBs w b N) (hc : c ≠ b) (o : Nat) (v : Value) : HasBs (w.setCell ⟨c, o, none⟩ v) b N := by
  obtain ⟨c0, c1, c2, c3, f0, f1, f2, f3, lt⟩ := h
  refine ⟨?_, ?_, ?_, ?_, ?_, ?_, ?_, ?_, ?_⟩
  all_goals simp [*, go_sem]
theorem okH_hops {W S H O G : Int} {N : Nat} (h : OkH W S H O G N) (x : Int) (h0 : 0 ≤ x) (h1 : x ≤ 15) : OkH W S x O G N := ⟨h.1, h.2.1, h.2.2.1, ⟨h0, h1⟩, h.2.2.2.2⟩
/-- What stands behind the first part of the law: the header, and the one that goes on. -/
structure KpInv (w V : World) (k s e o g i n : Nat) (h x : Int) (lb : Nat) : Prop where
  v : HasHd V w.heap.size (8 * (k : Int)) s e h o g i n
  l : HasHd V lb (8 * (k : Int)) s e x o g i n
  b : Below w.heap.size w V
  ne : w.heap.size < lb
theorem KpInv.grow {w V V' : World} {k s e o g i n lb : Nat} {h x : Int} (hV : KpInv w V k s e o g i n h x lb) (hb : Below V.heap.size V V') : KpInv w V' k s e o g i n h x lb :=
  ⟨hV.v.keep hb hV.v.lt, hV.l.keep hb hV.l.lt, hV.b.trans (hb.mono hV.b.size), hV.ne⟩

set_option maxRecDepth 100000 in
set_option maxHeartbeats 4000000 in
theorem keeps_ok (W S E H O G I : Int) (N M : Nat) (hM : M < 2 ^ 256) {c s e h o g i n k : Nat} (hg : Good c s e h o g i n k) (hR : ∀ w, Calls Tryd.prog 24 #[hd W S E H O G I N] w fun r w' => r = .returned (hd (8 * (k : Int)) s e h o g i n) ∧ Below w.heap.size w w')
    (hl : (bl M : Int) ≤ 8 * (k : Int)) (w : World) (ht : Wid w) :
    Calls Tryd.prog 7 #[hd W S E H O G I N, bs M] w fun e w' => e = .returned (.bool true) ∧ Below w.heap.size w w' := by
  have HR := hidIn hR
  have HG := hidIn hg
  have hk1 := hg.k_bd.1
  have hk2 := hg.k_bd.2
  have hh := hg.hH
  have HQ := hidIn (fun x : Int => eq_self (8 * (k : Int)) s e x o g i n hg.n256)
  have HW := hidIn (with_ok (8 * (k : Int)) s e h o g i n M hg.n256 hM hg.ok hl)
  have HBl := hidIn (below_yes M hM (8 * (k : Int)) (by omega) (by omega) hl)
  have HHop := hidIn (fun (x : Int) (h0 : 1 ≤ x) (h1 : x ≤ 15) => hop_ok (8 * (k : Int)) s e x o g i n hg.n256 (okH_hops hg.ok x (by omega) h1) h0)
  have HNone := hidIn (hop_none (8 * (k : Int)) s e o g i n hg.n256 (okH_hops hg.ok 0 (by decide) (by decide)))
  clear hR hg hl
  unfold bs
  go_enter Tryd.func7, Tryd.ntmps7
  go_wp2_with fail
  refine (HR.out _).mono ?_
  rintro r w1 ⟨rfl, hb1⟩
  have hn1 := ((hasHd_new w W S E H O G I N).keep (w' := (w.alloc (hob W S E H O G I N)).alloc (.cells #[.int .u64 (wd M 0), .int .u64 (wd M 1), .int .u64 (wd M 2), .int .u64 (wd M 3)] 25)) (B := w.heap.size + 1) (by go_grown) (Nat.lt_succ_self _)).keep hb1 (by simp; omega)
  have hm1 := (hasBs_new (w.alloc (hob W S E H O G I N)) M).keep hb1 (by simp)
  simp only [World.size_alloc] at hm1
  have hB1 : Below w.heap.size w w1 := (((Below.refl _ w).alloc (Nat.le_refl _) _).alloc (by simp) _).trans (hb1.mono (by simp; omega))
  have hz : w.heap.size ≠ w.heap.size + 1 := by omega
  have h1 := And.intro (hn1.putAll (8 * (k : Int)) s e h o g i n) (And.intro (((((((((((hm1.other hz 0 (.int .i64 (8 * (k : Int)))).other hz 1 (.int .i64 (s : Int))).other hz 2 (.int .u32 (e : Int))).other hz 3 (.int .i64 (h : Int))).other hz 4 (.int .i64 (o : Int))).other hz 5 (.int .i64 (g : Int))).other hz 6 (.int .u32 (i : Int))).other hz 7 (.int .u64 (wd n 0))).other hz 8 (.int .u64 (wd n 1))).other hz 9 (.int .u64 (wd n 2))).other hz 10 (.int .u64 (wd n 3))) (below_putHd hB1 (Nat.le_refl _) (8 * (k : Int)) s e h o g i (wd n 0) (wd n 1) (wd n 2) (wd n 3)))
  unfold World.putHd at h1
  have H1 := hidIn h1
  clear h1 hm1 hz
  obtain ⟨c0, c1, c2, c3, c4, c5, c6, c7, c8, c9, ca, f0, f1, f2, f3, f4, f5, f6, f7, f8, f9, fa, ltc⟩ := hn1
  clear hb1 hB1 HR
  go_upto_region 2 with fail
  generalize World.setCell _ _ _ = V at H1 ⊢
  clear c0 c1 c2 c3 c4 c5 c6 c7 c8 c9 ca f0 f1 f2 f3 f4 f5 f6 f7 f8 f9 fa ltc
  have HV := hidIn H1.out.1
  have HM := hidIn H1.out.2.1
  have HB := hidIn H1.out.2.2
  clear H1
  obtain ⟨c0, c1, c2, c3, c4, c5, c6, c7, c8, c9, ca, _, _, _, _, _, _, _, _, _, _, _, ltc⟩ := HV.out
  obtain ⟨m0, m1, m2, m3, _, _, _, _, ltm⟩ := HM.out
  go_wp2_with fail
  refine (HW.out _ (ht.keep HB.out)).mono ?_
  rintro r w2 ⟨rfl, hb2⟩
  clear c0 c1 c2 c3 c4 c5 c6 c7 c8 c9 ca ltc
  clear m0 m1 m2 m3 ltm HW
  replace HV := hidIn (HV.out.keep hb2 HV.out.lt)
  replace HM := hidIn (HM.out.keep hb2 HM.out.lt)
  replace HB := hidIn (HB.out.trans (hb2.mono HB.out.size))
  clear hb2
  have HZ2 := hidIn HV.out.lt
  have HX := hidIn (hasHd_new w2 (8 * (k : Int)) s e h o g i M)
  replace HV := hidIn (HV.out.keep ((Below.refl _ w2).alloc (Nat.le_refl _) (hob (8 * (k : Int)) s e h o g i M)) HV.out.lt)
  replace HM := hidIn (HM.out.keep ((Below.refl _ w2).alloc (Nat.le_refl _) (hob (8 * (k : Int)) s e h o g i M)) HM.out.lt)
  have HZ := hidIn HB.out.size
  replace HB := hidIn (HB.out.alloc HB.out.size (hob (8 * (k : Int)) s e h o g i M))
  go_upto_region 3 with fail
  generalize w2.alloc _ = V2 at HX HV HM HB ⊢
  have HZ3 := HZ2.out
  clear HZ HZ2
  generalize w2.heap.size = xb at *
  obtain ⟨c0, c1, c2, c3, c4, c5, c6, c7, c8, c9, ca, _, _, _, _, _, _, _, _, _, _, _, ltc⟩ := HV.out
  obtain ⟨m0, m1, m2, m3, _, _, _, _, ltm⟩ := HM.out
  go_wp2_with fail
  refine (HBl.out _).mono ?_
  rintro r w3 ⟨rfl, hb3⟩
  clear c0 c1 c2 c3 c4 c5 c6 c7 c8 c9 ca ltc
  clear m0 m1 m2 m3 ltm HBl
  replace HV := hidIn (HV.out.keep hb3 HV.out.lt)
  replace HX := hidIn (HX.out.keep hb3 HX.out.lt)
  replace HB := hidIn (HB.out.trans (hb3.mono HB.out.size))
  clear hb3 HM
  obtain ⟨c0, c1, c2, c3, c4, c5, c6, c7, c8, c9, ca, _, _, _, _, _, _, _, _, _, _, _, ltc⟩ := HV.out
  obtain ⟨d0, d1, d2, d3, d4, d5, d6, d7, d8, d9, da, g0, g1, g2, g3, g4, g5, g6, g7, g8, g9, ga, ltd⟩ := HX.out
  have hx1 := And.intro (HX.out.setN n) (And.intro ((((HV.out.other (Nat.ne_of_gt HZ3) 7 (.int .u64 (wd n 0))).other (Nat.ne_of_gt HZ3) 8 (.int .u64 (wd n 1))).other (Nat.ne_of_gt HZ3) 9 (.int .u64 (wd n 2))).other (Nat.ne_of_gt HZ3) 10 (.int .u64 (wd n 3))) ((((HB.out.setCell (p := ⟨xb, 7, none⟩) (Nat.le_of_lt HZ3) (.int .u64 (wd n 0))).setCell (p := ⟨xb, 8, none⟩) (Nat.le_of_lt HZ3) (.int .u64 (wd n 1))).setCell (p := ⟨xb, 9, none⟩) (Nat.le_of_lt HZ3) (.int .u64 (wd n 2))).setCell (p := ⟨xb, 10, none⟩) (Nat.le_of_lt HZ3) (.int .u64 (wd n 3))))
  have HX1 := hidIn hx1
  clear hx1 HX HV HB
  go_upto_region 7 with fail
  clear c0 c1 c2 c3 c4 c5 c6 c7 c8 c9 ca ltc
  clear d0 d1 d2 d3 d4 d5 d6 d7 d8 d9 da ltd
  clear g0 g1 g2 g3 g4 g5 g6 g7 g8 g9 ga
  generalize World.setCell _ _ _ = w3 at HX1 ⊢
  have HX := hidIn HX1.out.1
  have HV := hidIn HX1.out.2.1
  have HB := hidIn HX1.out.2.2
  clear HX1
  obtain ⟨c0, c1, c2, c3, c4, c5, c6, c7, c8, c9, ca, _, _, _, _, _, _, _, _, _, _, _, ltc⟩ := HV.out
  obtain ⟨d0, d1, d2, d3, d4, d5, d6, d7, d8, d9, da, _, _, _, _, _, _, _, _, _, _, _, ltd⟩ := HX.out
  have hq := HQ.out h
  go_upto_region 9 with fail
  clear c0 c1 c2 c3 c4 c5 c6 c7 c8 c9 ca ltc
  clear d0 d1 d2 d3 d4 d5 d6 d7 d8 d9 da ltd
  clear hq HX
  have HV3 := HV
  have HL := hidIn (hasHd_new w3 (8 * (k : Int)) s e h o g i n)
  have HZ := hidIn HV.out.lt
  replace HV := hidIn (HV.out.keep ((Below.refl _ w3).alloc (Nat.le_refl _) (hob (8 * (k : Int)) s e h o g i n)) HV.out.lt)
  replace HB := hidIn (HB.out.alloc HB.out.size (hob (8 * (k : Int)) s e h o g i n))
  obtain ⟨c0, c1, c2, c3, c4, c5, c6, c7, c8, c9, ca, _, _, _, _, _, _, _, _, _, _, _, ltc⟩ := HV3.out
  go_upto_region 10 with fail
  clear c0 c1 c2 c3 c4 c5 c6 c7 c8 c9 ca ltc
  generalize w3.alloc _ = V4 at HL HV HB ⊢
  have HI := hidIn (KpInv.mk HV.out HL.out HB.out HZ.out)
  clear HV HL HB HZ HV3
  generalize w3.heap.size = lb at *
  go_wp2_with fail
  clear HZ3
  go_loopw [8] (fun ii wr => ∃ (j : Nat) (x : Int), 0 ≤ x ∧ x + (j : Int) = (h : Int) ∧ ii = .int .i64 (j : Int) ∧ KpInv w wr k s e o g i n h x lb) (fun ii _ => h - (intOf ii).toNat)
  case atStart => exact ⟨0, h, by omega, by omega, rfl, HI.out⟩
  case round =>
    clear HI
    obtain ⟨j, x, hx0, hxj, rfl, hI⟩ := hrel
    have HI := hidIn hI
    have HXJ := hidIn hxj
    clear hI hxj
    by_cases hlt : j < h
    · have hx1 : 1 ≤ x := by have := HXJ.out; omega
      have hx2 : x ≤ 15 := by have := HXJ.out; omega
      have c3 := HI.out.v.c3
      obtain ⟨d0, d1, d2, d3, d4, d5, d6, d7, d8, d9, da, _, _, _, _, _, _, _, _, _, _, _, ltd⟩ := HI.out.l
      go_wp2_with fail
      refine (HHop.out x hx1 hx2 _ (ht.keep HI.out.b)).mono ?_
      rintro r w5 ⟨rfl, hb5⟩
      clear d0 d1 d2 d3 d4 d5 d6 d7 d8 d9 da ltd
      clear c3
      replace HI := hidIn (HI.out.grow hb5)
      clear hb5
      have HX := hidIn (hasHd_new w5 (8 * (k : Int)) s e (x - 1) o g i n)
      have HZ := HI.out.l.lt
      have HZ2 := hidIn (Nat.lt_trans HI.out.ne HZ)
      replace HI := hidIn (HI.out.grow ((Below.refl _ w5).alloc (Nat.le_refl _) (hob (8 * (k : Int)) s e (x - 1) o g i n)))
      go_upto_region 14 with fail
      generalize w5.alloc _ = V5 at HI HX ⊢
      have HZ3 := HZ2.out
      clear HZ2
      generalize w5.heap.size = nb at *
      have HIX := hidIn (And.intro (HX.out.setH x) (KpInv.mk (HI.out.v.other (Nat.ne_of_gt HZ3) 3 (.int .i64 x)) (HI.out.l.other (Nat.ne_of_gt HZ) 3 (.int .i64 x)) (HI.out.b.setCell (p := ⟨nb, 3, none⟩) (Nat.le_of_lt HZ3) (.int .i64 x)) HI.out.ne))
      have d3 := HX.out.c3
      have g3 := HX.out.f3
      have c3 := HI.out.l.c3
      clear HX HI
      go_upto_region 17 with fail
      clear d3 g3 c3
      generalize World.setCell _ _ _ = V6 at HIX ⊢
      obtain ⟨d0, d1, d2, d3, d4, d5, d6, d7, d8, d9, da, _, _, _, _, _, _, _, _, _, _, _, ltd⟩ := HIX.out.1
      obtain ⟨c0, c1, c2, c3, c4, c5, c6, c7, c8, c9, ca, _, _, _, _, _, _, _, _, _, _, _, ltc⟩ := HIX.out.2.l
      have hq := HQ.out x
      go_upto_region 19 with fail
      clear d0 d1 d2 d3 d4 d5 d6 d7 d8 d9 da ltd
      clear c0 c1 c2 c3 c4 c5 c6 c7 c8 c9 ca ltc
      clear hq HZ HZ3
      have c3 := HIX.out.2.l.c3
      have f3 := HIX.out.2.l.f3
      go_wp2
      go_roundw
      case rel =>
        have hI := HIX.out.2
        have hxj := HXJ.out
        exact ⟨j + 1, x - 1, by omega, by omega, by go_num, hI.v.other (Nat.ne_of_gt hI.ne) _ _, hI.l.setH (x - 1), hI.b.setCell (p := ⟨lb, 3, none⟩) (Nat.le_of_lt hI.ne) _, hI.ne⟩
      case measure => simp [intOf]; omega
    · obtain rfl : x = 0 := by have := HXJ.out; omega
      have hj : ¬ ((j : Int) < (h : Int)) := by omega
      have c3 := HI.out.v.c3
      obtain ⟨d0, d1, d2, d3, d4, d5, d6, d7, d8, d9, da, _, _, _, _, _, _, _, _, _, _, _, ltd⟩ := HI.out.l
      go_wp2_with fail
      refine (HNone.out _ (ht.keep HI.out.b)).mono ?_
      rintro r w5 ⟨rfl, hb5⟩
      clear d0 d1 d2 d3 d4 d5 d6 d7 d8 d9 da ltd
      clear c3
      replace HI := hidIn (HI.out.grow hb5)
      clear hb5
      go_wp2_with fail
      refine (works_any _ (ht.keep HI.out.b)).mono ?_
      rintro r w6 ⟨rfl, hb6⟩
      go_wp2
      go_ret
      exact ⟨rfl, HI.out.b.trans (hb6.mono HI.out.b.size)⟩
set_option maxRecDepth 100000 in
set_option maxHeartbeats 4000000 in
theorem keeps_long (W S E H O G I : Int) (N M : Nat) (hM : M < 2 ^ 256) {c s e h o g i n k : Nat} (hg : Good c s e h o g i n k) (hR : ∀ w, Calls Tryd.prog 24 #[hd W S E H O G I N] w fun r w' => r = .returned (hd (8 * (k : Int)) s e h o g i n) ∧ Below w.heap.size w w')
    (hl : 8 * (k : Int) < (bl M : Int)) (w : World) (ht : Wid w) :
    Calls Tryd.prog 7 #[hd W S E H O G I N, bs M] w fun e w' => e = .returned (.bool true) ∧ Below w.heap.size w w' := by
  have HR := hidIn hR
  have HG := hidIn hg
  have hk1 := hg.k_bd.1
  have hk2 := hg.k_bd.2
  have hh := hg.hH
  have HQ := hidIn (fun x : Int => eq_self (8 * (k : Int)) s e x o g i n hg.n256)
  have HW := hidIn (with_long (8 * (k : Int)) s e h o g i n M hg.n256 hM hg.ok hl)
  have HBl := hidIn (below_no M hM (8 * (k : Int)) (by omega))
  have HHop := hidIn (fun (x : Int) (h0 : 1 ≤ x) (h1 : x ≤ 15) => hop_ok (8 * (k : Int)) s e x o g i n hg.n256 (okH_hops hg.ok x (by omega) h1) h0)
  have HNone := hidIn (hop_none (8 * (k : Int)) s e o g i n hg.n256 (okH_hops hg.ok 0 (by decide) (by decide)))
  clear hR hg hl
  unfold bs
  go_enter Tryd.func7, Tryd.ntmps7
  go_wp2_with fail
  refine (HR.out _).mono ?_
  rintro r w1 ⟨rfl, hb1⟩
  have hn1 := ((hasHd_new w W S E H O G I N).keep (w' := (w.alloc (hob W S E H O G I N)).alloc (.cells #[.int .u64 (wd M 0), .int .u64 (wd M 1), .int .u64 (wd M 2), .int .u64 (wd M 3)] 25)) (B := w.heap.size + 1) (by go_grown) (Nat.lt_succ_self _)).keep hb1 (by simp; omega)
  have hm1 := (hasBs_new (w.alloc (hob W S E H O G I N)) M).keep hb1 (by simp)
  simp only [World.size_alloc] at hm1
  have hB1 : Below w.heap.size w w1 := (((Below.refl _ w).alloc (Nat.le_refl _) _).alloc (by simp) _).trans (hb1.mono (by simp; omega))
  have hz : w.heap.size ≠ w.heap.size + 1 := by omega
  have h1 := And.intro (hn1.putAll (8 * (k : Int)) s e h o g i n) (And.intro (((((((((((hm1.other hz 0 (.int .i64 (8 * (k : Int)))).other hz 1 (.int .i64 (s : Int))).other hz 2 (.int .u32 (e : Int))).other hz 3 (.int .i64 (h : Int))).other hz 4 (.int .i64 (o : Int))).other hz 5 (.int .i64 (g : Int))).other hz 6 (.int .u32 (i : Int))).other hz 7 (.int .u64 (wd n 0))).other hz 8 (.int .u64 (wd n 1))).other hz 9 (.int .u64 (wd n 2))).other hz 10 (.int .u64 (wd n 3))) (below_putHd hB1 (Nat.le_refl _) (8 * (k : Int)) s e h o g i (wd n 0) (wd n 1) (wd n 2) (wd n 3)))
  unfold World.putHd at h1
  have H1 := hidIn h1
  clear h1 hm1 hz
  obtain ⟨c0, c1, c2, c3, c4, c5, c6, c7, c8, c9, ca, f0, f1, f2, f3, f4, f5, f6, f7, f8, f9, fa, ltc⟩ := hn1
  clear hb1 hB1 HR
  go_upto_region 2 with fail
  generalize World.setCell _ _ _ = V at H1 ⊢
  clear c0 c1 c2 c3 c4 c5 c6 c7 c8 c9 ca f0 f1 f2 f3 f4 f5 f6 f7 f8 f9 fa ltc
  have HV := hidIn H1.out.1
  have HM := hidIn H1.out.2.1
  have HB := hidIn H1.out.2.2
  clear H1
  obtain ⟨c0, c1, c2, c3, c4, c5, c6, c7, c8, c9, ca, _, _, _, _, _, _, _, _, _, _, _, ltc⟩ := HV.out
  obtain ⟨m0, m1, m2, m3, _, _, _, _, ltm⟩ := HM.out
  go_wp2_with fail
  refine (HW.out _ (ht.keep HB.out)).mono ?_
  rintro r w2 ⟨rfl, hb2⟩
  clear c0 c1 c2 c3 c4 c5 c6 c7 c8 c9 ca ltc
  clear m0 m1 m2 m3 ltm HW
  replace HV := hidIn (HV.out.keep hb2 HV.out.lt)
  replace HM := hidIn (HM.out.keep hb2 HM.out.lt)
  replace HB := hidIn (HB.out.trans (hb2.mono HB.out.size))
  clear hb2
  have HZ2 := hidIn HV.out.lt
  have HX := hidIn (hasHd_zero w2)
  replace HV := hidIn (HV.out.keep ((Below.refl _ w2).alloc (Nat.le_refl _) (hob0)) HV.out.lt)
  replace HM := hidIn (HM.out.keep ((Below.refl _ w2).alloc (Nat.le_refl _) (hob0)) HM.out.lt)
  have HZ := hidIn HB.out.size
  replace HB := hidIn (HB.out.alloc HB.out.size (hob0))
  go_upto_region 3 with fail
  generalize w2.alloc _ = V2 at HX HV HM HB ⊢
  have HZ3 := HZ2.out
  clear HZ HZ2
  generalize w2.heap.size = xb at *
  obtain ⟨c0, c1, c2, c3, c4, c5, c6, c7, c8, c9, ca, _, _, _, _, _, _, _, _, _, _, _, ltc⟩ := HV.out
  obtain ⟨m0, m1, m2, m3, _, _, _, _, ltm⟩ := HM.out
  go_wp2_with fail
  refine (HBl.out _).mono ?_
  rintro r w3 ⟨rfl, hb3⟩
  clear c0 c1 c2 c3 c4 c5 c6 c7 c8 c9 ca ltc
  clear m0 m1 m2 m3 ltm HBl
  replace HV := hidIn (HV.out.keep hb3 HV.out.lt)
  replace HX := hidIn (HX.out.keep hb3 HX.out.lt)
  replace HB := hidIn (HB.out.trans (hb3.mono HB.out.size))
  clear hb3 HM
  clear HX
  have HV3 := HV
  have HL := hidIn (hasHd_new w3 (8 * (k : Int)) s e h o g i n)
  have HZ := hidIn HV.out.lt
  replace HV := hidIn (HV.out.keep ((Below.refl _ w3).alloc (Nat.le_refl _) (hob (8 * (k : Int)) s e h o g i n)) HV.out.lt)
  replace HB := hidIn (HB.out.alloc HB.out.size (hob (8 * (k : Int)) s e h o g i n))
  obtain ⟨c0, c1, c2, c3, c4, c5, c6, c7, c8, c9, ca, _, _, _, _, _, _, _, _, _, _, _, ltc⟩ := HV3.out
  go_upto_region 10 with fail
  clear c0 c1 c2 c3 c4 c5 c6 c7 c8 c9 ca ltc
  generalize w3.alloc _ = V4 at HL HV HB ⊢
  have HI := hidIn (KpInv.mk HV.out HL.out HB.out HZ.out)
  clear HV HL HB HZ HV3
  generalize w3.heap.size = lb at *
  go_wp2_with fail
  clear HZ3
  go_loopw [8] (fun ii wr => ∃ (j : Nat) (x : Int), 0 ≤ x ∧ x + (j : Int) = (h : Int) ∧ ii = .int .i64 (j : Int) ∧ KpInv w wr k s e o g i n h x lb) (fun ii _ => h - (intOf ii).toNat)
  case atStart => exact ⟨0, h, by omega, by omega, rfl, HI.out⟩
  case round =>
    clear HI
    obtain ⟨j, x, hx0, hxj, rfl, hI⟩ := hrel
    have HI := hidIn hI
    have HXJ := hidIn hxj
    clear hI hxj
    by_cases hlt : j < h
    · have hx1 : 1 ≤ x := by have := HXJ.out; omega
      have hx2 : x ≤ 15 := by have := HXJ.out; omega
      have c3 := HI.out.v.c3
      obtain ⟨d0, d1, d2, d3, d4, d5, d6, d7, d8, d9, da, _, _, _, _, _, _, _, _, _, _, _, ltd⟩ := HI.out.l
      go_wp2_with fail
      refine (HHop.out x hx1 hx2 _ (ht.keep HI.out.b)).mono ?_
      rintro r w5 ⟨rfl, hb5⟩
      clear d0 d1 d2 d3 d4 d5 d6 d7 d8 d9 da ltd
      clear c3
      replace HI := hidIn (HI.out.grow hb5)
      clear hb5
      have HX := hidIn (hasHd_new w5 (8 * (k : Int)) s e (x - 1) o g i n)
      have HZ := HI.out.l.lt
      have HZ2 := hidIn (Nat.lt_trans HI.out.ne HZ)
      replace HI := hidIn (HI.out.grow ((Below.refl _ w5).alloc (Nat.le_refl _) (hob (8 * (k : Int)) s e (x - 1) o g i n)))
      go_upto_region 14 with fail
      generalize w5.alloc _ = V5 at HI HX ⊢
      have HZ3 := HZ2.out
      clear HZ2
      generalize w5.heap.size = nb at *
      have HIX := hidIn (And.intro (HX.out.setH x) (KpInv.mk (HI.out.v.other (Nat.ne_of_gt HZ3) 3 (.int .i64 x)) (HI.out.l.other (Nat.ne_of_gt HZ) 3 (.int .i64 x)) (HI.out.b.setCell (p := ⟨nb, 3, none⟩) (Nat.le_of_lt HZ3) (.int .i64 x)) HI.out.ne))
      have d3 := HX.out.c3
      have g3 := HX.out.f3
      have c3 := HI.out.l.c3
      clear HX HI
      go_upto_region 17 with fail
      clear d3 g3 c3
      generalize World.setCell _ _ _ = V6 at HIX ⊢
      obtain ⟨d0, d1, d2, d3, d4, d5, d6, d7, d8, d9, da, _, _, _, _, _, _, _, _, _, _, _, ltd⟩ := HIX.out.1
      obtain ⟨c0, c1, c2, c3, c4, c5, c6, c7, c8, c9, ca, _, _, _, _, _, _, _, _, _, _, _, ltc⟩ := HIX.out.2.l
      have hq := HQ.out x
      go_upto_region 19 with fail
      clear d0 d1 d2 d3 d4 d5 d6 d7 d8 d9 da ltd
      clear c0 c1 c2 c3 c4 c5 c6 c7 c8 c9 ca ltc
      clear hq HZ HZ3
      have c3 := HIX.out.2.l.c3
      have f3 := HIX.out.2.l.f3
      go_wp2
      go_roundw
      case rel =>
        have hI := HIX.out.2
        have hxj := HXJ.out
        exact ⟨j + 1, x - 1, by omega, by omega, by go_num, hI.v.other (Nat.ne_of_gt hI.ne) _ _, hI.l.setH (x - 1), hI.b.setCell (p := ⟨lb, 3, none⟩) (Nat.le_of_lt hI.ne) _, hI.ne⟩
      case measure => simp [intOf]; omega
    · obtain rfl : x = 0 := by have := HXJ.out; omega
      have hj : ¬ ((j : Int) < (h : Int)) := by omega
      have c3 := HI.out.v.c3
      obtain ⟨d0, d1, d2, d3, d4, d5, d6, d7, d8, d9, da, _, _, _, _, _, _, _, _, _, _, _, ltd⟩ := HI.out.l
      go_wp2_with fail
      refine (HNone.out _ (ht.keep HI.out.b)).mono ?_
      rintro r w5 ⟨rfl, hb5⟩
      clear d0 d1 d2 d3 d4 d5 d6 d7 d8 d9 da ltd
      clear c3
      replace HI := hidIn (HI.out.grow hb5)
      clear hb5
      go_wp2_with fail
      refine (works_any _ (ht.keep HI.out.b)).mono ?_
      rintro r w6 ⟨rfl, hb6⟩
      go_wp2
      go_ret
      exact ⟨rfl, HI.out.b.trans (hb6.mono HI.out.b.size)⟩
theorem keeps_walk (W S E H O G I : Int) (N M : Nat) (hN : N < 2 ^ 256) (hM : M < 2 ^ 256) (hE : 0 ≤ E ∧ E < 4294967296) (hI : 0 ≤ I ∧ I < 4294967296) (w : World) (ht : Wid w) :
    Calls Tryd.prog 7 #[hd W S E H O G I N, bs M] w fun e w' => e = .returned (.bool true) ∧ Below w.heap.size w w' := by
  obtain ⟨c, s, e, h, o, g, i, n, k, hg, hR⟩ := right_good W S E H O G I N hN hE hI
  by_cases hl : (bl M : Int) ≤ 8 * (k : Int)
  · exact keeps_ok W S E H O G I N M hM hg hR hl w ht
  · exact keeps_long W S E H O G I N M hM hg hR (by omega) w ht
end Go.Proofs.YtmdpbohepdblcaaDoor
