/- The law HeaderBack, walked. -/
import Derived.Test.YtmdpbohepdblcaaDoorH16
namespace Go.Proofs.YtmdpbohepdblcaaDoor
open Go.RowKit

theorem HasHd.putAll {w : World} {b : Nat} {W S E H O G I : Int} {N : Nat} (h : HasHd w b W S E H O G I N) (W' S' E' H' O' G' I' : Int) (N' : Nat) : HasHd (World.putHd w b W' S' E' H' O' G' I' (wd N' 0) (wd N' 1) (wd N' 2) (wd N' 3)) b W' S' E' H' O' G' I' N' := by
  obtain ⟨c0, c1, c2, c3, c4, c5, c6, c7, c8, c9, ca, f0, f1, f2, f3, f4, f5, f6, f7, f8, f9, fa, lt⟩ := h
  refine ⟨?_, ?_, ?_, ?_, ?_, ?_, ?_, ?_, ?_, ?_, ?_, ?_, ?_, ?_, ?_, ?_, ?_, ?_, ?_, ?_, ?_, ?_, ?_⟩
  all_goals simp [*, go_sem]
theorem eq_self (W S E H O G I : Int) (N : Nat) (hN : N < 2 ^ 256) (w : World) : (Op.equalIn 10000 27 (hd W S E H O G I N) (hd W S E H O G I N)).run Tryd.prog w = Result.ok true w := by
  rw [eq_hd _ _ _ _ _ _ _ _ _ _ _ _ _ _ _ _ hN hN]
  simp
theorem wpk (k : Nat) : 15 + (k : Int) = ((15 + k : Nat) : Int) := by omega

set_option maxRecDepth 100000 in
set_option maxHeartbeats 2000000 in
theorem back_walk (W S E H O G I : Int) (N : Nat) (hN : N < 2 ^ 256) (hE : 0 ≤ E ∧ E < 4294967296) (hI : 0 ≤ I ∧ I < 4294967296) (w : World) (ht : Wid w) :
    Calls Tryd.prog 5 #[hd W S E H O G I N] w fun e w' => e = .returned (.bool true) ∧ Below w.heap.size w w' := by
  obtain ⟨c, s, e, h, o, g, i, n, k, hg, hR⟩ := right_good W S E H O G I N hN hE hI
  have HR := hidIn hR
  have HG := hidIn hg
  have hk1 := hg.k_bd.1
  have hk2 := hg.k_bd.2
  have hq := eq_self (8 * (k : Int)) s e h o g i n hg.n256
  have hsz := encS_size c s e h o g i n k
  have HS := hidIn hsz
  have hlen : ((encS c s e h o g i n k).size : Int) = 15 + (k : Int) := by omega
  have hlen' : (((encS c s e h o g i n k).size : Int) != 15 + (k : Int)) = false := by rw [bne_eq_false_iff_eq]; exact hlen
  clear hR hg hsz hlen
  have HEnc := hidIn (enc_good HG.out)
  have HDec := hidIn (dec_good HG.out)
  have HMore := hidIn (dec_more HG.out)
  have HLess := hidIn (dec_less HG.out)
  generalize encS c s e h o g i n k = X at *
  have hn := hasHd_new w W S E H O G I N
  go_enter Tryd.func5, Tryd.ntmps5
  go_wp2_with fail
  refine (HR.out _).mono ?_
  rintro r w1 ⟨rfl, hb1⟩
  have hn1 := hn.keep hb1 hn.lt
  have hB1 : Below w.heap.size w w1 := ((Below.refl _ w).alloc (Nat.le_refl _) _).trans (hb1.mono (by simp))
  have h1 := And.intro (hn1.putAll (8 * (k : Int)) s e h o g i n) (below_putHd hB1 (Nat.le_refl _) (8 * (k : Int)) s e h o g i (wd n 0) (wd n 1) (wd n 2) (wd n 3))
  unfold World.putHd at h1
  have H1 := hidIn h1
  clear h1
  obtain ⟨c0, c1, c2, c3, c4, c5, c6, c7, c8, c9, ca, f0, f1, f2, f3, f4, f5, f6, f7, f8, f9, fa, lt⟩ := hn1
  clear hn hb1 hB1 HR
  go_upto_region 2 with fail
  generalize World.setCell _ _ _ = V at H1 ⊢
  clear c0 c1 c2 c3 c4 c5 c6 c7 c8 c9 ca f0 f1 f2 f3 f4 f5 f6 f7 f8 f9 fa lt
  have HV := hidIn H1.out.1
  have HB := hidIn H1.out.2
  clear H1
  obtain ⟨c0, c1, c2, c3, c4, c5, c6, c7, c8, c9, ca, _, _, _, _, _, _, _, _, _, _, _, lt⟩ := HV.out
  go_wp2_with fail
  refine (HEnc.out _ (ht.keep HB.out)).mono ?_
  rintro r w2 ⟨rfl, hb2⟩
  clear c0 c1 c2 c3 c4 c5 c6 c7 c8 c9 ca lt
  replace HV := hidIn (HV.out.keep hb2 HV.out.lt)
  replace HB := hidIn (HB.out.trans (hb2.mono HB.out.size))
  clear hb2 HEnc
  obtain ⟨c0, c1, c2, c3, c4, c5, c6, c7, c8, c9, ca, _, _, _, _, _, _, _, _, _, _, _, lt⟩ := HV.out
  go_wp2_with fail
  refine (size_k k HG.out.isW _ (ht.keep HB.out)).mono ?_
  rintro r w3 ⟨rfl, hw⟩
  replace hw := hw.symm
  subst hw
  go_wp2_with fail
  refine (HDec.out _ (ht.keep HB.out)).mono ?_
  rintro r w4 ⟨rfl, hb4⟩
  clear c0 c1 c2 c3 c4 c5 c6 c7 c8 c9 ca lt
  replace HV := hidIn (HV.out.keep hb4 HV.out.lt)
  replace HB := hidIn (HB.out.trans (hb4.mono HB.out.size))
  clear hb4 HDec
  have HU := hidIn (hasHd_new w4 (8 * (k : Int)) s e h o g i n)
  replace HV := hidIn (HV.out.keep ((Below.refl _ w4).alloc (Nat.le_refl _) (hob (8 * (k : Int)) s e h o g i n)) HV.out.lt)
  have HZ := hidIn HB.out.size
  replace HB := hidIn (HB.out.alloc HB.out.size (hob (8 * (k : Int)) s e h o g i n))
  go_upto_region 5 with fail
  generalize w4.alloc _ = V5 at HU HV HB ⊢
  generalize w4.heap.size = ub at *
  obtain ⟨c0, c1, c2, c3, c4, c5, c6, c7, c8, c9, ca, _, _, _, _, _, _, _, _, _, _, _, lt⟩ := HV.out
  obtain ⟨d0, d1, d2, d3, d4, d5, d6, d7, d8, d9, da, _, _, _, _, _, _, _, _, _, _, _, lt'⟩ := HU.out
  go_wp2_with fail
  refine (check_ok _ _ _ _ _ _ _ _ HG.out.n256 HG.out.ok _ (ht.keep HB.out)).mono ?_
  rintro r w5 ⟨rfl, hb5⟩
  clear c0 c1 c2 c3 c4 c5 c6 c7 c8 c9 ca lt
  clear d0 d1 d2 d3 d4 d5 d6 d7 d8 d9 da lt'
  replace HV := hidIn (HV.out.keep hb5 HV.out.lt)
  replace HU := hidIn (HU.out.keep hb5 HU.out.lt)
  replace HB := hidIn (HB.out.trans (hb5.mono HB.out.size))
  clear hb5
  obtain ⟨c0, c1, c2, c3, c4, c5, c6, c7, c8, c9, ca, _, _, _, _, _, _, _, _, _, _, _, lt⟩ := HV.out
  obtain ⟨d0, d1, d2, d3, d4, d5, d6, d7, d8, d9, da, _, _, _, _, _, _, _, _, _, _, _, lt'⟩ := HU.out
  have hX2 : X.size ≤ 100 := by have := HS.out; omega
  have hq1 : ¬ 9223372036854775807 < X.size + (⟨#[0]⟩ : ByteArray).size := by have h1 : (⟨#[0]⟩ : ByteArray).size = 1 := rfl; omega
  go_wp2_with fail
  refine (HMore.out _ (ht.keep HB.out)).mono ?_
  rintro r w6 ⟨rfl, hb6⟩
  replace HB := hidIn (HB.out.trans (hb6.mono HB.out.size))
  clear hb6 c0 c1 c2 c3 c4 c5 c6 c7 c8 c9 ca lt d0 d1 d2 d3 d4 d5 d6 d7 d8 d9 da lt' HMore
  have hX3 : 15 + (k : Int) ≤ (X.size : Int) := by have := HS.out; omega
  go_wp2_with fail
  refine (HLess.out _ (ht.keep HB.out)).mono ?_
  rintro r w7 ⟨rfl, hb7⟩
  replace HB := hidIn (HB.out.trans (hb7.mono HB.out.size))
  clear hb7 HLess
  go_wp2_with fail
  refine (works_any _ (ht.keep HB.out)).mono ?_
  rintro r w8 ⟨rfl, hb8⟩
  replace HB := hidIn (HB.out.trans (hb8.mono HB.out.size))
  go_wp2
  go_ret
  exact ⟨rfl, HB.out⟩
end Go.Proofs.YtmdpbohepdblcaaDoor
