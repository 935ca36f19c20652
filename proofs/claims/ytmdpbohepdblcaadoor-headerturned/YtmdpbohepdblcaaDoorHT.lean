/- The law HeaderTurned, walked. -/
import Derived.Test.YtmdpbohepdblcaaDoorH17
import Derived.Test.YtmdpbohepdblcaaDoorHB
import Derived.Test.YtmdpbohepdblcaaDoorK12
namespace Go.Proofs.YtmdpbohepdblcaaDoor
open Go.RowKit

theorem xor8 (x : UInt8) (v : Nat) (hv : v < 256) : bits .xor .u8 (x.toNat : Int) (v : Int) = ((x ^^^ UInt8.ofNat v).toNat : Nat) := by
  rw [u8_xor_nat _ _ x.toNat_lt hv, UInt8.toNat_xor, UInt8.toNat_ofNat', Nat.mod_eq_of_lt hv]
theorem xor8_ne (x : UInt8) (v : Nat) (hv : v < 256) (h0 : v ≠ 0) : x ^^^ UInt8.ofNat v ≠ x := by
  intro e
  have h := congrArg UInt8.toNat e
  rw [UInt8.toNat_xor, UInt8.toNat_ofNat', Nat.mod_eq_of_lt hv] at h
  have h2 : x.toNat ^^^ (x.toNat ^^^ v) = x.toNat ^^^ x.toNat := by rw [h]
  rw [← Nat.xor_assoc, Nat.xor_self, Nat.zero_xor] at h2
  exact h0 h2
/-- The bytes X with the byte at p turned by v. -/
def turnS (X : ByteArray) (p v : Nat) : List UInt8 := X.data.toList.set p (X.data.toList.getD p 0 ^^^ UInt8.ofNat v)
theorem turnS_ne (X : ByteArray) (p v : Nat) (hp : p < X.size) (hv : v < 256) (h0 : v ≠ 0) : (⟨(turnS X p v).toArray⟩ : ByteArray) ≠ X := by
  intro e
  have h : turnS X p v = X.data.toList := by
    have := congrArg (fun z : ByteArray => z.data.toList) e
    simpa using this
  have hl : p < X.data.toList.length := by simpa using hp
  have h2 := congrArg (fun l => l.getD p 0) h
  simp only [turnS, List.getD_eq_getElem?_getD, List.getElem?_set, hl, if_true, Option.getD_some] at h2
  exact xor8_ne _ v hv h0 h2
theorem turnS_size (X : ByteArray) (p v : Nat) : (turnS X p v).length = X.size := by unfold turnS; simp
theorem good_inj {c S E H O G I N k c' S' E' H' O' G' I' N' k' : Nat} (h : Good c S E H O G I N k) (h' : Good c' S' E' H' O' G' I' N' k') (hne : encS c S E H O G I N k ≠ encS c' S' E' H' O' G' I' N' k') (w : World) :
    (Op.equalIn 10000 27 (hd (8 * (k : Int)) S E H O G I N) (hd (8 * (k' : Int)) S' E' H' O' G' I' N')).run Tryd.prog w = Result.ok false w := by
  rw [eq_hd _ _ _ _ _ _ _ _ _ _ _ _ _ _ _ _ h.n256 h'.n256]
  congr 1
  rw [Bool.eq_false_iff]
  intro e
  simp only [Bool.and_eq_true, beq_iff_eq] at e
  obtain ⟨e0, e1, e2, e3, e4, e5, e6, e7⟩ := e
  apply hne
  obtain rfl : k = k' := by omega
  obtain rfl : S = S' := by omega
  obtain rfl : E = E' := by omega
  obtain rfl : H = H' := by omega
  obtain rfl : O = O' := by omega
  obtain rfl : G = G' := by omega
  obtain rfl : I = I' := by omega
  subst e7
  have hcc : c = c' := by
    have h1 := h.cOf
    have h2 := h'.cOf
    omega
  rw [hcc]
theorem eq_zz (w : World) : (Op.equalIn 10000 27 hd0 hd0).run Tryd.prog w = Result.ok true w := by
  rw [← hd0_eq]
  exact eq_self _ _ _ _ _ _ _ _ (by decide) w

set_option maxRecDepth 100000 in
set_option maxHeartbeats 2000000 in
theorem turned_zero (W S E H O G I : Int) (N : Nat) (a : Int) {c s e h o g i n k : Nat} (hg : Good c s e h o g i n k) (hR : ∀ w, Calls Tryd.prog 24 #[hd W S E H O G I N] w fun r w' => r = .returned (hd (8 * (k : Int)) s e h o g i n) ∧ Below w.heap.size w w')
    (w : World) (ht : Wid w) :
    Calls Tryd.prog 6 #[hd W S E H O G I N, .int .i64 a, .int .u8 0] w fun e w' => e = .returned (.bool true) ∧ Below w.heap.size w w' := by
  have HR := hidIn hR
  have HEnc := hidIn (enc_good hg)
  clear hR hg
  generalize encS c s e h o g i n k = X at *
  have hn := hasHd_new w W S E H O G I N
  go_enter Tryd.func6, Tryd.ntmps6
  go_wp2_with fail
  refine (HR.out _).mono ?_
  rintro r w1 ⟨rfl, hb1⟩
  have hn1 := hn.keep hb1 hn.lt
  have hB1 : Below w.heap.size w w1 := ((Below.refl _ w).alloc (Nat.le_refl _) _).trans (hb1.mono (by simp))
  have h1 := And.intro (hn1.putAll (8 * (k : Int)) s e h o g i n) (below_putHd hB1 (Nat.le_refl _) (8 * (k : Int)) s e h o g i (wd n 0) (wd n 1) (wd n 2) (wd n 3))
  unfold World.putHd at h1
  have H1 := hidIn h1
  clear h1
  obtain ⟨c0, c1, c2, c3, c4, c5, c6, c7, c8, c9, ca, f0, f1, f2, f3, f4, f5, f6, f7, f8, f9, fa, lt⟩ := hn1
  clear hn hb1 hB1 HR
  go_upto_region 2 with fail
  generalize World.setCell _ _ _ = V at H1 ⊢
  clear c0 c1 c2 c3 c4 c5 c6 c7 c8 c9 ca f0 f1 f2 f3 f4 f5 f6 f7 f8 f9 fa lt
  obtain ⟨c0, c1, c2, c3, c4, c5, c6, c7, c8, c9, ca, _, _, _, _, _, _, _, _, _, _, _, lt⟩ := H1.out.1
  go_wp2_with fail
  refine (HEnc.out _ (ht.keep H1.out.2)).mono ?_
  rintro r w2 ⟨rfl, hb2⟩
  have HB := hidIn (H1.out.2.trans (hb2.mono H1.out.2.size))
  clear hb2 c0 c1 c2 c3 c4 c5 c6 c7 c8 c9 ca lt H1
  go_wp2_with fail
  refine (works_any _ (ht.keep HB.out)).mono ?_
  rintro r w3 ⟨rfl, hb3⟩
  go_wp2
  go_ret
  exact ⟨rfl, HB.out.trans (hb3.mono HB.out.size)⟩
theorem hasL_keep {W W' : World} {g : Nat} {l : List UInt8} (h : Wi.HasL W g l) (hb : Below W.heap.size W W') : Wi.HasL W' g l := by
  have hlt := h.lt
  obtain ⟨c, t, lo, hi, h1, h2⟩ := h
  exact ⟨c, t, lo, hi, (hb.block g hlt).trans h1, h2⟩
set_option maxRecDepth 100000 in
set_option maxHeartbeats 4000000 in
theorem turned_some (W S E H O G I : Int) (N : Nat) (a : Int) (v : Nat) (hv : v < 256) (h0 : v ≠ 0) {c s e h o g i n k : Nat} (hg : Good c s e h o g i n k) (hR : ∀ w, Calls Tryd.prog 24 #[hd W S E H O G I N] w fun r w' => r = .returned (hd (8 * (k : Int)) s e h o g i n) ∧ Below w.heap.size w w')
    (w : World) (ht : Wid w) :
    Calls Tryd.prog 6 #[hd W S E H O G I N, .int .i64 a, .int .u8 v] w fun e w' => e = .returned (.bool true) ∧ Below w.heap.size w w' := by
  have HR := hidIn hR
  have HG := hidIn hg
  have HEnc := hidIn (enc_good hg)
  have hsz := encS_size c s e h o g i n k
  have hk2 := hg.k_bd.2
  have HInj := hidIn (fun (c' S' E' H' O' G' I' N' k' : Nat) (h' : Good c' S' E' H' O' G' I' N' k') (hne : encS c' S' E' H' O' G' I' N' k' ≠ encS c s e h o g i n k) => good_inj h' hg hne)
  clear hR hg
  generalize encS c s e h o g i n k = X at *
  have hX1 : 1 ≤ X.size := by omega
  have hX2 : X.size ≤ 100 := by omega
  clear hsz
  obtain ⟨p, hp, hpos⟩ := tmod_nat a X.size (by omega)
  have hvz : ((v : Int) == 0) = false := beq_eq_false_iff_ne.2 (by omega)
  have hxz : ((X.size : Int) == 0) = false := beq_eq_false_iff_ne.2 (by omega)
  have hY := turnS_ne X p v hp hv h0
  have hYl := turnS_size X p v
  have hx8 := xor8 (X.data.toList.getD p 0) v hv
  have HYd := hidIn (show turnS X p v = X.data.toList.set p (X.data.toList.getD p 0 ^^^ UInt8.ofNat v) from rfl)
  have hn := hasHd_new w W S E H O G I N
  go_enter Tryd.func6, Tryd.ntmps6
  go_wp2_with fail
  refine (HR.out _).mono ?_
  rintro r w1 ⟨rfl, hb1⟩
  have hn1 := hn.keep hb1 hn.lt
  have hB1 : Below w.heap.size w w1 := ((Below.refl _ w).alloc (Nat.le_refl _) _).trans (hb1.mono (by simp))
  have h1 := And.intro (hn1.putAll (8 * (k : Int)) s e h o g i n) (below_putHd hB1 (Nat.le_refl _) (8 * (k : Int)) s e h o g i (wd n 0) (wd n 1) (wd n 2) (wd n 3))
  unfold World.putHd at h1
  have H1 := hidIn h1
  clear h1
  obtain ⟨c0, c1, c2, c3, c4, c5, c6, c7, c8, c9, ca, f0, f1, f2, f3, f4, f5, f6, f7, f8, f9, fa, lt⟩ := hn1
  clear hn hb1 hB1 HR
  go_upto_region 2 with fail
  generalize World.setCell _ _ _ = V at H1 ⊢
  clear c0 c1 c2 c3 c4 c5 c6 c7 c8 c9 ca f0 f1 f2 f3 f4 f5 f6 f7 f8 f9 fa lt
  obtain ⟨c0, c1, c2, c3, c4, c5, c6, c7, c8, c9, ca, _, _, _, _, _, _, _, _, _, _, _, lt⟩ := H1.out.1
  go_wp2_with fail
  refine (HEnc.out _ (ht.keep H1.out.2)).mono ?_
  rintro r w2 ⟨rfl, hb2⟩
  have HV := hidIn (H1.out.1.keep hb2 H1.out.1.lt)
  have HB := hidIn (H1.out.2.trans (hb2.mono H1.out.2.size))
  clear hb2 c0 c1 c2 c3 c4 c5 c6 c7 c8 c9 ca lt H1
  obtain ⟨U, cap, hconv, hbW, hL, hW⟩ := Wi.conv_any X w2
  have HV3 := hidIn HV.out.lt
  replace HV := hidIn (HV.out.keep hbW HV.out.lt)
  have HZ := hidIn HB.out.size
  replace HB := hidIn (HB.out.trans (hbW.mono HB.out.size))
  have HL := hidIn hL
  clear hbW hL hW
  go_upto_region 6 with fail
  clear hconv
  have HZ1 := hidIn (show w.heap.size ≤ w2.heap.size from HZ.out)
  have hcell := HL.out.cell (j := p) (by simpa using hp)
  have hfro := HL.out.frozen (j := p) (by simpa using hp)
  have HLs := hidIn (HL.out.set p (X.data.toList.getD p 0 ^^^ UInt8.ofNat v))
  have HZ2 := HV.out.lt
  have HV2 := hidIn (HV.out.other (c := w2.heap.size) (by have := HV3.out; omega) p (.int .u8 ((X.data.toList.getD p 0 ^^^ UInt8.ofNat v).toNat : Nat)))
  have HB2 := hidIn (HB.out.setCell (p := ⟨w2.heap.size, p, none⟩) HZ1.out (.int .u8 ((X.data.toList.getD p 0 ^^^ UInt8.ofNat v).toNat : Nat)))
  have hpX : (p : Int) < (X.size : Int) := by omega
  clear HL HV HB HZ HZ2
  rw [← HYd.out] at HLs
  clear HYd
  generalize X.data.toList.getD p 0 = bx at *
  generalize bx ^^^ UInt8.ofNat v = y at *
  go_upto_region 8 with fail
  generalize World.setCell _ _ _ = U2 at HLs HV2 HB2 ⊢
  clear hcell hfro
  have hstr := HLs.out.string (cap := cap) (n := X.size) hYl.symm
  have hYs : (⟨(turnS X p v).toArray⟩ : ByteArray).size = X.size := by show (turnS X p v).toArray.size = _; simpa using hYl
  have HDec := hidIn (dec_any ⟨(turnS X p v).toArray⟩ (by omega))
  generalize hYY : (⟨(turnS X p v).toArray⟩ : ByteArray) = Y at *
  have HLs' := hidIn (And.intro HLs.out hYY)
  clear hYY HLs
  have hq0 := eq_zz
  have hYY := Wi.str_eq (rfl : Y = Y)
  have HY := hidIn hY
  clear hY hYs hpos hpX hx8 hvz hxz
  rcases HDec.out with ⟨x, hx, hD⟩ | ⟨c', S', E', H', O', G', I', N', k', hg', hYe, hD⟩
  · have HD := hidIn hD
    clear HDec hD
    go_wp2_with fail
    refine (HD.out _ (ht.keep HB2.out)).mono ?_
    rintro r w5 ⟨rfl, hb5⟩
    replace HB2 := hidIn (HB2.out.trans (hb5.mono HB2.out.size))
    clear hb5 hstr
    have HX := hidIn (hasHd_zero w5)
    replace HB2 := hidIn (HB2.out.alloc HB2.out.size hob0)
    go_upto_region 9 with fail
    generalize w5.alloc _ = U5 at HB2 HX ⊢
    generalize w5.heap.size = xb at *
    obtain ⟨c0, c1, c2, c3, c4, c5, c6, c7, c8, c9, ca, _, _, _, _, _, _, _, _, _, _, _, lt⟩ := HX.out
    simp only [wd_zero] at c7 c8 c9 ca
    rcases hx with rfl | rfl
    all_goals
      go_wp2_with fail
      refine (works_any _ (ht.keep HB2.out)).mono ?_
      rintro r w6 ⟨rfl, hb6⟩
      go_wp2
      go_ret
      exact ⟨rfl, HB2.out.trans (hb6.mono HB2.out.size)⟩
  · have HD := hidIn hD
    have HE := hidIn (enc_good hg')
    rw [← hYe] at HE
    have hq := HInj.out c' S' E' H' O' G' I' N' k' hg' (by rw [← hYe]; exact HY.out)
    clear HDec hD hYe HInj hq0
    go_wp2_with fail
    refine (HD.out _ (ht.keep HB2.out)).mono ?_
    rintro r w5 ⟨rfl, hb5⟩
    have HL5 := hidIn (hasL_keep HLs'.out.1 hb5)
    replace HV2 := hidIn (HV2.out.keep hb5 HV2.out.lt)
    replace HB2 := hidIn (HB2.out.trans (hb5.mono HB2.out.size))
    clear hb5 hstr
    have HX := hidIn (hasHd_new w5 (8 * (k' : Int)) S' E' H' O' G' I' N')
    replace HL5 := hidIn (hasL_keep HL5.out ((Below.refl _ w5).alloc (Nat.le_refl _) (hob (8 * (k' : Int)) S' E' H' O' G' I' N')))
    replace HV2 := hidIn (HV2.out.keep ((Below.refl _ w5).alloc (Nat.le_refl _) (hob (8 * (k' : Int)) S' E' H' O' G' I' N')) HV2.out.lt)
    replace HB2 := hidIn (HB2.out.alloc HB2.out.size (hob (8 * (k' : Int)) S' E' H' O' G' I' N'))
    go_upto_region 9 with fail
    generalize w5.alloc _ = U5 at HB2 HX HL5 HV2 ⊢
    generalize w5.heap.size = xb at *
    obtain ⟨c0, c1, c2, c3, c4, c5, c6, c7, c8, c9, ca, _, _, _, _, _, _, _, _, _, _, _, lt⟩ := HX.out
    go_wp2_with fail
    refine (HE.out _ (ht.keep HB2.out)).mono ?_
    rintro r w6 ⟨rfl, hb6⟩
    clear c0 c1 c2 c3 c4 c5 c6 c7 c8 c9 ca lt
    replace HX := hidIn (HX.out.keep hb6 HX.out.lt)
    replace HL5 := hidIn (hasL_keep HL5.out hb6)
    replace HV2 := hidIn (HV2.out.keep hb6 HV2.out.lt)
    replace HB2 := hidIn (HB2.out.trans (hb6.mono HB2.out.size))
    clear hb6 HD HE
    have hstr := HL5.out.string (cap := cap) (n := X.size) hYl.symm
    rw [HLs'.out.2] at hstr
    obtain ⟨c0, c1, c2, c3, c4, c5, c6, c7, c8, c9, ca, _, _, _, _, _, _, _, _, _, _, _, lt⟩ := HX.out
    obtain ⟨d0, d1, d2, d3, d4, d5, d6, d7, d8, d9, da, _, _, _, _, _, _, _, _, _, _, _, lt'⟩ := HV2.out
    go_wp2_with fail
    refine (works_any _ (ht.keep HB2.out)).mono ?_
    rintro r w7 ⟨rfl, hb7⟩
    go_wp2
    go_ret
    exact ⟨rfl, HB2.out.trans (hb7.mono HB2.out.size)⟩
theorem turned_walk (W S E H O G I : Int) (N : Nat) (a : Int) (t : Int) (wt : (Lit.int .u8 t).wf = true) (hN : N < 2 ^ 256) (hE : 0 ≤ E ∧ E < 4294967296) (hI : 0 ≤ I ∧ I < 4294967296) (w : World) (ht : Wid w) :
    Calls Tryd.prog 6 #[hd W S E H O G I N, .int .i64 a, .int .u8 t] w fun e w' => e = .returned (.bool true) ∧ Below w.heap.size w w' := by
  obtain ⟨c, s, e, h, o, g, i, n, k, hg, hR⟩ := right_good W S E H O G I N hN hE hI
  have hb : 0 ≤ t ∧ t ≤ 255 := by simpa [Lit.wf, IntKind.min, IntKind.max, IntKind.signed, IntKind.bits] using wt
  obtain ⟨v, rfl⟩ := Int.eq_ofNat_of_zero_le hb.1
  by_cases h0 : v = 0
  · subst h0
    exact turned_zero W S E H O G I N a hg hR w ht
  · exact turned_some W S E H O G I N a v (by omega) h0 hg hR w ht
end Go.Proofs.YtmdpbohepdblcaaDoor
