/- FateOnce: the walk. -/
import Derived.Test.YtkkgbcoclfpicaaFO2
namespace Go.Proofs.Ytkkgbcoclfpicaa.Fa
open Go.RowKit

abbrev ftL (f : Ft) : Array Value := #[.int .i64 f.1, .int .i64 f.2.1, .int .i64 f.2.2]
set_option maxRecDepth 100000 in
set_option maxHeartbeats 40000000 in
theorem fateOnce_walk {L : List Tu} {A : List (Nat × Nat)} {v u : Value} {w : World} (h : SlAt tuC 5 w v L) (hL : ∀ y ∈ L, Tu8 y) (hlen : L.length ≤ 140737488355328) (g : SlAt u2C 2 w u A) (hA : ∀ y ∈ A, y.1 < 256 ∧ y.2 < 256) (hAl : A.length ≤ 140737488355328) :
    Calls Try.prog 4 #[v, u] w fun e w' => e = .returned (.bool true) ∧ Below w.heap.size w w' := by
  have HRl := hidIn (frules_any h hL hlen)
  obtain ⟨ua, uc, rfl, hce⟩ := SlAt_u2 g
  have HCA := hidIn hce
  have HA := hidIn hA
  obtain ⟨na, hna⟩ : ∃ na, A.length = na := ⟨_, rfl⟩
  rw [hna] at HCA hAl ⊢
  have Hna := hidIn hna
  obtain ⟨hok, hl30⟩ := rlL_ok (L := L.take 30) (by rw [List.length_take]; omega)
  obtain ⟨l0, hl0⟩ : ∃ l0, rlL (L.take 30) = l0 := ⟨_, rfl⟩
  obtain ⟨n0, hn0⟩ : ∃ n0, l0.length = n0 := ⟨_, rfl⟩
  rw [hl0] at HRl hok hl30
  rw [hn0] at HRl hl30
  have Hok := hidIn hok
  have Hn0 := hidIn hn0
  clear h hL g hA hce hna hok hl0 hn0 hlen
  go_enter Try.func4, Try.ntmps4
  go_wp2_with fail
  refine HRl.out.mono ?_
  rintro e w1 ⟨⟨a1, c1, rfl, hrow⟩, hb1⟩
  have HS1 := hidIn (slAt_of_row (cs := ruC) (fun _ => rfl) hrow Hn0.out)
  have HB1 := hidIn hb1
  clear HRl hrow hb1
  go_wp2_with fail
  go_loopw [6, 7] (fun u i wr => ∃ k : Nat, k ≤ n0 ∧ i = .int .i64 ((k : Int) - 1) ∧ (∃ a c, u = .slice a (n0 - k) c) ∧ Hid (wr.ownsRow w1.heap.size 32 5 u (n0 - k) (fl ruC (l0.drop k).reverse) ∧ Below w1.heap.size w1 wr)) (fun _ i _ => (intOf i + 1).toNat)
  case atStart => exact ⟨n0, Nat.le_refl _, rfl, ⟨none, 0, by rw [Nat.sub_self]⟩, hidIn ⟨by rw [Nat.sub_self, ← Hn0.out, List.drop_length]; exact World.ownsRow_nil _ _ _ _, Below.refl _ _⟩⟩
  case round =>
    obtain ⟨k, hk, rfl, ⟨ua2, uc2, rfl⟩, HR⟩ := hrel
    cases k with
    | succ j =>
      have hj : ((j + 1 : Nat) : Int) - 1 = (j : Int) := by omega
      have hge : (0 : Int) ≤ (j : Int) := by omega
      have hjn : j < n0 := by omega
      have hji : (j : Int) < (n0 : Int) := by omega
      rw [hj]
      obtain ⟨r, hr⟩ : ∃ r, l0[j]? = some r := ⟨l0[j]'(by have := Hn0.out; omega), List.getElem?_eq_getElem _⟩
      obtain ⟨a9, c9, h9, _, hsc⟩ := SlAt_rus HS1.out
      simp at h9
      obtain ⟨rfl, hx9, rfl⟩ := h9
      obtain ⟨g9, o9, rfl, hg9, hsc⟩ := hsc (by have := Hn0.out; omega)
      obtain ⟨v0, v1, v2, v3, v4⟩ := hsc j _ hr
      have hbel := HR.out.2
      have w0 := (hbel.cell (p := ⟨g9, o9 + j * 5, none⟩) hg9).trans v0
      have w1' := (hbel.cell (p := ⟨g9, o9 + j * 5 + 1, none⟩) hg9).trans v1
      have w2 := (hbel.cell (p := ⟨g9, o9 + j * 5 + 2, none⟩) hg9).trans v2
      have w3 := (hbel.cell (p := ⟨g9, o9 + j * 5 + 3, none⟩) hg9).trans v3
      have w4 := (hbel.cell (p := ⟨g9, o9 + j * 5 + 4, none⟩) hg9).trans v4
      obtain ⟨md, hmd⟩ : ∃ md, n0 - (j + 1) = md := ⟨_, rfl⟩
      have hrow := HR.out.1
      rw [hmd] at hrow ⊢
      obtain ⟨g8, c8, w6, hrun, hown, _, _, hb6⟩ := append_ru hrow r (by omega) hbel.size
      have hrev : (l0.drop j).reverse = (l0.drop (j + 1)).reverse ++ [r] := by
        have hd : l0.drop j = r :: l0.drop (j + 1) := drop_next hr
        rw [hd, List.reverse_cons]
      rw [← hrev] at hown
      have HRun := hidIn hrun
      have HOwn := hidIn hown
      have HBel := hidIn (hbel.trans hb6)
      have Hmd : Hid (md + 1 = n0 - j) := hidIn (by omega)
      clear hj hx9 v0 v1 v2 v3 v4 hsc hr hrow hbel hrun hown hb6 hrev hmd HR hg9
      go_wp2_with (refine l_append rfl _ _ 22 rfl HRun.out ?_)
      go_roundw
      case rel => exact ⟨j, by omega, rfl, ⟨_, c8, by rw [← Hmd.out]⟩, hidIn ⟨by rw [← Hmd.out]; exact HOwn.out, HBel.out⟩⟩
      case measure => simp [intOf]
    | zero =>
      have hge : ¬ (0 : Int) ≤ ((0 : Nat) : Int) - 1 := by omega
      have HT := hidIn (slAt_of_row (cs := ruC) (fun _ => rfl) HR.out.1 (by rw [List.length_reverse, List.drop_zero, Hn0.out, Nat.sub_zero]))
      rw [List.drop_zero, Nat.sub_zero] at HT
      rw [Nat.sub_zero]
      have HS2 := hidIn (HS1.out.keep HR.out.2 (Nat.le_refl _))
      have HBr := hidIn HR.out.2
      clear HR
      go_wp2_with fail
      refine (fnew_ok HS2.out (rsOk_chk Hok.out)).mono ?_
      rintro e w3 ⟨P, m, rfl, hP3, hPl, hml, hb3⟩
      have HT3 := hidIn (HT.out.keep hb3 (Nat.le_refl _))
      have HP3 := hidIn hP3
      have HPl := hidIn hPl
      have Hml := hidIn hml
      have HB3 := hidIn hb3
      clear hP3 hPl hml hb3 HS2 HT
      go_wp2_with fail
      refine (fnew_ok HT3.out (rsOk_chk (rsOk_rev Hok.out))).mono ?_
      rintro e w4 ⟨Q, n, rfl, hQ4, hQl, hnl, hb4⟩
      obtain ⟨W5, hW5⟩ : ∃ W5, w4.alloc (.cells (c5 no2).toArray 3) = W5 := ⟨_, rfl⟩
      have hb5 : Below w4.heap.size w4 W5 := by rw [← hW5]; exact (Below.refl _ w4).alloc (Nat.le_refl _) _
      have hD : Ds w3.heap.size P m Q n w4.heap.size := ⟨HP3.out.b.lt, HP3.out.m.lt, hQl, hnl, hQ4.b.lt, hQ4.m.lt⟩
      have hW : Wd W5 W5 P m Q n w4.heap.size l0 no2 no2 no2 :=
        ⟨by rw [rest_new Hok.out]; exact (HP3.out.below hb4 HP3.out.b.lt HP3.out.m.lt).below hb5 (Nat.lt_of_lt_of_le HP3.out.b.lt hb4.size) (Nat.lt_of_lt_of_le HP3.out.m.lt hb4.size),
          by rw [rest_new (rsOk_rev Hok.out)]; exact hQ4.below hb5 hQ4.b.lt hQ4.m.lt, by rw [← hW5]; exact arr_new w4 _ _, Fr.refl _ _⟩
      have s1 := HB1.out.size
      have s2 := HBr.out.size
      have s3 := HB3.out.size
      have s4 := hb4.size
      have s5 := hb5.size
      have d1 := HPl.out
      have d2 := Hml.out
      have HIn : Hid (∀ j r, l0[j]? = some r → ∃ bk o, a1 = some ⟨bk, o, none⟩ ∧ ∀ wq, Fr (fun j => j = P ∨ j = m ∨ j = Q ∨ j = n ∨ j = w4.heap.size) W5 wq → wq.cell? ⟨bk, o + j * 5, none⟩ = some (.int .i64 r.1) ∧ wq.cell? ⟨bk, o + j * 5 + 1, none⟩ = some (.int .i64 r.2.1) ∧ wq.cell? ⟨bk, o + j * 5 + 2, none⟩ = some (.int .i64 r.2.2.1) ∧ wq.cell? ⟨bk, o + j * 5 + 3, none⟩ = some (.int .i64 r.2.2.2.1) ∧ wq.cell? ⟨bk, o + j * 5 + 4, none⟩ = some (.int .i64 r.2.2.2.2)) := hidIn fun j r hr => by
        have hjl := (List.getElem?_eq_some_iff.1 hr).1
        obtain ⟨a9, c9, h9, _, hsc⟩ := SlAt_rus HS1.out
        simp at h9
        obtain ⟨rfl, _, rfl⟩ := h9
        obtain ⟨g9, o9, rfl, hg9, hsc⟩ := hsc (by omega)
        refine ⟨g9, o9, rfl, fun wq hF => ?_⟩
        have e : ∀ j, wq.cell? ⟨g9, j, none⟩ = w1.cell? ⟨g9, j, none⟩ := fun j => by
          unfold World.cell?
          rw [hF.block g9 (by omega) (by omega), hb5.block g9 (by omega), hb4.block g9 (by omega), HB3.out.block g9 (by omega), HBr.out.block g9 hg9]
        obtain ⟨v0, v1, v2, v3, v4⟩ := hsc j _ hr
        exact ⟨(e _).trans v0, (e _).trans v1, (e _).trans v2, (e _).trans v3, (e _).trans v4⟩
      have HAs : Hid (∀ j p, A[j]? = some p → ∃ bk o, ua = some ⟨bk, o, none⟩ ∧ ∀ wq, Fr (fun j => j = P ∨ j = m ∨ j = Q ∨ j = n ∨ j = w4.heap.size) W5 wq → wq.cell? ⟨bk, o + j * 2, none⟩ = some (.int .u8 p.1) ∧ wq.cell? ⟨bk, o + j * 2 + 1, none⟩ = some (.int .u8 p.2)) := hidIn fun j p hp => by
        have hjl := (List.getElem?_eq_some_iff.1 hp).1
        obtain ⟨g9, o9, rfl, hg9, hsc⟩ := HCA.out (by have := Hna.out; omega)
        refine ⟨g9, o9, rfl, fun wq hF => ?_⟩
        have e : ∀ j, wq.cell? ⟨g9, j, none⟩ = w.cell? ⟨g9, j, none⟩ := fun j => by
          unfold World.cell?
          rw [hF.block g9 (by omega) (by omega), hb5.block g9 (by omega), hb4.block g9 (by omega), HB3.out.block g9 (by omega), HBr.out.block g9 (by omega), HB1.out.block g9 hg9]
        obtain ⟨v0, v1⟩ := hsc j _ hp
        exact ⟨(e _).trans v0, (e _).trans v1⟩
      have HB5 : Hid (Below w.heap.size w W5 ∧ ∀ wq, Fr (fun j => j = P ∨ j = m ∨ j = Q ∨ j = n ∨ j = w4.heap.size) W5 wq → Below w.heap.size w wq) := hidIn (by
        have hb : Below w.heap.size w W5 := (((HB1.out.trans (HBr.out.mono (by omega))).trans (HB3.out.mono (by omega))).trans (hb4.mono (by omega))).trans (hb5.mono (by omega))
        exact ⟨hb, fun wq hF => hb.trans (hF.below (by omega) (fun j hj => by omega))⟩)
      obtain ⟨b, hb⟩ : ∃ b, w4.heap.size = b := ⟨_, rfl⟩
      obtain ⟨s, hs⟩ : ∃ s, w3.heap.size = s := ⟨_, rfl⟩
      rw [hb] at hD hW HIn HAs HB5
      rw [hs] at hD
      have HD := hidIn hD
      have HWd := hidIn hW
      have HW5 := hidIn hW5
      have Hb := hidIn hb
      have HL0 : Hid ((restR l0 no2).length = n0) := hidIn (by rw [rest_new Hok.out, Hn0.out])
      clear hb4 hQ4 hQl hnl hb5 hD hW s1 s2 s3 s4 s5 d1 d2 hW5 HP3 HPl Hml HB3 HT3 HBr HS1 HB1 HCA hs hb
      have hmk := make_25 w4
      go_upto_region 12 with fail
      rw [HW5.out, Hb.out]
      clear hmk HW5 Hb
      go_wp2_with fail
      go_loopw [13, 14] (fun lv iv wr => ∃ (k : Nat) (c : Nat → Nat → Int), k ≤ 80 ∧ k ≤ na ∧ iv = .int .i64 k ∧ lv = .int .i64 ((restR l0 c).length : Int) ∧ Hid (Wd W5 wr P m Q n b l0 c c c ∧ ∀ x y, 0 ≤ c x y ∧ c x y ≤ k)) (fun _ iv _ => 80 - (intOf iv).toNat)
      case atStart => exact ⟨0, no2, by omega, by omega, rfl, by rw [HL0.out], hidIn ⟨HWd.out, fun _ _ => by unfold no2; omega⟩⟩
      case round =>
        clear HWd HL0
        obtain ⟨k, c, hk80, hkn, rfl, rfl, HR⟩ := hrel
        by_cases hlt : k < na ∧ k < 80
        · obtain ⟨hlt, hlt80⟩ := hlt
          have hki : (k : Int) < (na : Int) := by omega
          have hki80 : (k : Int) < 80 := by omega
          obtain ⟨⟨t0, t1⟩, hm⟩ : ∃ z, A[k]? = some z := ⟨A[k]'(by have := Hna.out; omega), List.getElem?_eq_getElem _⟩
          obtain ⟨b0, b1⟩ := HA.out _ (List.mem_of_getElem? hm)
          simp only at b0 b1
          obtain ⟨bk, o, rfl, hce⟩ := HAs.out k _ hm
          obtain ⟨hWd, hbd⟩ := HR.out
          obtain ⟨q0, q1⟩ := hce _ hWd.wf
          have q0 := cell_regrown q0
          have q1 := cell_regrown q1
          simp only at q0 q1
          obtain ⟨m0, p0, z0, y0w⟩ := tm8 (x := t0) 4 (by omega)
          obtain ⟨m1, p1, z1, y1w⟩ := tm8 (x := t1) 4 (by omega)
          have hx0 : (t0 % 4 : Nat) < 4 := by omega
          have hx1 : (t1 % 4 : Nat) < 4 := by omega
          obtain ⟨y0, hy0⟩ : ∃ y, t0 % 4 = y := ⟨_, rfl⟩
          obtain ⟨y1, hy1⟩ : ∃ y, t1 % 4 = y := ⟨_, rfl⟩
          rw [hy0] at m0 p0 z0 y0w hx0
          rw [hy1] at m1 p1 z1 y1w hx1
          have m0 : (t0 : Int).tmod 4 = (y0 : Int) := m0
          have m1 : (t1 : Int).tmod 4 = (y1 : Int) := m1
          have e0 : (t0 : Int) ≤ 255 := by omega
          have e1 : (t1 : Int) ≤ 255 := by omega
          have HWd0 := hidIn hWd
          have Hbd := hidIn hbd
          obtain ⟨lf, hlf⟩ : ∃ lf, (restR l0 c).length = lf := ⟨_, rfl⟩
          have hlf64 : lf ≤ 64 := by rw [← hlf]; exact (rest_ok Hok.out c).len
          rw [hlf]
          have Hlf := hidIn hlf
          clear HR hm b0 b1 hce hWd hbd hy0 hy1 hlf
          go_upto_region 16 with fail
          refine wp_region_quiet_below (by kernel_rfl) (by kernel_rfl) ?_
          repeat (go_big_quiet_step (fail))
          refine wpQuiet_nil ?_
          intro _ hw'
          obtain ⟨⟨dq, osq⟩, hw''⟩ := hw'
          subst hw''
          have hq5 := below_regrown wr dq osq
          generalize Go.Sort.grow (redrawn wr dq) osq = W5x at hq5 ⊢
          have HWd := hidIn (HWd0.out.below hq5)
          clear hq5 q0 q1 HWd0
          obtain ⟨x, hx⟩ : ∃ x, 1 + y0 = x := ⟨_, rfl⟩
          obtain ⟨y, hy⟩ : ∃ y, 1 + y1 = y := ⟨_, rfl⟩
          rw [show 1 + (y0 : Int) = (x : Int) from by omega, show 1 + (y1 : Int) = (y : Int) from by omega]
          have hx14 : 1 ≤ x ∧ x ≤ 4 := by omega
          have hy14 : 1 ≤ y ∧ y ≤ 4 := by omega
          clear m0 m1 p0 p1 z0 z1 y0w y1w hx0 hx1 e0 e1 hx hy
          have hq := fun a0 a1 a2 b0 b1 b2 w => eq_Ft a0 a1 a2 b0 b1 b2 w
          by_cases hxy : x = y
          · subst hxy
            have hp : isP (x : Int) (x : Int) = false := by simp [isP]
            clear hy14
            go_wp2_with fail
            refine (fask_no (P := P) (a := (x : Int)) (b := (x : Int)) HWd.out.wp.b hp).mono ?_
            rintro e v1 ⟨rfl, hb⟩
            have hWd := HWd.out.below hb
            clear hb
            obtain ⟨v2, hw⟩ : ∃ W, v1.alloc (.cells #[.int .i64 0, .int .i64 0, .int .i64 0] 38) = W := ⟨_, rfl⟩
            have hvw : Below v1.heap.size v1 v2 := by rw [← hw]; exact (Below.refl _ v1).alloc (Nat.le_refl _) _
            obtain ⟨x1, hx⟩ : ∃ x, v1.heap.size = x := ⟨_, rfl⟩
            have HX1 : Hid (v2.heap[x1]? = some (.cells #[.int .i64 0, .int .i64 0, .int .i64 0] 38)) := hidIn (by rw [← hw, ← hx]; exact heap_alloc_last v1 _)
            have HN1 : Hid (P < x1 ∧ m < x1 ∧ Q < x1 ∧ n < x1 ∧ b < x1) := hidIn (by rw [← hx]; exact ⟨hWd.wp.b.lt, hWd.wp.m.lt, hWd.wq.b.lt, hWd.wq.m.lt, hWd.wb.lt⟩)
            have HW := hidIn hw
            have Hx := hidIn hx
            have HWd2 := hidIn (hWd.below hvw)
            clear hw hx hvw hWd
            go_upto_region 18 with fail
            rw [HW.out, Hx.out]
            clear HW Hx
            go_wp2_with fail
            refine (fask_no (P := Q) (a := (x : Int)) (b := (x : Int)) HWd2.out.wq.b hp).mono ?_
            rintro e v3 ⟨rfl, hb⟩
            have hWd := HWd2.out.below hb
            have hX1 := (hb.block _ (block_lt HX1.out)).trans HX1.out
            clear hb
            obtain ⟨v4, hw⟩ : ∃ W, v3.alloc (.cells #[.int .i64 0, .int .i64 0, .int .i64 0] 38) = W := ⟨_, rfl⟩
            have hvw : Below v3.heap.size v3 v4 := by rw [← hw]; exact (Below.refl _ v3).alloc (Nat.le_refl _) _
            obtain ⟨x2, hx⟩ : ∃ x, v3.heap.size = x := ⟨_, rfl⟩
            have HX2 : Hid (v4.heap[x2]? = some (.cells #[.int .i64 0, .int .i64 0, .int .i64 0] 38)) := hidIn (by rw [← hw, ← hx]; exact heap_alloc_last v3 _)
            have HN2 : Hid (P < x2 ∧ m < x2 ∧ Q < x2 ∧ n < x2 ∧ b < x2) := hidIn (by rw [← hx]; exact ⟨hWd.wp.b.lt, hWd.wp.m.lt, hWd.wq.b.lt, hWd.wq.m.lt, hWd.wb.lt⟩)
            have HW := hidIn hw
            have Hx := hidIn hx
            have HX1' := hidIn ((hvw.block _ (block_lt hX1)).trans hX1)
            have HWd4 := hidIn (hWd.below hvw)
            clear hw hx hvw hWd hX1 HX1
            have HX1 := HX1'
            clear HX1'
            go_upto_region 19 with fail
            rw [HW.out, Hx.out]
            clear HW Hx
            have c10 := cell_of_row _ _ 0 _ _ _ HX1.out
            have c11 := cell_of_row _ _ 1 _ _ _ HX1.out
            have c12 := cell_of_row _ _ 2 _ _ _ HX1.out
            have c20 := cell_of_row _ _ 0 _ _ _ HX2.out
            have c21 := cell_of_row _ _ 1 _ _ _ HX2.out
            have c22 := cell_of_row _ _ 2 _ _ _ HX2.out
            simp at c10 c11 c12 c20 c21 c22
            clear hp
            go_upto_if 117 with fail
            clear hq
            go_wp2_with fail
            go_roundw
            case rel => exact ⟨k + 1, c, by omega, by omega, by go_num, by rw [Hlf.out], hidIn ⟨HWd4.out, fun x y => ⟨(Hbd.out x y).1, by have := (Hbd.out x y).2; omega⟩⟩⟩
            case measure => simp [intOf]; omega
          · have hxe : ((x : Int) == (y : Int)) = false := by simp; omega
            have hp : isP (x : Int) (y : Int) = true := isP_iff.2 ⟨by omega, by omega, by omega⟩
            obtain ⟨hcb0, hcb1⟩ := Hbd.out x y
            obtain ⟨cc, hcc⟩ : ∃ cc, c x y = cc := ⟨_, rfl⟩
            rw [hcc] at hcb0 hcb1
            obtain ⟨c', hc'⟩ : ∃ c', put2 c x y (cc + 1) = c' := ⟨_, rfl⟩
            obtain ⟨⟨f0, f1, f2⟩, hf⟩ : ∃ f, ftO (findR l0 ((x : Int), (y : Int), cc + 1)) = f := ⟨_, rfl⟩
            have HAP : ∀ wv, Wd W5 wv P m Q n b l0 c c c → Hid (Calls Try.prog 10 #[pp P, .int .i64 (x : Int), .int .i64 (y : Int)] wv fun e w' => e = .returned (.tuple #[.agg #[.int .i64 f0, .int .i64 f1, .int .i64 f2], .int .i64 0]) ∧ PlAt w' P m (restR l0 c') c' ∧ Fr (fun j => j = P ∨ j = m) wv w') := fun wv hW => hidIn (by
              have := fask_rest Hok.out hW.wp hp (by rw [hcc]; omega)
              rw [hcc, hf, hc'] at this
              exact this)
            have HAQ : ∀ wv, Wd W5 wv P m Q n b l0 c' c c → Hid (Calls Try.prog 10 #[pp Q, .int .i64 (x : Int), .int .i64 (y : Int)] wv fun e w' => e = .returned (.tuple #[.agg #[.int .i64 f0, .int .i64 f1, .int .i64 f2], .int .i64 0]) ∧ PlAt w' Q n (restR l0.reverse c') c' ∧ Fr (fun j => j = Q ∨ j = n) wv w') := fun wv hW => hidIn (by
              have := fask_rest (rsOk_rev Hok.out) hW.wq hp (by rw [hcc]; omega)
              rw [hcc, rev_find Hok.out, hf, hc'] at this
              exact this)
            have Hf := hidIn hf
            have Hcc := hidIn hcc
            have Hc' := hidIn hc'
            have Hp := hidIn hp
            clear hf hcc hc' hp hxy
            go_wp2_with fail
            refine (HAP _ HWd.out).out.mono ?_
            rintro e v1 ⟨rfl, hP, hF⟩
            have hWd := HWd.out.askP HD.out hP hF
            clear hP hF HAP
            obtain ⟨v2, hw⟩ : ∃ W, v1.alloc (.cells #[.int .i64 f0, .int .i64 f1, .int .i64 f2] 38) = W := ⟨_, rfl⟩
            have hvw : Below v1.heap.size v1 v2 := by rw [← hw]; exact (Below.refl _ v1).alloc (Nat.le_refl _) _
            obtain ⟨x1, hx⟩ : ∃ x, v1.heap.size = x := ⟨_, rfl⟩
            have HX1 : Hid (v2.heap[x1]? = some (.cells #[.int .i64 f0, .int .i64 f1, .int .i64 f2] 38)) := hidIn (by rw [← hw, ← hx]; exact heap_alloc_last v1 _)
            have HN1 : Hid (P < x1 ∧ m < x1 ∧ Q < x1 ∧ n < x1 ∧ b < x1) := hidIn (by rw [← hx]; exact ⟨hWd.wp.b.lt, hWd.wp.m.lt, hWd.wq.b.lt, hWd.wq.m.lt, hWd.wb.lt⟩)
            have HW := hidIn hw
            have Hx := hidIn hx
            have HWd2 := hidIn (hWd.below hvw)
            clear hw hx hvw hWd
            go_upto_region 18 with fail
            rw [HW.out, Hx.out]
            clear HW Hx
            go_wp2_with fail
            refine (HAQ _ HWd2.out).out.mono ?_
            rintro e v3 ⟨rfl, hP, hF⟩
            have hWd := HWd2.out.askQ HD.out hP hF
            have hX1 := (hF.block _ (block_lt HX1.out) (by have := HN1.out; omega)).trans HX1.out
            clear hP hF HAQ
            obtain ⟨v4, hw⟩ : ∃ W, v3.alloc (.cells #[.int .i64 f0, .int .i64 f1, .int .i64 f2] 38) = W := ⟨_, rfl⟩
            have hvw : Below v3.heap.size v3 v4 := by rw [← hw]; exact (Below.refl _ v3).alloc (Nat.le_refl _) _
            obtain ⟨x2, hx⟩ : ∃ x, v3.heap.size = x := ⟨_, rfl⟩
            have HX2 : Hid (v4.heap[x2]? = some (.cells #[.int .i64 f0, .int .i64 f1, .int .i64 f2] 38)) := hidIn (by rw [← hw, ← hx]; exact heap_alloc_last v3 _)
            have HN2 : Hid (P < x2 ∧ m < x2 ∧ Q < x2 ∧ n < x2 ∧ b < x2) := hidIn (by rw [← hx]; exact ⟨hWd.wp.b.lt, hWd.wp.m.lt, hWd.wq.b.lt, hWd.wq.m.lt, hWd.wb.lt⟩)
            have HW := hidIn hw
            have Hx := hidIn hx
            have HX1' := hidIn ((hvw.block _ (block_lt hX1)).trans hX1)
            have HWd4 := hidIn (hWd.below hvw)
            clear hw hx hvw hWd hX1 HX1
            have HX1 := HX1'
            clear HX1'
            go_upto_region 19 with fail
            rw [HW.out, Hx.out]
            clear HW Hx
            have c10 := cell_of_row _ _ 0 _ _ _ HX1.out
            have c11 := cell_of_row _ _ 1 _ _ _ HX1.out
            have c12 := cell_of_row _ _ 2 _ _ _ HX1.out
            have c20 := cell_of_row _ _ 0 _ _ _ HX2.out
            have c21 := cell_of_row _ _ 1 _ _ _ HX2.out
            have c22 := cell_of_row _ _ 2 _ _ _ HX2.out
            simp at c10 c11 c12 c20 c21 c22
            go_upto_if 117 with fail
            clear hq c10 c11 c12 c20 c21 c22
            obtain ⟨d, hd⟩ : ∃ d, 5 * x + y = d := ⟨_, rfl⟩
            have hd25 : (d : Int) < 25 := by omega
            have hd25' : d < 25 := by omega
            have hdi : 5 * (x : Int) + (y : Int) = (d : Int) := by omega
            have hw5 : IntKind.i64.wrap (5 * (x : Int)) = 5 * (x : Int) := by rw [IntKind.wrap_i64]; omega
            have hwd : IntKind.i64.wrap (d : Int) = (d : Int) := by rw [IntKind.wrap_i64]; omega
            have hwc : IntKind.i64.wrap (cc + 1) = cc + 1 := by rw [IntKind.wrap_i64]; omega
            have s0 : v4.cell? ⟨b, d, none⟩ = some (.int .i64 cc) := by rw [HWd4.out.wb.cell, ← hd, c5_get c (by omega) (by omega), Hcc.out]
            have s1 : v4.frozen? ⟨b, d, none⟩ = false := HWd4.out.wb.frozen d
            obtain ⟨W8, hW8⟩ : ∃ W8, v4.setCell ⟨b, d, none⟩ (.int .i64 (cc + 1)) = W8 := ⟨_, rfl⟩
            have hWd : Wd W5 W8 P m Q n b l0 c' c' c' := by
              have := HWd4.out.put HD.out (x := x) (y := y) (by omega) (by omega) (cc + 1)
              rw [hd, hW8, Hc'.out] at this
              exact this
            have hF8 : Fr (fun j => j = b) v4 W8 := by rw [← hW8]; exact Fr.set (S := fun j => j = b) (Fr.refl _ v4) (p := ⟨b, d, none⟩) rfl _
            have HX1' := hidIn ((hF8.block _ (block_lt HX1.out) (by have := HN1.out; omega)).trans HX1.out)
            clear HX1
            have HX1 := HX1'
            have HWd8 := hidIn hWd
            have HW8 := hidIn hW8
            have Hd := hidIn hd
            clear HX1' HX2 HN2 hW8 hF8 HWd4 hWd hd
            go_upto_region 23 with fail
            rw [HW8.out]
            clear HW8 s0 s1
            have hWd := HWd8.out
            obtain ⟨W9, hw⟩ : ∃ W, W8.alloc (.cells #[.int .i64 1, .int .i64 0, .int .i64 0] 38) = W := ⟨_, rfl⟩
            have hvw : Below W8.heap.size W8 W9 := by rw [← hw]; exact (Below.refl _ W8).alloc (Nat.le_refl _) _
            obtain ⟨x3, hx⟩ : ∃ x, W8.heap.size = x := ⟨_, rfl⟩
            have HX3 : Hid (W9.heap[x3]? = some (.cells #[.int .i64 1, .int .i64 0, .int .i64 0] 38)) := hidIn (by rw [← hw, ← hx]; exact heap_alloc_last W8 _)
            have HN3 : Hid (P < x3 ∧ m < x3 ∧ Q < x3 ∧ n < x3 ∧ b < x3) := hidIn (by rw [← hx]; exact ⟨hWd.wp.b.lt, hWd.wp.m.lt, hWd.wq.b.lt, hWd.wq.m.lt, hWd.wb.lt⟩)
            have HW := hidIn hw
            have Hx := hidIn hx
            have HX1' := hidIn ((hvw.block _ (block_lt HX1.out)).trans HX1.out)
            have HWd9 := hidIn (hWd.below hvw)
            have H35 : Hid (W5.heap.size ≤ x3) := hidIn (by have := hWd.wf.size; omega)
            have HN13 : Hid (x1 < x3) := hidIn (by rw [← hx]; exact block_lt HX1.out)
            clear HX1
            have HX1 := HX1'
            clear HX1' hWd HWd8 hvw hw hx
            go_upto_region 24 with fail
            rw [HW.out, Hx.out]
            clear HW Hx
            go_wp2_with fail
            go_loopw [13, 22] (fun lv kv wz => ∃ (j : Nat) (lz : Int), j ≤ n0 ∧ kv = .int .i64 j ∧ lv = .int .i64 lz ∧ Hid (lz = (lf : Int) - (if (findR (l0.take j) ((x : Int), (y : Int), cc + 1)).isSome = true then 1 else 0) ∧ wz.heap[x3]? = some (.cells (ftL (ftO (findR (l0.take j) ((x : Int), (y : Int), cc + 1)))) 38) ∧ Fr (fun t => t = x3) W9 wz)) (fun _ kv _ => n0 - (intOf kv).toNat)
            case atStart => exact ⟨0, lf, Nat.zero_le _, rfl, rfl, hidIn ⟨by rw [List.take_zero]; simp [findR], by rw [List.take_zero]; exact HX3.out, Fr.refl _ _⟩⟩
            case round =>
              obtain ⟨j, lz, hj, rfl, rfl, HZ⟩ := hrel
              have hlz : -1 ≤ lz ∧ lz ≤ 64 := by
                have := HZ.out.1
                split at this <;> omega
              have hWdr := HWd9.out.other HZ.out.2.2 HN3.out H35.out
              have HWdr := hidIn hWdr
              clear hWdr
              by_cases hlj : j < n0
              · have hji : (j : Int) < (n0 : Int) := by omega
                obtain ⟨⟨r0, r1, r2, r3, r4⟩, hr⟩ : ∃ r, l0[j]? = some r := ⟨l0[j]'(by have := Hn0.out; omega), List.getElem?_eq_getElem _⟩
                obtain ⟨bk2, o2, rfl, hc5⟩ := HIn.out j _ hr
                obtain ⟨q0, q1, q2, q3, q4⟩ := hc5 _ HWdr.out.wf
                simp only at q0 q1 q2 q3 q4
                have hcell : wr.cell? ⟨b, d, none⟩ = some (.int .i64 (cc + 1)) := by
                  rw [HWdr.out.wb.cell, ← Hd.out, c5_get c' (by omega) (by omega), ← Hc'.out]
                  simp [put2]
                obtain ⟨W10, hW10⟩ : ∃ W10, wr.alloc (.cells #[.int .i64 r0, .int .i64 r1, .int .i64 r2, .int .i64 r3, .int .i64 r4] 32) = W10 := ⟨_, rfl⟩
                have b10 : Below wr.heap.size wr W10 := by rw [← hW10]; exact (Below.refl _ wr).alloc (Nat.le_refl _) _
                obtain ⟨x4, hx4⟩ : ∃ x4, wr.heap.size = x4 := ⟨_, rfl⟩
                have hX4 : W10.heap[x4]? = some (.cells #[.int .i64 r0, .int .i64 r1, .int .i64 r2, .int .i64 r3, .int .i64 r4] 32) := by rw [← hW10, ← hx4]; exact heap_alloc_last wr _
                have hX3 := (b10.block _ (block_lt HZ.out.2.1)).trans HZ.out.2.1
                have HF10 := hidIn (HZ.out.2.2.trans (Fr.of_below b10))
                have HX3r := hidIn hX3
                have HX4 := hidIn hX4
                have w0 := cell_regrown (cell_of_row _ _ 0 _ _ _ hX4)
                have w1 := cell_regrown (cell_of_row _ _ 1 _ _ _ hX4)
                have w2 := cell_regrown (cell_of_row _ _ 2 _ _ _ hX4)
                have w3 := cell_regrown ((b10.cell (p := ⟨b, d, none⟩) HWdr.out.wb.lt).trans hcell)
                simp at w0 w1 w2
                have HFx : Hid (x3 < x4) := hidIn (by rw [← hx4]; exact block_lt HZ.out.2.1)
                have HLz := hidIn HZ.out.1
                have Hr := hidIn hr
                have HW10 := hidIn hW10
                have Hx4 := hidIn hx4
                clear HZ hc5 hcell hW10 b10 hx4 hX4 hX3 hr
                go_upto_region 28 with fail
                rw [HW10.out, Hx4.out]
                clear HW10 Hx4 q0 q1 q2 q3 q4
                obtain ⟨e1, he1⟩ : ∃ e, (r0 != (x : Int)) = e := ⟨_, rfl⟩
                obtain ⟨e2, he2⟩ : ∃ e, (r1 != (y : Int)) = e := ⟨_, rfl⟩
                obtain ⟨e3, he3⟩ : ∃ e, (r2 != cc + 1) = e := ⟨_, rfl⟩
                have HE : Hid (kR (r0, r1, r2, r3, r4) = ((x : Int), (y : Int), cc + 1) ↔ (e1 = false ∧ e2 = false ∧ e3 = false)) := hidIn (by
                  rw [← he1, ← he2, ← he3]
                  simp [kR])
                have HNo : Hid (¬ (e1 = false ∧ e2 = false ∧ e3 = false) → findR (l0.take (j + 1)) ((x : Int), (y : Int), cc + 1) = findR (l0.take j) ((x : Int), (y : Int), cc + 1)) := hidIn (fun hne => by
                  rw [find_take Hr.out, if_neg (fun h => hne (HE.out.1 h)), Option.or_none])
                cases e1 with
                | true =>
                  clear he2 he3 w1 w2 w3
                  refine wp_region_quiet_below (by kernel_rfl) (by kernel_rfl) ?_
                  repeat (go_big_quiet_step (fail))
                  refine wpQuiet_nil ?_
                  intro _ hw'
                  obtain ⟨⟨dq, osq⟩, hw''⟩ := hw'
                  subst hw''
                  have hq5 := below_regrown W10 dq osq
                  generalize Go.Sort.grow (redrawn W10 dq) osq = W5x at hq5 ⊢
                  have HX3n := hidIn ((hq5.block _ (block_lt HX3r.out)).trans HX3r.out)
                  have HFn := hidIn (HF10.out.trans (Fr.of_below hq5))
                  have HNn := hidIn (HNo.out (by simp))
                  clear hq5
                  go_wp2_with fail
                  go_roundw
                  case rel => exact ⟨j + 1, lz, by omega, by go_num, rfl, hidIn ⟨by rw [HNn.out]; exact HLz.out, by rw [HNn.out]; exact HX3n.out, HFn.out⟩⟩
                  case measure => simp [intOf]; omega
                | false =>
                  cases e2 with
                  | true =>
                    clear he3 w2 w3
                    refine wp_region_quiet_below (by kernel_rfl) (by kernel_rfl) ?_
                    repeat (go_big_quiet_step (fail))
                    refine wpQuiet_nil ?_
                    intro _ hw'
                    obtain ⟨⟨dq, osq⟩, hw''⟩ := hw'
                    subst hw''
                    have hq5 := below_regrown W10 dq osq
                    generalize Go.Sort.grow (redrawn W10 dq) osq = W5x at hq5 ⊢
                    have HX3n := hidIn ((hq5.block _ (block_lt HX3r.out)).trans HX3r.out)
                    have HFn := hidIn (HF10.out.trans (Fr.of_below hq5))
                    have HNn := hidIn (HNo.out (by simp))
                    clear hq5
                    go_wp2_with fail
                    go_roundw
                    case rel => exact ⟨j + 1, lz, by omega, by go_num, rfl, hidIn ⟨by rw [HNn.out]; exact HLz.out, by rw [HNn.out]; exact HX3n.out, HFn.out⟩⟩
                    case measure => simp [intOf]; omega
                  | false =>
                    cases e3 with
                    | true =>
                      refine wp_region_quiet_below (by kernel_rfl) (by kernel_rfl) ?_
                      repeat (go_big_quiet_step (fail))
                      refine wpQuiet_nil ?_
                      intro _ hw'
                      obtain ⟨⟨dq, osq⟩, hw''⟩ := hw'
                      subst hw''
                      have hq5 := below_regrown W10 dq osq
                      generalize Go.Sort.grow (redrawn W10 dq) osq = W5x at hq5 ⊢
                      have HX3n := hidIn ((hq5.block _ (block_lt HX3r.out)).trans HX3r.out)
                      have HFn := hidIn (HF10.out.trans (Fr.of_below hq5))
                      have HNn := hidIn (HNo.out (by simp))
                      clear hq5
                      go_wp2_with fail
                      go_roundw
                      case rel => exact ⟨j + 1, lz, by omega, by go_num, rfl, hidIn ⟨by rw [HNn.out]; exact HLz.out, by rw [HNn.out]; exact HX3n.out, HFn.out⟩⟩
                      case measure => simp [intOf]; omega
                    | false =>
                      have HK : Hid (kR (r0, r1, r2, r3, r4) = ((x : Int), (y : Int), cc + 1)) := hidIn (HE.out.2 ⟨rfl, rfl, rfl⟩)
                      have HNone : Hid (findR (l0.take j) ((x : Int), (y : Int), cc + 1) = none) := hidIn (by rw [← HK.out]; exact find_before Hok.out Hr.out)
                      have HSome : Hid (findR (l0.take (j + 1)) ((x : Int), (y : Int), cc + 1) = some (r0, r1, r2, r3, r4)) := hidIn (by rw [find_take Hr.out, HNone.out, if_pos HK.out]; rfl)
                      have hkd := ru_kind (Hok.out.ok _ (List.mem_of_getElem? Hr.out))
                      have HLz' : Hid (lz - 1 = (lf : Int) - (if (findR (l0.take (j + 1)) ((x : Int), (y : Int), cc + 1)).isSome = true then 1 else 0)) := hidIn (by
                        have := HLz.out
                        rw [HNone.out] at this
                        rw [HSome.out]
                        simp at this ⊢
                        omega)
                      refine wp_region_quiet_below (by kernel_rfl) (by kernel_rfl) ?_
                      repeat (go_big_quiet_step (fail))
                      refine wpQuiet_nil ?_
                      intro _ hw'
                      obtain ⟨⟨dq, osq⟩, hw''⟩ := hw'
                      subst hw''
                      have hq5 := below_regrown W10 dq osq
                      generalize Go.Sort.grow (redrawn W10 dq) osq = W5x at hq5 ⊢
                      have hX3n := (hq5.block _ (block_lt HX3r.out)).trans HX3r.out
                      have hX4n := (hq5.block _ (block_lt HX4.out)).trans HX4.out
                      have HFn := hidIn (HF10.out.trans (Fr.of_below hq5))
                      clear hq5
                      clear w0 w1 w2 w3 he1 he2 he3
                      have c3 := cell_of_row _ _ 3 _ _ _ hX4n
                      have c4 := cell_of_row _ _ 4 _ _ _ hX4n
                      have d0 := cell_of_row _ _ 0 _ _ _ hX3n
                      have d1 := cell_of_row _ _ 1 _ _ _ hX3n
                      have d2 := cell_of_row _ _ 2 _ _ _ hX3n
                      have g0 := frozen_new hX3n 0
                      have g1 := frozen_new hX3n 1
                      have g2 := frozen_new hX3n 2
                      have hne : x4 ≠ x3 := by have := block_lt HX3r.out; have := HFx.out; omega
                      have hne' : x3 ≠ x4 := fun h => hne h.symm
                      have HX3n := hidIn hX3n
                      simp at c3 c4 d0 d1 d2
                      have hwl : IntKind.i64.wrap (lz - 1) = lz - 1 := by rw [IntKind.wrap_i64]; omega
                      clear hX3n hX4n HLz HNone HE HNo
                      rcases hkd with h3 | h3 | h3
                      · obtain rfl : r3 = 1 := h3
                        have HBy : Hid (ftO (findR (l0.take (j + 1)) ((x : Int), (y : Int), cc + 1)) = (0, 0, 0)) := hidIn (by rw [HSome.out]; rfl)
                        go_wp2_with fail
                        go_roundw
                        case rel =>
                          refine ⟨j + 1, lz - 1, by omega, by go_num, rfl, hidIn ⟨HLz'.out, ?_, ?_⟩⟩
                          · rw [HBy.out]
                            exact set_ft (set_ft (HX3n.out))
                          · exact fr_ft (S := fun t => t = x3) (fr_ft (S := fun t => t = x3) (HFn.out) rfl _ _ _) rfl _ _ _
                        case measure => simp [intOf]; omega
                      · obtain rfl : r3 = 2 := h3
                        have HBy : Hid (ftO (findR (l0.take (j + 1)) ((x : Int), (y : Int), cc + 1)) = (2, 0, r4)) := hidIn (by rw [HSome.out]; rfl)
                        go_wp2_with fail
                        go_roundw
                        case rel =>
                          refine ⟨j + 1, lz - 1, by omega, by go_num, rfl, hidIn ⟨HLz'.out, ?_, ?_⟩⟩
                          · rw [HBy.out]
                            exact set_ft (set_ft (HX3n.out))
                          · exact fr_ft (S := fun t => t = x3) (fr_ft (S := fun t => t = x3) (HFn.out) rfl _ _ _) rfl _ _ _
                        case measure => simp [intOf]; omega
                      · obtain rfl : r3 = 3 := h3
                        have HBy : Hid (ftO (findR (l0.take (j + 1)) ((x : Int), (y : Int), cc + 1)) = (1, r4, 0)) := hidIn (by rw [HSome.out]; rfl)
                        go_wp2_with fail
                        go_roundw
                        case rel =>
                          refine ⟨j + 1, lz - 1, by omega, by go_num, rfl, hidIn ⟨HLz'.out, ?_, ?_⟩⟩
                          · rw [HBy.out]
                            exact set_ft (HX3n.out)
                          · exact fr_ft (S := fun t => t = x3) (HFn.out) rfl _ _ _
                        case measure => simp [intOf]; omega
              · have hje : j = n0 := by omega
                have hji : ¬ (j : Int) < (n0 : Int) := by omega
                have htk : l0.take j = l0 := by rw [hje, ← Hn0.out, List.take_length]
                obtain ⟨lf', hlf'⟩ : ∃ lf', (restR l0 c').length = lf' := ⟨_, rfl⟩
                have hlz' : lz = (lf' : Int) := by
                  have h1 := HZ.out.1
                  rw [htk] at h1
                  have h2 := rest_len Hok.out c (a := x) (b := y)
                  rw [Hcc.out, Hc'.out, Hlf.out, hlf', ← h1] at h2
                  exact h2.symm
                have hX3 := HZ.out.2.1
                rw [htk, Hf.out] at hX3
                have hX1 := (HZ.out.2.2.block _ (block_lt HX1.out) (by have := HN13.out; omega)).trans HX1.out
                have hcell : wr.cell? ⟨b, d, none⟩ = some (.int .i64 (cc + 1)) := by
                  rw [HWdr.out.wb.cell, ← Hd.out, c5_get c' (by omega) (by omega), ← Hc'.out]
                  simp [put2]
                have HLf : Hid (∀ dq osq, Calls Try.prog 14 #[pp P] (Go.Sort.grow (redrawn wr dq) osq) fun e w' => e = .returned (.int .i64 (lf' : Int)) ∧ Below (Go.Sort.grow (redrawn wr dq) osq).heap.size (Go.Sort.grow (redrawn wr dq) osq) w') := hidIn fun dq osq => by
                  have := fleft_any (HWdr.out.below (below_regrown wr dq osq)).wp
                  rw [hlf'] at this
                  exact this.mono fun e w' h => ⟨h.1, by rw [h.2]; exact Below.refl _ _⟩
                have HAk : Hid (∀ dq osq, Calls Try.prog 12 #[pp P, .int .i64 (x : Int), .int .i64 (y : Int)] (Go.Sort.grow (redrawn wr dq) osq) fun e w' => e = .returned (.int .i64 (cc + 1)) ∧ Below (Go.Sort.grow (redrawn wr dq) osq).heap.size (Go.Sort.grow (redrawn wr dq) osq) w') := hidIn fun dq osq => by
                  have := fasked_yes (HWdr.out.below (below_regrown wr dq osq)).wp.b Hp.out
                  rw [show c' x y = cc + 1 from by rw [← Hc'.out]; simp [put2]] at this
                  exact this.mono fun e w' h => ⟨h.1, by rw [h.2]; exact Below.refl _ _⟩
                have Hlf' := hidIn hlf'
                have w0 := cell_regrown hcell
                have u0 := cell_regrown (cell_of_row _ _ 0 _ _ _ hX3)
                have u1 := cell_regrown (cell_of_row _ _ 1 _ _ _ hX3)
                have u2 := cell_regrown (cell_of_row _ _ 2 _ _ _ hX3)
                have a0 := cell_regrown (cell_of_row _ _ 0 _ _ _ hX1)
                have a1 := cell_regrown (cell_of_row _ _ 1 _ _ _ hX1)
                have a2 := cell_regrown (cell_of_row _ _ 2 _ _ _ hX1)
                simp [ftL] at u0 u1 u2 a0 a1 a2
                have hq := fun a0 a1 a2 b0 b1 b2 w => eq_Ft a0 a1 a2 b0 b1 b2 w
                rw [hlz']
                clear hje htk hlf' hlz' hX3 hX1 hcell HZ HX1 HX3 hlz
                go_upto_region 35 with fail
                refine wp_region_quiet_below (by kernel_rfl) (by kernel_rfl) ?_
                repeat (go_big_quiet_step (first | (go_at_call 14; exact Calls.regrown_of (HLf.out _ _)) | (go_at_call 12; exact Calls.regrown_of (HAk.out _ _))))
                refine wpQuiet_nil ?_
                intro _ hw'
                obtain ⟨⟨dq, osq⟩, hw''⟩ := hw'
                subst hw''
                have hq5 := below_regrown wr dq osq
                generalize Go.Sort.grow (redrawn wr dq) osq = W5x at hq5 ⊢
                have HWdn := hidIn (HWdr.out.below hq5)
                clear hq w0 u0 u1 u2 a0 a1 a2 hq5
                go_wp2_with fail
                go_roundw
                case rel => exact ⟨k + 1, c', by omega, by omega, by go_num, by rw [Hlf'.out], hidIn ⟨HWdn.out, fun x9 y9 => by
                  rw [← Hc'.out]
                  have := Hbd.out x9 y9
                  unfold put2
                  split <;> omega⟩⟩
                case measure => simp [intOf]; omega
        · have hB := HB5.out.2 _ HR.out.1.wf
          have HBq := hidIn hB
          have HZ : Hid (w.heap.size ≤ wr.heap.size) := hidIn hB.size
          clear hB
          by_cases h1 : k < na
          · have h1i : (k : Int) < (na : Int) := by omega
            have h2i : ¬ (k : Int) < 80 := by omega
            clear hlt
            go_wp2_with fail
            refine (fworks_any wr).mono ?_
            rintro e w9 ⟨rfl, hb9⟩
            have HB9 := hidIn (HBq.out.trans (hb9.mono HZ.out))
            clear hb9
            go_wp2_with fail
            go_returns
            exact ⟨rfl, HB9.out⟩
          · have h1i : ¬ (k : Int) < (na : Int) := by omega
            clear hlt
            go_wp2_with fail
            refine (fworks_any wr).mono ?_
            rintro e w9 ⟨rfl, hb9⟩
            have HB9 := hidIn (HBq.out.trans (hb9.mono HZ.out))
            clear hb9
            go_wp2_with fail
            go_returns
            exact ⟨rfl, HB9.out⟩
end Go.Proofs.Ytkkgbcoclfpicaa.Fa
