/- FatePlays: the walk. -/
import Derived.Test.YtkkgbcoclfpicaaFP4
namespace Go.Proofs.Ytkkgbcoclfpicaa.Fa
open Go.RowKit

set_option maxRecDepth 100000 in
set_option maxHeartbeats 40000000 in
theorem fatePlays_walk {L0 : List Ru} {A : List (Int × Int)} {v u : Value} {w : World} (h : SlAt ruC 5 w v L0) (hn : NilOk v) (hlen : (L0.length + 1) * 40 ≤ 140737488355328) (g : SlAt i2C 2 w u A) (hAl : A.length ≤ 140737488355328) :
    Calls Try.prog 3 #[v, u] w fun e w' => e = .returned (.bool true) ∧ Below w.heap.size w w' := by
  obtain ⟨a, cap, rfl, hN9, hat⟩ := SlAt_rus h
  have hcap : L0.length ≤ cap := by
    obtain ⟨a', cap', he, _, hc, _⟩ := h
    simp at he
    omega
  have HS := hidIn (slAt_first h 66)
  obtain ⟨ua, uc, rfl, hce⟩ := SlAt_i2 g
  have HCA := hidIn hce
  obtain ⟨na, hna⟩ : ∃ na, A.length = na := ⟨_, rfl⟩
  rw [hna] at HCA hAl ⊢
  have Hna := hidIn hna
  obtain ⟨N, hN⟩ : ∃ N, L0.length = N := ⟨_, rfl⟩
  rw [hN] at hat hn hlen hcap hN9 ⊢
  have HN := hidIn hN
  have Hn := hidIn hn
  have Hat := hidIn hat
  obtain ⟨n, hnn⟩ : ∃ n, (L0.take 66).length = n := ⟨_, rfl⟩
  have hnm : n = min 66 N := by rw [← hnn, List.length_take, hN]
  obtain ⟨l, hl⟩ : ∃ l, L0.take 66 = l := ⟨_, rfl⟩
  rw [hl] at HS hnn
  rw [hnn] at HS
  have Hl := hidIn hl
  have Hnn := hidIn hnn
  have hn66 : n ≤ 66 := by omega
  clear h g hat hce hna hN hn hl hnn
  go_enter Try.func3, Try.ntmps3
  go_upto_region 1 with fail
  go_cut [0] (fun x wx => x = .slice a n cap ∧ wx = w)
  case first =>
    rcases Hn.out with ⟨ad, m, c, he⟩ | he
    · simp at he
      obtain ⟨rfl, rfl, rfl⟩ := he
      obtain ⟨b9, o9, s9⟩ := ad
      by_cases h66 : N ≤ 66
      · have HnN : Hid (n = N) := hidIn (by omega)
        have hmi : min (N : Int) 66 = (N : Int) := by omega
        have hle : (N : Int) ≤ (cap : Int) := by omega
        have hNi : (N : Int) ≤ 66 := by omega
        clear hnm Hnn HS
        go_wp2_with fail
        go_meet
        exact ⟨by rw [HnN.out], rfl⟩
      · have HnN : Hid (n = 66) := hidIn (by omega)
        have hmi : min (N : Int) 66 = 66 := by omega
        have hle : (66 : Int) ≤ (cap : Int) := by omega
        have hle' : 66 ≤ cap := by omega
        have hNi : ¬ (N : Int) ≤ 66 := by omega
        clear hnm Hnn HS
        go_wp2_with fail
        go_meet
        exact ⟨by rw [HnN.out], rfl⟩
    · simp at he
      obtain ⟨rfl, rfl, rfl⟩ := he
      have HnN : Hid (n = 0) := hidIn (by omega)
      clear hnm Hnn HS hcap
      go_wp2_with fail
      go_meet
      exact ⟨by rw [HnN.out], rfl⟩
  case rest =>
    obtain ⟨rfl, hwc⟩ := hcut
    rw [hwc]
    clear hwc wc
    have hNil : NilOk (.slice a n cap) := by
      rcases Hn.out with ⟨ad, m, c, he⟩ | he
      · simp at he
        obtain ⟨rfl, rfl, rfl⟩ := he
        exact .inl ⟨_, _, _, rfl⟩
      · simp at he
        obtain ⟨rfl, rfl, rfl⟩ := he
        exact .inr (by rw [show n = 0 from by omega])
    obtain ⟨v2, w2, hrun, hrow, hb2, _⟩ := append_all (P := Try.prog) (cs := ruC) (sz := 5) (by' := 40) (W := w) (base := w.heap.size) (k := 0) (u := .slice none 0 0) (l := []) (m := l) (T := 22) (E := 32) (fun _ => rfl) (fun _ => by simp [Value.oneCell']) Try.underlying22 infoRu rfl (by decide) (World.ownsRow_nil w w.heap.size 32 5) HS.out (by have := Hnn.out; omega) (by have := Hnn.out; unfold maxLen; omega) (Nat.le_refl _) (by rcases hNil with h | h; exact .inl h; exact .inr ⟨h, rfl⟩)
    rw [List.nil_append, Nat.zero_add, Hnn.out] at hrow
    obtain ⟨a2, c2, rfl⟩ := row_shape hrow
    have HIn2 := hidIn (slAt_of_row (cs := ruC) (fun _ => rfl) hrow Hnn.out)
    have HL2 := hidIn (HS.out.keep hb2 (Nat.le_refl _))
    have HRow2 := hidIn hrow
    have HB2 := hidIn hb2
    have HRun := hidIn hrun
    obtain ⟨⟨cn, cc⟩, hchk⟩ : ∃ x, chkR l = x := ⟨_, rfl⟩
    have Hchk := hidIn hchk
    clear hrun hrow hb2 hchk hNil hnm Hat Hn HN Hl hlen hcap hN9
    go_upto_region 4 with (refine l_append rfl _ _ 22 rfl HRun.out ?_)
    clear HRun
    go_wp2_with fail
    refine (fcheck_any HIn2.out Hchk.out).mono ?_
    rintro e w3 ⟨rfl, hb3⟩
    have HIn3 := hidIn (HIn2.out.keep hb3 (Nat.le_refl _))
    have HL3 := hidIn (HL2.out.keep hb3 (Nat.le_refl _))
    have HRow3 := hidIn (row_below HRow2.out hb3 (Nat.le_refl _))
    have HB3 := hidIn (HB2.out.trans (hb3.mono HB2.out.size))
    clear hb3 HIn2 HL2 HRow2
    go_wp2_with fail
    refine (dchk_any HL3.out Hchk.out).mono ?_
    rintro e w4 ⟨rfl, hb4⟩
    have HIn4 := hidIn (HIn3.out.keep hb4 (Nat.le_refl _))
    have HL4 := hidIn (HL3.out.keep hb4 (Nat.le_refl _))
    have HRow4 := hidIn (row_below HRow3.out hb4 (Nat.le_refl _))
    have HB4 := hidIn (HB3.out.trans (hb4.mono HB3.out.size))
    clear hb4 HIn3 HL3 HRow3 HB3 HB2
    by_cases hc0 : cc = 0
    · subst hc0
      obtain ⟨hok, hcn⟩ := chk_ok Hchk.out
      subst hcn
      have Hok := hidIn hok
      clear hok
      go_wp2_with fail
      refine (fnew_ok HIn4.out Hchk.out).mono ?_
      rintro e w5 ⟨P, m, rfl, hP, hPl, hml, hb5⟩
      have HP5 := hidIn hP
      have HPl := hidIn hPl
      have Hml := hidIn hml
      have HRow5 := hidIn (row_below HRow4.out hb5 (Nat.le_refl _))
      have HL5 := hidIn (HL4.out.keep hb5 (Nat.le_refl _))
      have HOw : Hid (∀ j, (Value.slice a2 n c2).ownBlock = some j → w.heap.size ≤ j ∧ j < w4.heap.size) := hidIn fun j hj => HRow4.out.lt j hj
      have HB5 := hidIn (HB4.out.trans (hb5.mono HB4.out.size))
      have s5 := hb5.size
      have HS4 : Hid (w.heap.size ≤ w4.heap.size) := hidIn HB4.out.size
      have HLc : Hid (∀ j r, l[j]? = some r → ∃ bk o, a = some ⟨bk, o, none⟩ ∧ bk < w.heap.size ∧ w.cell? ⟨bk, o + j * 5, none⟩ = some (.int .i64 r.1) ∧ w.cell? ⟨bk, o + j * 5 + 1, none⟩ = some (.int .i64 r.2.1) ∧ w.cell? ⟨bk, o + j * 5 + 2, none⟩ = some (.int .i64 r.2.2.1) ∧ w.cell? ⟨bk, o + j * 5 + 3, none⟩ = some (.int .i64 r.2.2.2.1) ∧ w.cell? ⟨bk, o + j * 5 + 4, none⟩ = some (.int .i64 r.2.2.2.2)) := hidIn fun j r hr => by
        have hj := (List.getElem?_eq_some_iff.1 hr).1
        obtain ⟨a9, c9, h9, _, hsc⟩ := SlAt_rus HS.out
        simp at h9
        obtain ⟨rfl, _, rfl⟩ := h9
        obtain ⟨bk, o, rfl, hbk, hc⟩ := hsc (by omega)
        exact ⟨bk, o, rfl, hbk, hc j r hr⟩
      clear hP hPl hml hb5 HIn4 HRow4 HL4 HB4
      go_wp2_with fail
      go_loopw [11] (fun iv wr => ∃ k : Nat, k ≤ n ∧ iv = .int .i64 k ∧ Hid (wr.ownsRow w.heap.size 32 5 (.slice a2 n c2) n (fl ruC (List.replicate k zR5 ++ l.drop k)) ∧ Fr (fun t => (Value.slice a2 n c2).ownBlock = some t) w5 wr)) (fun iv _ => n - (intOf iv).toNat)
      case atStart => exact ⟨0, Nat.zero_le _, rfl, hidIn ⟨by rw [List.replicate_zero, List.nil_append, List.drop_zero]; exact HRow5.out, Fr.refl _ _⟩⟩
      case round =>
        clear HRow5
        obtain ⟨k, hk, rfl, HR⟩ := hrel
        by_cases hlt : k < n
        · have hki : (k : Int) < (n : Int) := by omega
          obtain ⟨⟨r0, r1, r2, r3, r4⟩, hr⟩ : ∃ r, l[k]? = some r := ⟨l[k]'(by have := Hnn.out; omega), List.getElem?_eq_getElem _⟩
          obtain ⟨bk, o, rfl, hbk, q0, q1, q2, q3, q4⟩ := HLc.out k _ hr
          obtain ⟨g, cg, hge, _⟩ := HR.out.1.form (by omega)
          simp at hge
          obtain ⟨rfl, rfl⟩ := hge
          obtain ⟨hg1, hg2⟩ := HOw.out g rfl
          have hlen5 : (List.replicate k zR5 ++ l.drop k).length = n := by rw [List.length_append, List.length_replicate, List.length_drop, Hnn.out]; omega
          obtain ⟨a9, c9, h9, _, hsc⟩ := SlAt_rus (slAt_of_row (cs := ruC) (fun _ => rfl) HR.out.1 hlen5)
          simp at h9
          obtain ⟨rfl, h9x, rfl⟩ := h9
          clear h9x
          obtain ⟨g8, o8, h8, _, hsc⟩ := hsc (by omega)
          simp at h8
          obtain ⟨rfl, rfl⟩ := h8
          obtain ⟨p0, p1, p2, p3, p4⟩ := hsc k _ (rep_get hr)
          have hF := HR.out.2
          have e : ∀ j, wr.cell? ⟨bk, j, none⟩ = w.cell? ⟨bk, j, none⟩ := fun j => by
            unfold World.cell?
            rw [hF.block bk (by have := HB5.out.size; omega) (by simp [Value.ownBlock]; omega), HB5.out.block bk hbk]
          have c0 := cell_regrown ((e _).trans q0)
          have c1 := cell_regrown ((e _).trans q1)
          have c2 := cell_regrown ((e _).trans q2)
          have c3 := cell_regrown ((e _).trans q3)
          have c4 := cell_regrown ((e _).trans q4)
          have p0 := cell_regrown p0
          have p1 := cell_regrown p1
          have p2 := cell_regrown p2
          have p3 := cell_regrown p3
          have p4 := cell_regrown p4
          rw [Nat.zero_add] at p0 p1 p2 p3 p4
          simp only at c0 c1 c2 c3 c4 p0 p1 p2 p3 p4
          have HRr := hidIn HR.out.1
          have HFr := hidIn hF
          have Hr := hidIn hr
          have Hlen5 := hidIn hlen5
          clear q0 q1 q2 q3 q4 hsc e hF hr hbk HR hlen5 hg1 hg2
          have hqr := fun a0 a1 a2 a3 a4 b0 b1 b2 b3 b4 w => eq_Ru a0 a1 a2 a3 a4 b0 b1 b2 b3 b4 w
          go_upto_region 14 with fail
          refine wp_region_quiet_below (by kernel_rfl) (by kernel_rfl) ?_
          repeat (go_big_quiet_step (fail))
          refine wpQuiet_nil ?_
          intro _ hw'
          obtain ⟨⟨dq, osq⟩, hw''⟩ := hw'
          subst hw''
          have hq5 := below_regrown wr dq osq
          generalize Go.Sort.grow (redrawn wr dq) osq = W5x at hq5 ⊢
          clear hqr c0 c1 c2 c3 c4 p0 p1 p2 p3 p4
          have hrow := row_below HRr.out hq5 (Nat.le_refl _)
          obtain ⟨cur, hcur⟩ := row_ty hrow (j := g) rfl
          have f0 := frozen_new hcur (k * 5)
          have f1 := frozen_new hcur (k * 5 + 1)
          have f2 := frozen_new hcur (k * 5 + 2)
          have f3 := frozen_new hcur (k * 5 + 3)
          have f4 := frozen_new hcur (k * 5 + 4)
          obtain ⟨a9, c9, h9, _, hsc⟩ := SlAt_rus (slAt_of_row (cs := ruC) (fun _ => rfl) hrow Hlen5.out)
          simp at h9
          obtain ⟨rfl, h9x, rfl⟩ := h9
          clear h9x
          obtain ⟨g8, o8, h8, _, hsc⟩ := hsc (by have := Hlen5.out; omega)
          simp at h8
          obtain ⟨rfl, rfl⟩ := h8
          obtain ⟨p0, p1, p2, p3, p4⟩ := hsc k _ (rep_get Hr.out)
          rw [Nat.zero_add] at p0 p1 p2 p3 p4
          simp only at p0 p1 p2 p3 p4
          have HRow9 := hidIn (row_set (row_set (row_set (row_set (row_set hrow (k * 5) (.int .i64 0)) (k * 5 + 1) (.int .i64 0)) (k * 5 + 2) (.int .i64 0)) (k * 5 + 3) (.int .i64 0)) (k * 5 + 4) (.int .i64 0))
          have e5 := fl_set5 zR5 (List.replicate k zR5 ++ l.drop k) k (by have := Hlen5.out; omega)
          rw [rep_set (by have := Hnn.out; omega)] at e5
          have HE5 := hidIn e5
          have HF5 := hidIn (HFr.out.trans (Fr.of_below hq5))
          clear hrow hcur hsc e5 hq5 HRr
          go_wp2_with fail
          go_roundw
          case rel =>
            refine ⟨k + 1, by omega, by go_num, hidIn ⟨?_, ?_⟩⟩
            · rw [← HE5.out]
              exact HRow9.out
            · exact Fr.set (Fr.set (Fr.set (Fr.set (Fr.set HF5.out (p := ⟨g, k * 5, none⟩) rfl _) (p := ⟨g, k * 5 + 1, none⟩) rfl _) (p := ⟨g, k * 5 + 2, none⟩) rfl _) (p := ⟨g, k * 5 + 3, none⟩) rfl _) (p := ⟨g, k * 5 + 4, none⟩) rfl _
          case measure => simp [intOf]; omega
        · have hki : ¬ (k : Int) < (n : Int) := by omega
          have hF := HR.out.2
          have s6 := hF.size
          have hP6 : PlAt wr P m l no2 := HP5.out.keep hF (fun h => by have := (HOw.out P h).2; have := HPl.out; omega) (fun h => by have := (HOw.out m h).2; have := Hml.out; omega)
          have hAo : ∀ j, 0 < l.length → (Value.slice a n cap).ownBlock = some j → j < w.heap.size := fun j hp hj => by
            obtain ⟨bk, o, rfl, hbk, _⟩ := HLc.out 0 (l[0]) (List.getElem?_eq_getElem hp)
            simp [Value.ownBlock] at hj
            omega
          have hL6 : SlAt ruC 5 wr (.slice a n cap) l := slAt_fr HL5.out hF (fun hp j hj h => by have := hAo j hp hj; have := (HOw.out j h).1; omega)
          have hB6 : Below w.heap.size w wr := HB5.out.trans (hF.below (by have := HB5.out.size; omega) (fun j hj => (HOw.out j hj).1))
          obtain ⟨W7, hW7⟩ : ∃ W7, wr.alloc (.cells #[.slice a n cap, .slice none 0 0] 35) = W7 := ⟨_, rfl⟩
          have b7 : Below wr.heap.size wr W7 := by rw [← hW7]; exact (Below.refl _ wr).alloc (Nat.le_refl _) _
          obtain ⟨x, hx⟩ : ∃ x, wr.heap.size = x := ⟨_, rfl⟩
          have hX : W7.heap[x]? = some (.cells #[.slice a n cap, .slice none 0 0] 35) := by rw [← hW7, ← hx]; exact heap_alloc_last wr _
          have hxs : w.heap.size ≤ P ∧ w.heap.size ≤ m ∧ w.heap.size ≤ x ∧ P < x ∧ m < x ∧ x < W7.heap.size := by
            have := HPl.out
            have := Hml.out
            have := hP6.b.lt
            have := hP6.m.lt
            have := hB6.size
            have := block_lt hX
            have h4 : w.heap.size ≤ w4.heap.size := by
              rcases Nat.eq_zero_or_pos n with h0 | h0
              · exact HS4.out
              · exact HS4.out
            omega
          have hM7 : Mn W7 W7 P m x (.slice a n cap) (.slice none 0 0) l [] :=
            ⟨by rw [cntF_nil, rest_new Hok.out]; exact hP6.below b7 (by have := hP6.b.lt; omega) (by have := hP6.m.lt; omega), ⟨hX, ⟨none, 0, rfl, by simp, by simp, fun h => by simp at h⟩, .inr rfl, by simp⟩, Fr.refl _ _, fun j hj => by simp [Value.ownBlock] at hj⟩
          have HB7 : Hid (∀ wq, Fr (fun t => t = P ∨ t = m ∨ t = x) W7 wq → Below w.heap.size w wq) := hidIn fun wq hq => (hB6.trans (b7.mono hB6.size)).trans (hq.below (by omega) (fun j hj => by omega))
          have HL7 : Hid (∀ wq, Fr (fun t => t = P ∨ t = m ∨ t = x) W7 wq → SlAt ruC 5 wq (.slice a n cap) l) := hidIn fun wq hq => slAt_fr (hL6.keep b7 (Nat.le_refl _)) hq (fun hp j hj h => by have := hAo j hp hj; omega)
          have HAs : Hid (∀ j p, A[j]? = some p → ∃ bk o, ua = some ⟨bk, o, none⟩ ∧ ∀ wq, Fr (fun t => t = P ∨ t = m ∨ t = x) W7 wq → wq.cell? ⟨bk, o + j * 2, none⟩ = some (.int .i64 p.1) ∧ wq.cell? ⟨bk, o + j * 2 + 1, none⟩ = some (.int .i64 p.2)) := hidIn fun j p hp => by
            have hjl := (List.getElem?_eq_some_iff.1 hp).1
            obtain ⟨g9, o9, rfl, hg9, hsc⟩ := HCA.out (by have := Hna.out; omega)
            refine ⟨g9, o9, rfl, fun wq hq => ?_⟩
            have hb := HB7.out wq hq
            obtain ⟨v0, v1⟩ := hsc j _ hp
            exact ⟨(hb.cell (p := ⟨g9, o9 + j * 2, none⟩) hg9).trans v0, (hb.cell (p := ⟨g9, o9 + j * 2 + 1, none⟩) hg9).trans v1⟩
          have HM7 := hidIn hM7
          have Hxs := hidIn hxs
          have HW7 := hidIn hW7
          have Hx := hidIn hx
          have HW7s : Hid (W7.heap.size ≤ x + 1) := hidIn (by rw [← hW7, ← hx]; simp)
          have Hl66 : Hid (l.length ≤ 64) := hidIn Hok.out.len
          clear hF s6 hP6 hAo hL6 hB6 b7 hX hxs hM7 hW7 hx HR HP5 HPl Hml HL5 HOw HB5 s5 HLc HCA
          go_upto_region 18 with fail
          rw [HW7.out, Hx.out]
          clear HW7 Hx
          go_wp2_with fail
          go_loopw [13] (fun iv wr => ∃ k : Nat, k ≤ 60 ∧ k ≤ na ∧ iv = .int .i64 k ∧ Hid (∃ As u, Mn W7 wr P m x (.slice a n cap) u l As ∧ As.length ≤ k)) (fun iv _ => 60 - (intOf iv).toNat)
          case atStart => exact ⟨0, by omega, by omega, rfl, hidIn ⟨[], _, HM7.out, by simp⟩⟩
          case round =>
            clear HM7
            obtain ⟨k, hk60, hkn, rfl, HR⟩ := hrel
            by_cases hlt : k < na ∧ k < 60
            · obtain ⟨hlt, hlt60⟩ := hlt
              have hki : (k : Int) < (na : Int) := by omega
              have hki60 : (k : Int) < 60 := by omega
              obtain ⟨⟨a0, b0⟩, hm⟩ : ∃ z, A[k]? = some z := ⟨A[k]'(by have := Hna.out; omega), List.getElem?_eq_getElem _⟩
              obtain ⟨bk, o, rfl, hce⟩ := HAs.out k _ hm
              obtain ⟨As, u, hM, hAl2⟩ := HR.out
              obtain ⟨q0, q1⟩ := hce _ hM.mf
              have q0 := cell_regrown q0
              have q1 := cell_regrown q1
              simp only at q0 q1
              have HM0 := hidIn hM
              have HAl2 := hidIn hAl2
              clear HR hm hce hM hAl2
              go_upto_region 21 with fail
              refine wp_region_quiet_below (by kernel_rfl) (by kernel_rfl) ?_
              repeat (go_big_quiet_step (fail))
              refine wpQuiet_nil ?_
              intro _ hw'
              obtain ⟨⟨dq, osq⟩, hw''⟩ := hw'
              subst hw''
              have hq5 := below_regrown wr dq osq
              generalize Go.Sort.grow (redrawn wr dq) osq = W5x at hq5 ⊢
              have HM := hidIn (HM0.out.below hq5)
              clear hq5 q0 q1 HM0
              obtain ⟨⟨f0, f1, f2⟩, hf⟩ : ∃ f, askF l As a0 b0 = f := ⟨_, rfl⟩
              obtain ⟨ec, hec⟩ : ∃ ec, askE a0 b0 = ec := ⟨_, rfl⟩
              obtain ⟨An, hAn⟩ : ∃ An, askA As a0 b0 = An := ⟨_, rfl⟩
              have HAsk : Hid (Calls Try.prog 10 #[pp P, .int .i64 a0, .int .i64 b0] W5x fun e w' => e = .returned (.tuple #[.agg #[.int .i64 f0, .int .i64 f1, .int .i64 f2], .int .i64 ec]) ∧ PlAt w' P m (restR l (cntF An)) (cntF An) ∧ Fr (fun j => j = P ∨ j = m) W5x w') := hidIn (by
                have := plan_ask Hok.out HM.out.mp (by have := HAl2.out; omega) a0 b0
                rw [hf, hec, hAn] at this
                exact this)
              have HDoc : Hid (∀ wq, SlAt ruC 5 wq (.slice a n cap) l → SlAt i2C 2 wq u As → NilOk u → Calls Try.prog 11 #[.agg #[.slice a n cap, u], .int .i64 a0, .int .i64 b0] wq fun e w' => ∃ u', e = .returned (.tuple #[.agg #[.slice a n cap, u'], .agg #[.int .i64 f0, .int .i64 f1, .int .i64 f2], .int .i64 ec]) ∧ SlAt i2C 2 w' u' An ∧ NilOk u' ∧ ((u' = u ∧ An = As) ∨ ∀ j, u'.ownBlock = some j → wq.heap.size ≤ j) ∧ Below wq.heap.size wq w') := hidIn (fun wq g1 g2 g3 => by
                have := doc_ask Hok.out g1 g2 g3 (by have := HAl2.out; omega) a0 b0
                rw [hf, hec, hAn] at this
                exact this)
              have HAn : Hid (An.length ≤ k + 1 ∧ ∀ p ∈ An, isP p.1 p.2 = true) := hidIn (by
                rw [← hAn]
                exact ⟨by have := askA_len As a0 b0; have := HAl2.out; omega, askA_ok HM.out.mo.op a0 b0⟩)
              clear hf hec hAn
              go_wp2_with fail
              refine HAsk.out.mono ?_
              rintro e v1 ⟨rfl, hP, hF⟩
              have hO1 : Ow v1 x (.slice a n cap) u As := by
                have hx := Hxs.out
                have hm := HM.out
                exact ⟨(hF.block x (block_lt hm.mo.ob) (by omega)).trans hm.mo.ob, slAt_fr hm.mo.ou hF (fun _ j hj h => by have := hm.mq j hj; omega), hm.mo.on, hm.mo.op⟩
              have hf1 : Fr (fun t => t = P ∨ t = m ∨ t = x) W7 v1 := HM.out.mf.trans (hF.mono (fun j _ hj => by omega))
              have Hu : Hid ((0 < As.length → ∀ j, u.ownBlock = some j → j < v1.heap.size) ∧ ∀ j, u.ownBlock = some j → j ≠ P ∧ j ≠ m ∧ j ≠ x) := hidIn ⟨fun hp j hj => by
                obtain ⟨a9, c9, rfl, _, _, h9⟩ := hO1.ou
                obtain ⟨b9, o9, rfl, hb9, _⟩ := h9 hp
                simp [Value.ownBlock] at hj
                omega, HM.out.mq⟩
              obtain ⟨W8, hW8⟩ : ∃ W8, v1.alloc (.cells #[.int .i64 f0, .int .i64 f1, .int .i64 f2] 38) = W8 := ⟨_, rfl⟩
              have b8 : Below v1.heap.size v1 W8 := by rw [← hW8]; exact (Below.refl _ v1).alloc (Nat.le_refl _) _
              obtain ⟨x6, hx6⟩ : ∃ x6, v1.heap.size = x6 := ⟨_, rfl⟩
              have hX6 : W8.heap[x6]? = some (.cells #[.int .i64 f0, .int .i64 f1, .int .i64 f2] 38) := by rw [← hW8, ← hx6]; exact heap_alloc_last v1 _
              obtain ⟨W9, hW9⟩ : ∃ W9, W8.alloc (.cells #[.int .i64 0, .int .i64 0, .int .i64 0] 38) = W9 := ⟨_, rfl⟩
              have b9 : Below W8.heap.size W8 W9 := by rw [← hW9]; exact (Below.refl _ W8).alloc (Nat.le_refl _) _
              obtain ⟨x8, hx8⟩ : ∃ x8, W8.heap.size = x8 := ⟨_, rfl⟩
              have hX8 : W9.heap[x8]? = some (.cells #[.int .i64 0, .int .i64 0, .int .i64 0] 38) := by rw [← hW9, ← hx8]; exact heap_alloc_last W8 _
              have h68 : x6 < x8 := by rw [← hx8]; exact block_lt hX6
              have hx16 : x < x6 := by rw [← hx6]; exact block_lt hO1.ob
              have HX6 := hidIn ((b9.block x6 (block_lt hX6)).trans hX6)
              have HX8 := hidIn hX8
              have hO8 := hO1.below b8
              have HO9 := hidIn (hO8.below b9)
              have hf9 := (hf1.trans (Fr.of_below b8)).trans (Fr.of_below b9)
              have HF9 := hidIn hf9
              have hP8 := hP.below b8 hP.b.lt hP.m.lt
              have HP9 := hidIn (hP8.below b9 hP8.b.lt hP8.m.lt)
              have HS9 : Hid (x6 < x8 ∧ x < x6 ∧ v1.heap.size ≤ x6) := hidIn ⟨h68, hx16, by omega⟩
              have HW8 := hidIn hW8
              have HW9 := hidIn hW9
              have Hx6 := hidIn hx6
              have Hx8 := hidIn hx8
              clear hP hF hO1 hf1 hW8 b8 hx6 hX6 hW9 b9 hx8 hX8 h68 hx16 hO8 hf9 hP8 HM HAsk
              go_upto_region 23 with fail
              rw [HW8.out, Hx6.out]
              go_upto_region 24 with fail
              rw [HW9.out, Hx8.out]
              clear HW8 Hx6 HW9 Hx8
              have c0 := cell_of_row _ _ 0 _ _ _ HO9.out.ob
              have c1 := cell_of_row _ _ 1 _ _ _ HO9.out.ob
              simp at c0 c1
              go_wp2_with fail
              refine (HDoc.out W9 (HL7.out _ HF9.out) HO9.out.ou HO9.out.on).mono ?_
              rintro e w10 ⟨u', rfl, hU', hN', hown, hb10⟩
              obtain ⟨ua', uc', hue, _⟩ := SlAt_i2 hU'
              obtain ⟨un, hun⟩ : ∃ un, An.length = un := ⟨_, rfl⟩
              rw [hun] at hue
              subst hue
              clear hun
              have hob := (hb10.block x (block_lt HO9.out.ob)).trans HO9.out.ob
              have h86 := (hb10.block x6 (block_lt HX6.out)).trans HX6.out
              have h88 := (hb10.block x8 (block_lt HX8.out)).trans HX8.out
              obtain ⟨z1, z2, z3⟩ := fin_ok hob h88 (by have := HS9.out; omega) (.slice a n cap) (.slice ua' un uc') (.int .i64 f0) (.int .i64 f1) (.int .i64 f2)
              have d0 := cell_of_row _ _ 0 _ _ _ hob
              have d1 := cell_of_row _ _ 1 _ _ _ hob
              have g0 := frozen_new hob 0
              have g1 := frozen_new hob 1
              have k0 := cell_of_row _ _ 0 _ _ _ h88
              have k1 := cell_of_row _ _ 1 _ _ _ h88
              have k2 := cell_of_row _ _ 2 _ _ _ h88
              have m0 := frozen_new h88 0
              have m1 := frozen_new h88 1
              have m2 := frozen_new h88 2
              simp at d0 d1 k0 k1 k2
              have hsx := HS9.out
              have hxs := Hxs.out
              have hnx : x8 ≠ x := by omega
              have hnx' : x ≠ x8 := by omega
              have hP10 := HP9.out.below hb10 HP9.out.b.lt HP9.out.m.lt
              have hM11 : Mn W7 (finW w10 x x8 (.slice a n cap) (.slice ua' un uc') (.int .i64 f0) (.int .i64 f1) (.int .i64 f2)) P m x (.slice a n cap) (.slice ua' un uc') l An := by
                refine ⟨hP10.keep z3 (by omega) (by omega), ⟨z1, slAt_fr hU' z3 (fun hp j hj h => ?_), hN', HAn.out.2⟩, ?_, fun j hj => ?_⟩
                · rcases hown with ⟨rfl, rfl⟩ | h9
                  · have h1 := Hu.out.1 hp j hj
                    have h2 := Hu.out.2 j hj
                    omega
                  · have h1 := h9 j hj
                    have h2 := block_lt HX8.out
                    omega
                · have hf10 := HF9.out.trans (Fr.of_below hb10)
                  have hws := HF9.out.size
                  have h2 := block_lt HX8.out
                  refine ⟨z3.os.trans hf10.os, z3.tape.trans hf10.tape, z3.output.trans hf10.output, Nat.le_trans hf10.size z3.size, fun j hj hs => ?_⟩
                  exact (z3.block j (Nat.lt_of_lt_of_le hj hf10.size) (by have := HW7s.out; omega)).trans (hf10.block j hj hs)
                · rcases hown with ⟨rfl, rfl⟩ | h9
                  · exact Hu.out.2 j hj
                  · have h1 := h9 j hj
                    have h2 := block_lt HX8.out
                    omega
              have h86' := (z3.block x6 (block_lt h86) (by omega)).trans h86
              obtain ⟨W11, hW11⟩ : ∃ W11, ((((w10.setCell ⟨x, 0, none⟩ (.slice a n cap)).setCell ⟨x, 1, none⟩ (.slice ua' un uc')).setCell ⟨x8, 0, none⟩ (.int .i64 f0)).setCell ⟨x8, 1, none⟩ (.int .i64 f1)).setCell ⟨x8, 2, none⟩ (.int .i64 f2) = W11 := ⟨_, rfl⟩
              rw [show finW w10 x x8 (.slice a n cap) (.slice ua' un uc') (.int .i64 f0) (.int .i64 f1) (.int .i64 f2) = W11 from hW11] at hM11 h86' z2
              have HM11 := hidIn hM11
              have HX6n := hidIn h86'
              have HX8n := hidIn z2
              have HW11 := hidIn hW11
              clear hob h86 h88 z1 z2 z3 hsx hxs hP10 hM11 h86' hW11 hU' hN' hown hb10 HP9 HF9 HO9 HX6 HX8 HDoc Hu
              go_upto_region 26 with fail
              rw [HW11.out]
              clear HW11 c0 c1 d0 d1 g0 g1 k0 k1 k2 m0 m1 m2
              obtain ⟨z, hz⟩ : ∃ z, cntP An a0 b0 = z := ⟨_, rfl⟩
              obtain ⟨lf, hlf⟩ : ∃ lf, (restR l (cntF An)).length = lf := ⟨_, rfl⟩
              have HC1 : Hid (∀ dq osq, Calls Try.prog 12 #[pp P, .int .i64 a0, .int .i64 b0] (Go.Sort.grow (redrawn W11 dq) osq) fun e w' => e = .returned (.int .i64 (z : Int)) ∧ Below (Go.Sort.grow (redrawn W11 dq) osq).heap.size (Go.Sort.grow (redrawn W11 dq) osq) w') := hidIn fun dq osq => by
                have := plan_asked (HM11.out.below (below_regrown W11 dq osq)).mp HAn.out.2 a0 b0
                rw [hz] at this
                exact this.mono fun e w' h => ⟨h.1, by rw [h.2]; exact Below.refl _ _⟩
              have HC2 : Hid (∀ dq osq, Calls Try.prog 13 #[.agg #[.slice a n cap, .slice ua' un uc'], .int .i64 a0, .int .i64 b0] (Go.Sort.grow (redrawn W11 dq) osq) fun e w' => e = .returned (.int .i64 (z : Int)) ∧ Below (Go.Sort.grow (redrawn W11 dq) osq).heap.size (Go.Sort.grow (redrawn W11 dq) osq) w') := hidIn fun dq osq => by
                have := dcount_any (ra := a) (rn := n) (rc := cap) (HM11.out.below (below_regrown W11 dq osq)).mo.ou (by have := HAn.out.1; omega) a0 b0
                rw [hz] at this
                exact this
              have HC3 : Hid (∀ dq osq, Calls Try.prog 14 #[pp P] (Go.Sort.grow (redrawn W11 dq) osq) fun e w' => e = .returned (.int .i64 (lf : Int)) ∧ Below (Go.Sort.grow (redrawn W11 dq) osq).heap.size (Go.Sort.grow (redrawn W11 dq) osq) w') := hidIn fun dq osq => by
                have := fleft_any (HM11.out.below (below_regrown W11 dq osq)).mp
                rw [hlf] at this
                exact this.mono fun e w' h => ⟨h.1, by rw [h.2]; exact Below.refl _ _⟩
              have HC4 : Hid (∀ dq osq, Calls Try.prog 15 #[.agg #[.slice a n cap, .slice ua' un uc']] (Go.Sort.grow (redrawn W11 dq) osq) fun e w' => e = .returned (.int .i64 (lf : Int)) ∧ Below (Go.Sort.grow (redrawn W11 dq) osq).heap.size (Go.Sort.grow (redrawn W11 dq) osq) w') := hidIn fun dq osq => by
                have hm := HM11.out.below (below_regrown W11 dq osq)
                have := dleft_any (HL7.out _ hm.mf) hm.mo.ou (by have := Hok.out.len; omega) (by have := HAn.out.1; omega)
                rw [left_eq Hok.out, hlf] at this
                exact this
              have x0 := cell_regrown (cell_of_row _ _ 0 _ _ _ HM11.out.mo.ob)
              have x1 := cell_regrown (cell_of_row _ _ 1 _ _ _ HM11.out.mo.ob)
              have y0 := cell_regrown (cell_of_row _ _ 0 _ _ _ HX6n.out)
              have y1 := cell_regrown (cell_of_row _ _ 1 _ _ _ HX6n.out)
              have y2 := cell_regrown (cell_of_row _ _ 2 _ _ _ HX6n.out)
              have w0 := cell_regrown (cell_of_row _ _ 0 _ _ _ HX8n.out)
              have w1 := cell_regrown (cell_of_row _ _ 1 _ _ _ HX8n.out)
              have w2' := cell_regrown (cell_of_row _ _ 2 _ _ _ HX8n.out)
              simp at x0 x1 y0 y1 y2 w0 w1 w2'
              have hqf := fun a0 a1 a2 b0 b1 b2 w => eq_Ft a0 a1 a2 b0 b1 b2 w
              clear hz hlf
              refine wp_region_quiet_below (by kernel_rfl) (by kernel_rfl) ?_
              repeat (go_big_quiet_step (first | (go_at_call 12; exact Calls.regrown_of (HC1.out _ _)) | (go_at_call 13; exact Calls.regrown_of (HC2.out _ _)) | (go_at_call 14; exact Calls.regrown_of (HC3.out _ _)) | (go_at_call 15; exact Calls.regrown_of (HC4.out _ _))))
              refine wpQuiet_nil ?_
              intro _ hw'
              obtain ⟨⟨dq, osq⟩, hw''⟩ := hw'
              subst hw''
              have hq5 := below_regrown W11 dq osq
              generalize Go.Sort.grow (redrawn W11 dq) osq = W5x at hq5 ⊢
              have HMn := hidIn (HM11.out.below hq5)
              clear hqf x0 x1 y0 y1 y2 w0 w1 w2' hq5 HM11 HX6n HX8n HC1 HC2 HC3 HC4
              go_wp2_with fail
              go_roundw
              case rel => exact ⟨k + 1, by omega, by omega, by go_num, hidIn ⟨An, _, HMn.out, HAn.out.1⟩⟩
              case measure => simp [intOf]; omega
            · obtain ⟨As, u, hM, hAl2⟩ := HR.out
              have HM := hidIn hM
              have HAl2 := hidIn hAl2
              clear HR hM hAl2
              go_upto_region 19 with fail
              go_cut [97] (fun c wx => c = .bool false ∧ wx = wr)
              case first =>
                by_cases h1 : k < na
                · have h1i : (k : Int) < (na : Int) := by omega
                  have h2i : ¬ (k : Int) < 60 := by omega
                  clear hlt
                  go_wp2_with fail
                  go_meet
                  exact ⟨rfl, rfl⟩
                · have h1i : ¬ (k : Int) < (na : Int) := by omega
                  clear hlt
                  go_wp2_with fail
                  go_meet
                  exact ⟨rfl, rfl⟩
              case rest =>
                obtain ⟨rfl, hwc⟩ := hcut
                rw [hwc]
                clear hwc wc hlt
                go_wp2_with fail
                refine (fcopy_any HM.out.mp).mono ?_
                rintro e w8 ⟨Q, n', rfl, hQ, hQl, hnl, hb8⟩
                have hM8 := HM.out.below hb8
                have hxs := Hxs.out
                have hAk : askA As 1 2 = As ++ [(1, 2)] := by simp [askA, show isP 1 2 = true from by decide]
                have HAsk : Hid (Calls Try.prog 10 #[pp Q, .int .i64 1, .int .i64 2] w8 fun e w' => (∃ f0 f1 f2 : Int, e = .returned (.tuple #[.agg #[.int .i64 f0, .int .i64 f1, .int .i64 f2], .int .i64 0])) ∧ PlAt w' Q n' (restR l (cntF (As ++ [(1, 2)]))) (cntF (As ++ [(1, 2)])) ∧ Fr (fun j => j = Q ∨ j = n') w8 w') := hidIn (by
                  have := plan_ask Hok.out hQ (by have := HAl2.out; omega) 1 2
                  rw [hAk, show askE 1 2 = 0 from by decide] at this
                  refine this.mono ?_
                  rintro e w' ⟨rfl, h1, h2⟩
                  exact ⟨⟨_, _, _, rfl⟩, h1, h2⟩)
                have HM8 := hidIn hM8
                have HQn : Hid (P < Q ∧ m < Q ∧ P < n' ∧ m < n' ∧ x < Q ∧ x < n' ∧ w.heap.size ≤ Q ∧ w.heap.size ≤ n') := hidIn (by
                  have := HM.out.mp.b.lt
                  have := HM.out.mp.m.lt
                  have := block_lt HM.out.mo.ob
                  omega)
                have Hus : Hid (0 < As.length → ∀ j, u.ownBlock = some j → j < Q ∧ j < n') := hidIn (fun hp j hj => by
                  obtain ⟨a9, c9, rfl, _, _, h9⟩ := HM.out.mo.ou
                  obtain ⟨b9, o9, rfl, hb9, _⟩ := h9 hp
                  simp [Value.ownBlock] at hj
                  omega)
                have HB8 := hidIn (HB7.out _ hM8.mf)
                have HS8 : Hid (w.heap.size ≤ w8.heap.size) := hidIn (HB7.out _ hM8.mf).size
                clear hQ hQl hnl hb8 hM8 hxs hAk HM
                go_wp2_with fail
                refine HAsk.out.mono ?_
                rintro e w9 ⟨⟨f0, f1, f2, rfl⟩, hQ9, hF9⟩
                have hqn := HQn.out
                have hP9 := HM8.out.mp.keep hF9 (by omega) (by omega)
                have hob9 := (hF9.block x (block_lt HM8.out.mo.ob) (by omega)).trans HM8.out.mo.ob
                have hou9 := slAt_fr HM8.out.mo.ou hF9 (fun hp j hj h => by have := Hus.out hp j hj; omega)
                have hB9 := HB8.out.trans (hF9.below HS8.out (fun j hj => by omega))
                obtain ⟨z, hz⟩ : ∃ z, cntP As 1 2 = z := ⟨_, rfl⟩
                have hzl : z ≤ 60 := by have := cntP_le As 1 2; have := HAl2.out; omega
                have hzw : IntKind.i64.wrap ((z : Int) + 1) = (z : Int) + 1 := by rw [IntKind.wrap_i64]; omega
                have HC1 : Hid (∀ dq osq, Calls Try.prog 12 #[pp P, .int .i64 1, .int .i64 2] (Go.Sort.grow (redrawn w9 dq) osq) fun e w' => e = .returned (.int .i64 (z : Int)) ∧ Below (Go.Sort.grow (redrawn w9 dq) osq).heap.size (Go.Sort.grow (redrawn w9 dq) osq) w') := hidIn fun dq osq => by
                  have := plan_asked (hP9.below (below_regrown w9 dq osq) hP9.b.lt hP9.m.lt) HM8.out.mo.op 1 2
                  rw [hz] at this
                  exact this.mono fun e w' h => ⟨h.1, by rw [h.2]; exact Below.refl _ _⟩
                have HC2 : Hid (∀ dq osq, Calls Try.prog 13 #[.agg #[.slice a n cap, u], .int .i64 1, .int .i64 2] (Go.Sort.grow (redrawn w9 dq) osq) fun e w' => e = .returned (.int .i64 (z : Int)) ∧ Below (Go.Sort.grow (redrawn w9 dq) osq).heap.size (Go.Sort.grow (redrawn w9 dq) osq) w') := hidIn fun dq osq => by
                  have := dcount_any (ra := a) (rn := n) (rc := cap) (hou9.keep (below_regrown w9 dq osq) (Nat.le_refl _)) (by have := HAl2.out; omega) 1 2
                  rw [hz] at this
                  exact this
                have HC3 : Hid (∀ dq osq, Calls Try.prog 12 #[pp Q, .int .i64 1, .int .i64 2] (Go.Sort.grow (redrawn w9 dq) osq) fun e w' => e = .returned (.int .i64 ((z : Int) + 1)) ∧ Below (Go.Sort.grow (redrawn w9 dq) osq).heap.size (Go.Sort.grow (redrawn w9 dq) osq) w') := hidIn fun dq osq => by
                  have := plan_asked (hQ9.below (below_regrown w9 dq osq) hQ9.b.lt hQ9.m.lt) (fun p hp => by
                    rcases List.mem_append.1 hp with hp | hp
                    · exact HM8.out.mo.op p hp
                    · rw [List.mem_singleton.1 hp]; decide) 1 2
                  rw [cntP_snoc, hz] at this
                  exact this.mono fun e w' h => ⟨by rw [h.1]; rfl, by rw [h.2]; exact Below.refl _ _⟩
                have HWk : Hid (∀ dq osq, Calls Try.prog 9 #[] (Go.Sort.grow (redrawn w9 dq) osq) fun e w' => e = .returned (.bool true) ∧ Below (Go.Sort.grow (redrawn w9 dq) osq).heap.size (Go.Sort.grow (redrawn w9 dq) osq) w') := hidIn fun dq osq => fworks_any _
                have x0 := cell_regrown (cell_of_row _ _ 0 _ _ _ hob9)
                have x1 := cell_regrown (cell_of_row _ _ 1 _ _ _ hob9)
                simp at x0 x1
                have HB9 := hidIn hB9
                have HS9 : Hid (w.heap.size ≤ w9.heap.size) := hidIn hB9.size
                clear hQ9 hF9 hqn hP9 hob9 hou9 hB9 hz HAsk HM8 HB8
                go_upto_region 32 with fail
                refine wp_region_quiet_below (by kernel_rfl) (by kernel_rfl) ?_
                repeat (go_big_quiet_step (first | (go_at_call 12; with_reducible (show Calls _ _ #[pp P, _, _] _ _); exact Calls.regrown_of (HC1.out _ _)) | (go_at_call 12; with_reducible (show Calls _ _ #[pp Q, _, _] _ _); exact Calls.regrown_of (HC3.out _ _)) | (go_at_call 13; exact Calls.regrown_of (HC2.out _ _)) | (go_at_call 9; exact Calls.regrown_of (HWk.out _ _))))
                refine wpQuiet_nil ?_
                intro _ hw'
                obtain ⟨⟨dq, osq⟩, hw''⟩ := hw'
                subst hw''
                have hq5 := below_regrown w9 dq osq
                generalize Go.Sort.grow (redrawn w9 dq) osq = W5x at hq5 ⊢
                have HBn := hidIn (HB9.out.trans (hq5.mono HS9.out))
                clear hq5 x0 x1 HC1 HC2 HC3 HWk
                go_wp2_with fail
                go_returns
                exact ⟨rfl, HBn.out⟩
    · have hcn : (cc != 0) = true := by simpa using hc0
      have HNo := hidIn (fnew_no HIn4.out Hchk.out hc0)
      clear hc0
      go_wp2_with fail
      refine HNo.out.mono ?_
      rintro e w5 ⟨rfl, hb5⟩
      have HB5 := hidIn (HB4.out.trans (hb5.mono HB4.out.size))
      clear hb5 HNo
      go_wp2_with fail
      refine (fworks_any w5).mono ?_
      rintro e w6 ⟨rfl, hb6⟩
      have HB6 := hidIn (HB5.out.trans (hb6.mono HB5.out.size))
      clear hb6
      go_wp2_with fail
      go_ret
      exact ⟨rfl, HB6.out⟩
end Go.Proofs.Ytkkgbcoclfpicaa.Fa
