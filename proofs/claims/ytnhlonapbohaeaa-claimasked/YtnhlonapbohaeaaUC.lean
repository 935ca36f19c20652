/- ClaimOrder. -/
import Derived.Test.YtnhlonapbohaeaaUC0
namespace Go.Proofs.Ytnhlonapbohaeaa
open Go.RowKit

theorem SlAt.cut {α : Type} {cs : α → List Value} {sz : Nat} {w : World} {a : Option Addr} {n cap : Nat} {l : List α} (h : SlAt cs sz w (.slice a n cap) l) (k : Nat) : SlAt cs sz w (.slice a (l.take k).length cap) (l.take k) := by
  obtain ⟨a', c', he, h0, h1, h2⟩ := h
  simp only [Value.slice.injEq] at he
  obtain ⟨rfl, rfl, rfl⟩ := he
  have hle : (l.take k).length ≤ l.length := by rw [List.length_take]; omega
  refine ⟨_, _, rfl, by omega, by omega, fun hp => ?_⟩
  obtain ⟨bk, o, h3, h4, h5⟩ := h2 (by omega)
  refine ⟨bk, o, h3, h4, fun j x hx => h5 j x ?_⟩
  rw [List.getElem?_take] at hx
  split at hx
  · exact hx
  · cases hx
theorem TAt.op {w : World} {u : Value} {T : List (Int × List Int)} (h : TAt w u T) : ∃ a cap, u = .slice a T.length cap ∧ T.length ≤ 9223372036854775807 ∧ T.length ≤ cap ∧ (0 < T.length → ∃ bk o, a = some ⟨bk, o, none⟩ ∧ bk < w.heap.size ∧ ∀ j p, T[j]? = some p → ∃ va vc, w.cell? ⟨bk, o + j * 2, none⟩ = some (.int .i64 p.1) ∧ w.cell? ⟨bk, o + j * 2 + 1, none⟩ = some (.slice va p.2.length vc) ∧ (0 < p.2.length → ∃ vb vo, va = some ⟨vb, vo, none⟩ ∧ vb < w.heap.size ∧ ∀ i y, p.2[i]? = some y → w.cell? ⟨vb, vo + i, none⟩ = some (.int .i64 y))) := by
  obtain ⟨L, h1, rfl⟩ := h
  obtain ⟨a, cap, h2, h3, h4, h5⟩ := h1.r.clms
  have hl : (cls L).length = L.length := List.length_map _
  refine ⟨a, cap, by rw [hl]; exact h2, by omega, by omega, fun hp => ?_⟩
  obtain ⟨bk, o, h6, h7, h8⟩ := h5 (by omega)
  refine ⟨bk, o, h6, h7, fun j p hp => ?_⟩
  rw [List.getElem?_map] at hp
  obtain ⟨x, hx, rfl⟩ := Option.map_eq_some_iff.1 hp
  obtain ⟨g1, g2⟩ := h8 j x hx
  obtain ⟨va, vc, e1, _, _, e4⟩ := (h1.a x (List.mem_of_getElem? hx)).1.ints
  exact ⟨va, vc, g1, by rw [g2, e1], e4⟩
theorem tAt_ans {w w' : World} {T : List (Int × List Int)} {u : Value} (h : ClsAns w w' T u) : TAt w' u T := h.at
set_option maxRecDepth 100000 in
set_option maxHeartbeats 4000000 in
theorem claimOrder_walk {ids : List Int} {v : Value} {w : World} (h : SlAt uc8 1 w v ids) (hb : ∀ y ∈ ids, 0 ≤ y ∧ y ≤ 255) :
    Calls Try.prog 5 #[v] w fun e w' => e = .returned (.bool true) ∧ Below w.heap.size w w' := by
  obtain ⟨a, cap, rfl, hl, hcap, _⟩ := h.bytes
  have hc := h.cut 23
  have hb' : ∀ y ∈ ids.take 23, 0 ≤ y ∧ y ≤ 255 := fun y hy => hb y (List.mem_of_mem_take hy)
  have hl' : (ids.take 23).length ≤ 23 := List.length_take_le _ _
  have hlm : (ids.take 23).length = min ids.length 23 := by rw [List.length_take]; omega
  generalize ids.take 23 = js at hc hb' hl' hlm
  obtain ⟨ln, hln⟩ : ∃ ln, ids.length = ln := ⟨_, rfl⟩
  obtain ⟨m, hm⟩ : ∃ m, js.length = m := ⟨_, rfl⟩
  rw [hln] at hl hcap hlm ⊢
  rw [hm] at hc hl' hlm
  have hmin : min (ln : Int) 23 = (m : Int) := by omega
  have hmc : (m : Int) ≤ (cap : Int) := by omega
  have Hc := hidIn hc
  have Hb := hidIn hb'
  have Hm := hidIn hm
  have Hl := hidIn hl'
  clear h hb hc hb' hl' hm hln hlm
  go_enter Try.func5, Try.ntmps5
  go_wp2_with fail
  refine (records_any Hc.out Hb.out false).mono ?_
  rintro e w1 ⟨⟨ra, rc, rfl, hr1⟩, hb1⟩
  have HAl := hidIn (all_any (recs_row hr1 rfl (fun r hr => recsL_adj hr)) (by rw [List.length_map, recsL_len]; omega))
  have HB1 := hidIn hb1
  clear hr1 hb1
  go_wp2_with fail
  refine HAl.out.mono ?_
  rintro e w2 ⟨ha, hb2⟩
  rw [rcs_withN] at ha
  rcases ha with ⟨_, u1, rfl, hu1⟩ | ⟨ha, _⟩
  rotate_left
  · rw [recsL_ok] at ha; cases ha
  have HT1 := hidIn (tAt_ans hu1)
  have HB2 := hidIn (HB1.out.trans (hb2.mono HB1.out.size))
  clear hu1 hb2 HAl HB1
  go_wp2_with fail
  refine (records_any (Hc.out.keep HB2.out (Nat.le_refl _)) Hb.out true).mono ?_
  rintro e w3 ⟨⟨ra2, rc2, rfl, hr3⟩, hb3⟩
  have HAl := hidIn (all_any (recs_row hr3 rfl (fun r hr => recsL_adj hr)) (by rw [List.length_map, recsL_len]; omega))
  have HB3 := hidIn (HB2.out.trans (hb3.mono HB2.out.size))
  have HT3 := hidIn (HT1.out.keep hb3)
  clear hr3 hb3 HT1 HB2
  go_wp2_with fail
  refine HAl.out.mono ?_
  rintro e w4 ⟨ha, hb4⟩
  rw [rcs_withN] at ha
  rcases ha with ⟨_, u2, rfl, hu2⟩ | ⟨ha, _⟩
  rotate_left
  · rw [recsL_ok] at ha; cases ha
  rw [recsL_turn] at hu2
  have HS4 := hidIn (tAt_ans hu2)
  have HT4 := hidIn (HT3.out.keep hb4)
  have HB4 := hidIn (HB3.out.trans (hb4.mono HB3.out.size))
  clear hu2 hb4 HAl HB3 HT3
  go_wp2_with fail
  refine (records_any (Hc.out.keep HB4.out (Nat.le_refl _)) Hb.out false).mono ?_
  rintro e w5 ⟨⟨ra3, rc3, rfl, hr5⟩, hb5⟩
  have HB5 := hidIn hb5
  have HR5 := hidIn hr5
  clear hr5 hb5
  go_wp2_with fail
  refine (small_any 24 0 _).mono ?_
  rintro e w6 ⟨rfl, hb6⟩
  have hr6 := row_below HR5.out hb6 (Nat.le_refl _)
  have hB6 := HB5.out.trans (hb6.mono HB5.out.size)
  obtain ⟨g, gc, w7, hrun, hown, hb7⟩ := append_rec hr6 (smR 24 0, nilS) rfl (by rw [recsL_len]; omega) hB6.size
  have HRun := hidIn hrun
  have hown' : w7.ownsRow w4.heap.size 43 6 (.slice (some ⟨g, 0, none⟩) ((recsL js false).length + 1) gc) ((recsL js false).length + 1) (fl rcc (withN (recsL js false ++ [smR 24 0]))) := by rw [withN, List.map_append]; exact hown
  have hF7 := hB6.trans hb7
  have HAl := hidIn (all_any (recs_row hown' (by simp) (fun r hr => by
    rcases List.mem_append.1 hr with hr | hr
    · exact recsL_adj hr
    · rw [List.mem_singleton.1 hr])) (by rw [List.length_map, List.length_append, recsL_len]; simp; omega))
  have HT7 := hidIn (HT4.out.keep hF7)
  have HS7 := hidIn (HS4.out.keep hF7)
  have HB7 := hidIn (HB4.out.trans (hF7.mono HB4.out.size))
  clear hr6 hB6 hrun hown hb7 hown' hF7 hb6 HB5 HT4 HS4 HR5 HB4
  go_wp2_with (refine l_append rfl _ _ 22 rfl HRun.out ?_)
  refine HAl.out.mono ?_
  rintro e w8 ⟨ha, hb8⟩
  rw [rcs_withN] at ha
  rcases ha with ⟨_, u3, rfl, hu3⟩ | ⟨ha, _⟩
  rotate_left
  · rw [recsM_ok (by rw [Hm.out]; exact Hl.out)] at ha; cases ha
  rw [recsM_allC] at hu3
  have HQ8 := hidIn (tAt_ans hu3)
  have HT8 := hidIn (HT7.out.keep hb8)
  have HS8 := hidIn (HS7.out.keep hb8)
  have HB8 := hidIn (HB7.out.trans (hb8.mono HB7.out.size))
  clear hu3 hb8 HAl HB7 HT7 HS7 HRun
  have HRise : Hid (∀ k p q, (allC (recsL js false))[k]? = some p → (allC (recsL js false))[k + 1]? = some q → p.1 < q.1) := hidIn fun k p q => allC_rise
  have hTl := allC_len (recsL js false)
  have HRow : Hid (∀ p ∈ allC (recsL js false), p.2.length ≤ 24) := hidIn fun p hp => Nat.le_trans (allC_rows hp).1 (by rw [recsL_len]; omega)
  generalize allC (recsL js false) = T at HQ8 HT8 HS8 HRise hTl HRow
  obtain ⟨n, hn⟩ : ∃ n, T.length = n := ⟨_, rfl⟩
  obtain ⟨a1, c1, rfl, _, _, h1⟩ := HT8.out.op
  obtain ⟨a2, c2, rfl, _, _, h2⟩ := HS8.out.op
  obtain ⟨a3, c3, rfl, _, _, h3⟩ := HQ8.out.op
  have H1 := hidIn h1
  have H2 := hidIn h2
  have H3 := hidIn h3
  have Hn := hidIn hn
  rw [hn] at hTl ⊢
  clear h1 h2 h3 hn HT8 HS8 HQ8
  go_wp2_with fail
  go_loopw [10] (fun i wr => ∃ k : Nat, k ≤ n ∧ i = .int .i64 k ∧ Hid (Below w8.heap.size w8 wr)) (fun i _ => n - (intOf i).toNat)
  case atStart => exact ⟨0, Nat.zero_le _, rfl, hidIn (Below.refl _ _)⟩
  case round =>
    obtain ⟨k, hk, rfl, HB⟩ := hrel
    by_cases hlt : k < n
    · obtain ⟨p, hp⟩ : ∃ p, T[k]? = some p := ⟨T[k]'(by have := Hn.out; omega), List.getElem?_eq_getElem _⟩
      obtain ⟨b1, o1, rfl, hb1, g1⟩ := H1.out (by have := Hn.out; omega)
      obtain ⟨b2, o2, rfl, hb2, g2⟩ := H2.out (by have := Hn.out; omega)
      obtain ⟨b3, o3, rfl, hb3, g3⟩ := H3.out (by have := Hn.out; omega)
      obtain ⟨va1, vc1, q1, q1', r1⟩ := g1 k p hp
      obtain ⟨va2, vc2, q2, q2', r2⟩ := g2 k p hp
      obtain ⟨va3, vc3, q3, q3', r3⟩ := g3 k p hp
      have e1 := (HB.out.cell (p := ⟨b1, o1 + k * 2, none⟩) hb1).trans q1
      have f1 := (HB.out.cell (p := ⟨b1, o1 + k * 2 + 1, none⟩) hb1).trans q1'
      have e2 := (HB.out.cell (p := ⟨b2, o2 + k * 2, none⟩) hb2).trans q2
      have f2 := (HB.out.cell (p := ⟨b2, o2 + k * 2 + 1, none⟩) hb2).trans q2'
      have e3 := (HB.out.cell (p := ⟨b3, o3 + k * 2, none⟩) hb3).trans q3
      have f3 := (HB.out.cell (p := ⟨b3, o3 + k * 2 + 1, none⟩) hb3).trans q3'
      have hki : (k : Int) < (n : Int) := by omega
      obtain ⟨id, rs⟩ := p
      simp only at e1 e2 e3 f1 f2 f3 r1 r2 r3 q1' q2' q3'
      obtain ⟨rn, hrn⟩ : ∃ rn, rs.length = rn := ⟨_, rfl⟩
      have hrb : rn ≤ 24 := by have := HRow.out _ (List.mem_of_getElem? hp); simp only at this; omega
      rw [hrn] at f1 f2 f3 q1' q2' q3'
      have hq : (id == id) = true := by simp
      have hq' : (((rn : Int)) == (rn : Int)) = true := by simp
      have HQ := hidIn (And.intro q1 (And.intro q1' (And.intro q2 (And.intro q2' (And.intro q3 q3')))))
      have Hrn := hidIn hrn
      clear q1 q2 q3 q1' q2' q3' hrn
      rcases Nat.eq_zero_or_pos k with hk0 | hk0
      · have hgt : decide (0 < (k : Int)) = false := by simp; omega
        have hgt' : decide (0 < k) = false := by simp; omega
        have Hk0 := hidIn hk0
        clear hk0 g1 g2 g3 hp
        go_wp2_with fail
        go_quiet (fail)
        generalize hwn : World.drewN wr _ = wn
        have HBn : Hid (Below w8.heap.size w8 wn) := hidIn (by rw [← hwn]; exact below_drewN HB.out _)
        clear hwn HB e1 e2 e3 f1 f2 f3
        go_wp2_with fail
        go_loopw [11] (fun i wz => ∃ j : Nat, j ≤ rn ∧ i = .int .i64 j ∧ Hid (Below w8.heap.size w8 wz)) (fun i _ => rn - (intOf i).toNat)
        case atStart => exact ⟨0, Nat.zero_le _, rfl, HBn⟩
        case round =>
          clear HBn
          obtain ⟨j, hj, rfl, HB⟩ := hrel
          obtain ⟨q1, q1', q2, q2', q3, q3'⟩ := HQ.out
          have f1 := (HB.out.cell (p := ⟨b1, o1 + k * 2 + 1, none⟩) hb1).trans q1'
          have f2 := (HB.out.cell (p := ⟨b2, o2 + k * 2 + 1, none⟩) hb2).trans q2'
          have f3 := (HB.out.cell (p := ⟨b3, o3 + k * 2 + 1, none⟩) hb3).trans q3'
          clear q1 q1' q2 q2' q3 q3'
          by_cases hjl : j < rn
          · obtain ⟨y, hy⟩ : ∃ y, rs[j]? = some y := ⟨rs[j]'(by have := Hrn.out; omega), List.getElem?_eq_getElem _⟩
            obtain ⟨d1, p1, rfl, hd1, s1⟩ := r1 (by have := Hrn.out; omega)
            obtain ⟨d2, p2, rfl, hd2, s2⟩ := r2 (by have := Hrn.out; omega)
            obtain ⟨d3, p3, rfl, hd3, s3⟩ := r3 (by have := Hrn.out; omega)
            have t1 := (HB.out.cell (p := ⟨d1, p1 + j, none⟩) hd1).trans (s1 j y hy)
            have t2 := (HB.out.cell (p := ⟨d2, p2 + j, none⟩) hd2).trans (s2 j y hy)
            have t3 := (HB.out.cell (p := ⟨d3, p3 + j, none⟩) hd3).trans (s3 j y hy)
            have hji : (j : Int) < (rn : Int) := by omega
            have hyy : (y == y) = true := by simp
            clear s1 s2 s3 hy
            go_wp2_with fail
            go_quiet (fail)
            go_wp2_with fail
            go_roundw
            case rel => exact ⟨j + 1, by omega, by go_num, hidIn (below_drewN HB.out _)⟩
            case measure => simp [intOf]; omega
          · have hji : ¬ ((j : Int) < (rn : Int)) := by omega
            go_wp2_with fail
            go_roundw
            case rel => exact ⟨k + 1, by omega, by go_num, HB⟩
            case measure => simp [intOf]; omega
      · obtain ⟨k', hk'⟩ : ∃ k', k = k' + 1 := ⟨k - 1, by omega⟩
        obtain ⟨p', hp'⟩ : ∃ p, T[k']? = some p := ⟨T[k']'(by have := Hn.out; omega), List.getElem?_eq_getElem _⟩
        obtain ⟨va0, vc0, q0, _, _⟩ := g1 k' p' hp'
        have e0 := (HB.out.cell (p := ⟨b1, o1 + k' * 2, none⟩) hb1).trans q0
        have hlt' := HRise.out k' p' _ hp' (by rw [← hk']; exact hp)
        simp only at hlt'
        have hge : decide (id ≤ p'.1) = false := by simp; omega
        have hgt : decide (0 < (k : Int)) = true := by simp; omega
        have hgt' : decide (0 < k) = true := by simp; omega
        have hwr : IntKind.i64.wrap ((k : Int) - 1) = (k' : Int) := by rw [IntKind.wrap_i64]; omega
        have hk'n : (k' : Int) < (n : Int) := by omega
        have Hk0 := hidIn hk'
        clear hk0 hk' g1 g2 g3 hp hp' hlt' q0
        go_wp2_with fail
        go_quiet (fail)
        generalize hwn : World.drewN wr _ = wn
        have HBn : Hid (Below w8.heap.size w8 wn) := hidIn (by rw [← hwn]; exact below_drewN HB.out _)
        clear hwn HB e1 e2 e3 f1 f2 f3
        go_wp2_with fail
        go_loopw [11] (fun i wz => ∃ j : Nat, j ≤ rn ∧ i = .int .i64 j ∧ Hid (Below w8.heap.size w8 wz)) (fun i _ => rn - (intOf i).toNat)
        case atStart => exact ⟨0, Nat.zero_le _, rfl, HBn⟩
        case round =>
          clear HBn
          obtain ⟨j, hj, rfl, HB⟩ := hrel
          obtain ⟨q1, q1', q2, q2', q3, q3'⟩ := HQ.out
          have f1 := (HB.out.cell (p := ⟨b1, o1 + k * 2 + 1, none⟩) hb1).trans q1'
          have f2 := (HB.out.cell (p := ⟨b2, o2 + k * 2 + 1, none⟩) hb2).trans q2'
          have f3 := (HB.out.cell (p := ⟨b3, o3 + k * 2 + 1, none⟩) hb3).trans q3'
          clear q1 q1' q2 q2' q3 q3'
          by_cases hjl : j < rn
          · obtain ⟨y, hy⟩ : ∃ y, rs[j]? = some y := ⟨rs[j]'(by have := Hrn.out; omega), List.getElem?_eq_getElem _⟩
            obtain ⟨d1, p1, rfl, hd1, s1⟩ := r1 (by have := Hrn.out; omega)
            obtain ⟨d2, p2, rfl, hd2, s2⟩ := r2 (by have := Hrn.out; omega)
            obtain ⟨d3, p3, rfl, hd3, s3⟩ := r3 (by have := Hrn.out; omega)
            have t1 := (HB.out.cell (p := ⟨d1, p1 + j, none⟩) hd1).trans (s1 j y hy)
            have t2 := (HB.out.cell (p := ⟨d2, p2 + j, none⟩) hd2).trans (s2 j y hy)
            have t3 := (HB.out.cell (p := ⟨d3, p3 + j, none⟩) hd3).trans (s3 j y hy)
            have hji : (j : Int) < (rn : Int) := by omega
            have hyy : (y == y) = true := by simp
            clear s1 s2 s3 hy
            go_wp2_with fail
            go_quiet (fail)
            go_wp2_with fail
            go_roundw
            case rel => exact ⟨j + 1, by omega, by go_num, hidIn (below_drewN HB.out _)⟩
            case measure => simp [intOf]; omega
          · have hji : ¬ ((j : Int) < (rn : Int)) := by omega
            go_wp2_with fail
            go_roundw
            case rel => exact ⟨k + 1, by omega, by go_num, HB⟩
            case measure => simp [intOf]; omega
    · have hki : ¬ ((k : Int) < (n : Int)) := by omega
      have HBw := hidIn (HB8.out.trans (HB.out.mono HB8.out.size))
      clear HB
      go_wp2_with fail
      refine (cworks_any _).mono ?_
      rintro e w9 ⟨rfl, hb9⟩
      have HB9 := hidIn (HBw.out.trans (hb9.mono HBw.out.size))
      clear hb9
      go_wp2_with fail
      go_ret
      exact ⟨rfl, HB9.out⟩
end Go.Proofs.Ytnhlonapbohaeaa
