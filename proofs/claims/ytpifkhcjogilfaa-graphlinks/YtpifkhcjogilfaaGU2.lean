/- The document's Both. -/
import Derived.Test.YtpifkhcjogilfaaGU1
namespace Go.Proofs.Ytpifkhcjogilfaa
open Go.RowKit

/-- The graph in its block: its nodes so far. -/
structure NdM (w1 wr : World) (u : Value) (L : List Int) : Prop where
  g : wr.heap[w1.heap.size]? = some (.cells #[u, .slice none 0 0] 25)
  r : wr.ownsRow (w1.heap.size + 1) 3 1 u L.length (fl ic L)
  b : Below w1.heap.size w1 wr
/-- The graph in its block: its edges so far. -/
structure EbM (w3 wr : World) (B : Nat) (u v : Value) (L : List Ed) : Prop where
  g : wr.heap[B]? = some (.cells #[u, v] 25)
  r : wr.ownsRow w3.heap.size 45 3 v L.length (fl ec L)
  f : Fr (fun k => k = B) w3 wr
theorem EbM.drewN {w3 wr : World} {B : Nat} {u v : Value} {L : List Ed} (h : EbM w3 wr B u v L) (n : Nat) : EbM w3 (wr.drewN n) B u v L :=
  ⟨h.g, row_fr h.r ((Fr.refl (fun _ => False) wr).drewN n) (fun _ _ h => h), h.f.drewN n⟩

set_option maxRecDepth 100000 in
set_option maxHeartbeats 4000000 in
theorem rboth_any {l : List (Rc × Value)} {v : Value} {w : World} (hR : RecsAt w v l) (hg : ∀ y ∈ l, RecG w y) :
    Calls Try.prog 21 #[v] w fun e w' => BothAns w l e w' ∧ Below w.heap.size w w' := by
  have HR0 := hidIn hR
  obtain ⟨a, cap, rfl, hl, hcap, hat⟩ := hR.r.recs
  have Ha := hidIn hat
  obtain ⟨W0, hW0⟩ : ∃ W0, w.alloc nilG = W0 := ⟨_, rfl⟩
  have bA : Below w.heap.size w W0 := by rw [← hW0]; exact (Below.refl _ w).alloc (Nat.le_refl _) _
  have hGB : W0.heap[w.heap.size]? = some nilG := by rw [← hW0]; exact heap_alloc_last w _
  have hlt0 := block_lt hGB
  obtain ⟨b1, hb1⟩ : ∃ b1, bothOk no1 (rcs l) = b1 := ⟨_, rfl⟩
  have Hb1 := hidIn hb1
  have HC : Hid (Calls Try.prog 39 #[.slice a l.length cap] W0 fun e w' => e = .returned (.bool b1) ∧ Below W0.heap.size W0 w') := hidIn (by rw [← hb1]; exact unlike_any (hR.keep bA (Nat.le_refl _)) fun y hy => ⟨(hg y hy).1.keep bA (Nat.le_refl _), (hg y hy).2⟩)
  have HW := hidIn hW0
  clear hW0 hat hR hg hb1
  go_enter Try.func21, Try.ntmps21
  go_upto_region 1 with fail
  rw [HW.out]
  clear HW
  go_wp2_with fail
  refine HC.out.mono ?_
  rintro e w2 ⟨rfl, hb2⟩
  have hg2 : w2.heap[w.heap.size]? = some nilG := (hb2.block _ hlt0).trans hGB
  have HB2 := hidIn (bA.trans (hb2.mono bA.size))
  clear HC bA hb2 hGB hlt0
  cases b1
  · have g0 : w2.cell? ⟨w.heap.size, 0, none⟩ = some (.slice none 0 0) := cell_of_row _ _ 0 _ _ _ hg2
    have g1 : w2.cell? ⟨w.heap.size, 1, none⟩ = some (.slice none 0 0) := cell_of_row _ _ 1 _ _ _ hg2
    have gf0 := frozen_new hg2 0
    have gf1 := frozen_new hg2 1
    clear hg2
    go_wp2_with fail
    have e0 : ((w2.setCell ⟨w.heap.size, 0, none⟩ (.slice none 0 0)).setCell ⟨w.heap.size, 1, none⟩ (.slice none 0 0)).cell? ⟨w.heap.size, 0, none⟩ = some (.slice none 0 0) := by simp [go_sem, g0]
    have e1 : ((w2.setCell ⟨w.heap.size, 0, none⟩ (.slice none 0 0)).setCell ⟨w.heap.size, 1, none⟩ (.slice none 0 0)).cell? ⟨w.heap.size, 1, none⟩ = some (.slice none 0 0) := by simp [go_sem, g1]
    have HB3 : Hid (Below w.heap.size w ((w2.setCell ⟨w.heap.size, 0, none⟩ (.slice none 0 0)).setCell ⟨w.heap.size, 1, none⟩ (.slice none 0 0))) := hidIn ((HB2.out.setCell (p := ⟨w.heap.size, 0, none⟩) (Nat.le_refl _) _).setCell (p := ⟨w.heap.size, 1, none⟩) (Nat.le_refl _) _)
    generalize (w2.setCell ⟨w.heap.size, 0, none⟩ (.slice none 0 0)).setCell ⟨w.heap.size, 1, none⟩ (.slice none 0 0) = V at *
    exact bodyPost_ret (v := .tuple #[grV (.slice none 0 0) (.slice none 0 0), .int .i64 2]) (by simp [results, Try.results21, asAddr, Result.andThen, go_sem, e0, e1]) rfl ⟨.inr ⟨Hb1.out, rfl⟩, HB3.out⟩
  have hu : Unl (rcs l) := both_unl.1 Hb1.out
  have hlen := unl_len hu
  rw [rcs, List.length_map] at hlen
  have Hu := hidIn hu
  have Hg2 := hidIn hg2
  have hB0 := block_lt hg2
  obtain ⟨W3, hW3⟩ : ∃ W3, w2.alloc nilG = W3 := ⟨_, rfl⟩
  have HN0 : Hid (NdM w2 W3 (.slice none 0 0) (outN (rcs l) 1)) := hidIn (by
    rw [outN_one hu, ← hW3]
    exact ⟨heap_alloc_last w2 _, World.ownsRow_nil _ _ _ _, by go_grown⟩)
  have HW := hidIn hW3
  clear hu hg2 hW3
  go_upto_region 4 with fail
  rw [HW.out]
  clear HW
  go_wp2_with fail
  go_loopw [5] (fun i wr => ∃ (n : Nat), 1 ≤ n ∧ n ≤ 25 ∧ i = .int .i64 n ∧ Hid (∃ u, NdM w2 wr u (outN (rcs l) n))) (fun i _ => 25 - (intOf i).toNat)
  case atStart => exact ⟨1, Nat.le_refl _, by omega, rfl, hidIn ⟨_, HN0.out⟩⟩
  case round =>
    clear HN0
    obtain ⟨n, hn1, hn, rfl, HR⟩ := hrel
    by_cases hlt : n < 25
    · have hni : (n : Int) ≤ 24 := by omega
      obtain ⟨u0, hM0⟩ := HR.out
      have HM0 := hidIn hM0
      clear HR hM0
      generalize wr = wo at *
      go_wp2_with fail
      go_loopw [6] (fun i wz => ∃ (k : Nat), k ≤ l.length ∧ i = .int .i64 k ∧ Hid (∃ u, NdM w2 wz u (outN (rcs l) n ++ pickN (rcs (l.take k)) (n : Int)))) (fun i _ => l.length - (intOf i).toNat)
      case atStart => exact ⟨0, Nat.zero_le _, rfl, hidIn ⟨u0, by simpa [pickN, rcs] using HM0.out⟩⟩
      case round =>
        clear HM0
        obtain ⟨k, hk, rfl, HR⟩ := hrel
        obtain ⟨u, hM⟩ := HR.out
        clear HR
        by_cases hlt2 : k < l.length
        · obtain ⟨bk, o, rfl, hbk, hcell⟩ := Ha.out (by omega)
          obtain ⟨⟨rk, vk⟩, hz⟩ : ∃ z, l[k]? = some z := ⟨l[k], List.getElem?_eq_getElem hlt2⟩
          have c0 := ((HB2.out.trans (hM.b.mono HB2.out.size)).cell (p := ⟨bk, o + k * 6, none⟩) hbk).trans (hcell k _ hz).1
          simp only at c0
          have HT : Hid (rcs (l.take (k + 1)) = rcs (l.take k) ++ [rk]) := hidIn (by rw [take_snoc hz]; simp [rcs])
          have hki : (k : Int) < (l.length : Int) := by omega
          have hle : (outN (rcs l) n ++ pickN (rcs (l.take k)) (n : Int)).length ≤ 700 := by
            rw [List.length_append]
            have h3 := outN_len (rcs l) n
            have h4 := pickN_len (rcs (l.take k)) n
            have h5 : n * (rcs l).length ≤ 25 * 25 := Nat.mul_le_mul hn (by rw [rcs, List.length_map]; exact hlen)
            have h6 : (rcs (l.take k)).length ≤ 25 := by rw [rcs, List.length_map, List.length_take]; omega
            omega
          obtain ⟨ok, hok⟩ : ∃ ok, rk.origin = ok := ⟨_, rfl⟩
          rw [hok] at c0
          have Hok := hidIn hok
          clear hok hcell hz
          by_cases heq : ok = (n : Int)
          · subst heq
            have HE : Hid (pickN (rcs (l.take (k + 1))) (n : Int) = pickN (rcs (l.take k)) (n : Int) ++ [(n : Int)]) := hidIn (by rw [HT.out, pickN_yes Hok.out])
            obtain ⟨g, gcap, w6, hrun, hown, _, _, hb6⟩ := append_int hM.r (n : Int) (by omega) (by have := block_lt hM.g; omega)
            have hg6 := (hb6.block _ (Nat.lt_succ_self _)).trans hM.g
            have HRun := hidIn hrun
            have HO := hidIn hown
            have HB6 := hidIn (hM.b.trans (hb6.mono (Nat.le_succ _)))
            have d0 := cell_of_row _ _ 0 _ _ _ hM.g
            have k0 := cell_of_row _ _ 0 _ _ _ hg6
            have f0 := frozen_new hg6 0
            simp at d0 k0
            have HG6 := hidIn hg6
            clear hrun hown hb6 hM hg6
            obtain ⟨L, hL⟩ : ∃ L, outN (rcs l) n ++ pickN (rcs (l.take k)) (n : Int) = L := ⟨_, rfl⟩
            have HL := hidIn hL
            rw [hL] at HRun HO hle
            clear hL
            go_wp2_with (refine l_append rfl _ _ 22 rfl HRun.out ?_)
            go_roundw
            case rel =>
              refine ⟨k + 1, by omega, by go_num, hidIn ⟨_, ⟨heap_setCell_same _ _ _ _ _ _ HG6.out, ?_, HB6.out.setCell (p := ⟨w2.heap.size, 0, none⟩) (Nat.le_refl _) _⟩⟩⟩
              have h5 := row_fr HO.out ((Fr.refl (fun k => k = w2.heap.size) w6).set (p := ⟨w2.heap.size, 0, none⟩) rfl (.slice (some ⟨g, 0, none⟩) (L.length + 1) gcap)) (fun j hj e => by have := (HO.out.lt j hj).1; omega)
              rw [HE.out, ← List.append_assoc, HL.out, List.length_append]
              exact h5
            case measure => simp [intOf]; omega
          · have hq : (ok == (n : Int)) = false := by simpa using heq
            have HE : Hid (pickN (rcs (l.take (k + 1))) (n : Int) = pickN (rcs (l.take k)) (n : Int)) := hidIn (by rw [HT.out, pickN_no (by rw [Hok.out]; exact heq)])
            have HM := hidIn hM
            clear hM heq
            go_wp2_with fail
            go_roundw
            case rel => exact ⟨k + 1, by omega, by go_num, hidIn ⟨u, by rw [HE.out]; exact HM.out⟩⟩
            case measure => simp [intOf]; omega
        · have hki : ¬ ((k : Int) < (l.length : Int)) := by omega
          have HM : Hid (NdM w2 wr u (outN (rcs l) (n + 1))) := hidIn (by rw [outN_succ]; rw [List.take_of_length_le (by omega)] at hM; exact hM)
          clear hM
          go_wp2_with fail
          go_roundw
          case rel => exact ⟨n + 1, by omega, by omega, by go_num, hidIn ⟨u, HM.out⟩⟩
          case measure => simp [intOf]; omega
    · have hni : ¬ ((n : Int) ≤ 24) := by omega
      obtain ⟨u, hM⟩ := HR.out
      have hne : n = 25 := by omega
      rw [hne, outN_both Hu.out] at hM
      clear HR
      obtain ⟨ua, ucap, rfl⟩ := row_shape hM.r
      obtain ⟨ns, hns⟩ : ∃ ns, bothN (rcs l) = ns := ⟨_, rfl⟩
      have hnl : ns.length ≤ 25 := by rw [← hns, bothN_len Hu.out, rcs, List.length_map]; exact hlen
      rw [hns] at hM
      have Hns := hidIn hns
      have HN := hidIn hM
      have hB3 := block_lt hM.g
      have HE0 : Hid (EbM wr wr w2.heap.size (.slice ua ns.length ucap) (.slice none 0 0) []) := hidIn ⟨hM.g, World.ownsRow_nil _ _ _ _, Fr.refl _ _⟩
      clear hM hns hlt
      generalize wr = w3 at *
      go_wp2_with fail
      go_loopw [7] (fun i wz => ∃ (k : Nat), k ≤ ns.length ∧ i = .int .i64 k ∧ Hid (∃ v, EbM w3 wz w2.heap.size (.slice ua ns.length ucap) v (outI (costF (rcs l)) ns (ns.take k)))) (fun i _ => ns.length - (intOf i).toNat)
      case atStart => exact ⟨0, Nat.zero_le _, rfl, hidIn ⟨_, HE0.out⟩⟩
      case round =>
        clear HE0
        obtain ⟨i, hi, rfl, HR⟩ := hrel
        obtain ⟨v0, hM0⟩ := HR.out
        clear HR
        have d0 := cell_of_row _ _ 0 _ _ _ hM0.g
        simp at d0
        have HM0 := hidIn hM0
        clear hM0
        by_cases hlt : i < ns.length
        · have hii : (i : Int) < (ns.length : Int) := by omega
          obtain ⟨x, hx⟩ : ∃ x, ns[i]? = some x := ⟨ns[i], List.getElem?_eq_getElem hlt⟩
          have HX := hidIn hx
          clear hx
          generalize wr = wo at *
          go_wp2_with fail
          clear d0
          go_loopw [8] (fun i' wz => ∃ (k : Nat), k ≤ ns.length ∧ i' = .int .i64 k ∧ Hid (∃ v, EbM w3 wz w2.heap.size (.slice ua ns.length ucap) v (outI (costF (rcs l)) ns (ns.take i) ++ rowI (costF (rcs l)) x (ns.take k)))) (fun i' _ => ns.length - (intOf i').toNat)
          case atStart => exact ⟨0, Nat.zero_le _, rfl, hidIn ⟨v0, by simpa [rowI] using HM0.out⟩⟩
          case round =>
            clear HM0
            obtain ⟨k, hk, rfl, HR⟩ := hrel
            obtain ⟨v, hM⟩ := HR.out
            clear HR
            have d0 := cell_of_row _ _ 0 _ _ _ hM.g
            simp at d0
            by_cases hlt2 : k < ns.length
            · have hki : (k : Int) < (ns.length : Int) := by omega
              obtain ⟨y, hy⟩ : ∃ y, ns[k]? = some y := ⟨ns[k], List.getElem?_eq_getElem hlt2⟩
              have HY := hidIn hy
              obtain ⟨a', cap', he, _, _, hcell⟩ := (show SlAt ic 1 wr (.slice ua ns.length ucap) ns from slAt_of_row (cs := ic) (fun _ => rfl) (row_fr HN.out.r hM.f (fun j hj e => by have := (HN.out.r.lt j hj).1; omega)) rfl).ints
              simp only [Value.slice.injEq, true_and] at he
              obtain ⟨rfl, rfl⟩ := he
              obtain ⟨bk, o, rfl, hbk, hcell⟩ := hcell (by omega)
              have n1 := hcell i x HX.out
              have n2 := hcell k y hy
              have HM := hidIn hM
              clear hcell hy hM
              go_upto_region 18 with fail
              go_quiet (fail)
              clear n1 n2 d0
              generalize hV : World.drewN wr _ = V
              have hM : EbM w3 V w2.heap.size (.slice (some ⟨bk, o, none⟩) ns.length ucap) v (outI (costF (rcs l)) ns (ns.take i) ++ rowI (costF (rcs l)) x (ns.take k)) := by rw [← hV]; exact HM.out.drewN _
              clear hV HM hbk
              have HRV : Hid (RecsAt V (.slice a l.length cap) l) := hidIn (HR0.out.keep ((HB2.out.trans (HN.out.b.mono HB2.out.size)).trans ((hM.f.below (Nat.le_of_lt hB3) (fun k hk => by omega)).mono (Nat.le_of_lt hB0))) (Nat.le_refl _))
              have HM := hidIn hM
              clear hM
              go_wp2_with fail
              refine (cost_any HRV.out x y).mono ?_
              rintro e w5 ⟨rfl, hw5⟩
              rw [hw5]
              clear hw5 w5
              obtain ⟨c1, hc1⟩ : ∃ c1, costF (rcs l) x y = c1 := ⟨_, rfl⟩
              have Hc1 := hidIn hc1
              rw [hc1]
              clear hc1
              by_cases h1 : 0 < c1
              · go_wp2_with fail
                refine (cost_any HRV.out y x).mono ?_
                rintro e w5 ⟨rfl, hw5⟩
                rw [hw5]
                clear hw5 w5
                obtain ⟨c2, hc2⟩ : ∃ c2, costF (rcs l) y x = c2 := ⟨_, rfl⟩
                have Hc2 := hidIn hc2
                rw [hc2]
                clear hc2
                by_cases h2 : 0 < c2
                · have HE : Hid (rowI (costF (rcs l)) x (ns.take (k + 1)) = rowI (costF (rcs l)) x (ns.take k) ++ [(x, y, c1)]) := hidIn (by rw [take_snoc HY.out, rowI_yes (by rw [Hc1.out]; exact h1) (by rw [Hc2.out]; exact h2), Hc1.out])
                  have hle : (outI (costF (rcs l)) ns (ns.take i) ++ rowI (costF (rcs l)) x (ns.take k)).length ≤ 700 := by
                    rw [List.length_append]
                    have h3 := outI_len (costF (rcs l)) ns (ns.take i)
                    have h4 := rowI_len (costF (rcs l)) x (ns.take k)
                    rw [List.length_take] at h3 h4
                    have h5 : min i ns.length * ns.length ≤ 25 * 25 := Nat.mul_le_mul (by omega) hnl
                    omega
                  have hM := HM.out
                  obtain ⟨g, gcap, w6, hrun, hown, _, _, hb6⟩ := append_edge hM.r (x, y, c1) (by omega) hM.f.size
                  have hg6 := (hb6.block _ hB3).trans hM.g
                  have HF6 : Hid (Fr (fun k => k = w2.heap.size) w3 w6) := hidIn ⟨hb6.os.trans hM.f.os, hb6.tape.trans hM.f.tape, hb6.output.trans hM.f.output, Nat.le_trans hM.f.size hb6.size, fun k hk hs => (hb6.block k hk).trans (hM.f.block k hk hs)⟩
                  have HRun := hidIn hrun
                  have HO := hidIn hown
                  have d1 := cell_of_row _ _ 1 _ _ _ hM.g
                  have k1 := cell_of_row _ _ 1 _ _ _ hg6
                  have f1 := frozen_new hg6 1
                  simp at d1 k1
                  have HG6 := hidIn hg6
                  clear hrun hown hb6 hM hg6 HM
                  obtain ⟨L, hL⟩ : ∃ L, outI (costF (rcs l)) ns (ns.take i) ++ rowI (costF (rcs l)) x (ns.take k) = L := ⟨_, rfl⟩
                  have HL := hidIn hL
                  rw [hL] at HRun HO hle
                  clear hL
                  go_wp2_with (refine l_append rfl _ _ 23 rfl HRun.out ?_)
                  go_roundw
                  case rel =>
                    refine ⟨k + 1, by omega, by go_num, hidIn ⟨_, ⟨heap_setCell_same _ _ _ _ _ _ HG6.out, ?_, HF6.out.set (p := ⟨w2.heap.size, 1, none⟩) rfl _⟩⟩⟩
                    have h5 := row_fr HO.out ((Fr.refl (fun k => k = w2.heap.size) w6).set (p := ⟨w2.heap.size, 1, none⟩) rfl (.slice (some ⟨g, 0, none⟩) (L.length + 1) gcap)) (fun j hj e => by have := (HO.out.lt j hj).1; omega)
                    rw [HE.out, ← List.append_assoc, HL.out, List.length_append]
                    exact h5
                  case measure => simp [intOf]; omega
                · have HE : Hid (rowI (costF (rcs l)) x (ns.take (k + 1)) = rowI (costF (rcs l)) x (ns.take k)) := hidIn (by rw [take_snoc HY.out, rowI_no (by rw [Hc1.out, Hc2.out]; omega)])
                  go_wp2_with fail
                  go_roundw
                  case rel => exact ⟨k + 1, by omega, by go_num, hidIn ⟨v, by rw [HE.out]; exact HM.out⟩⟩
                  case measure => simp [intOf]; omega
              · have HE : Hid (rowI (costF (rcs l)) x (ns.take (k + 1)) = rowI (costF (rcs l)) x (ns.take k)) := hidIn (by rw [take_snoc HY.out, rowI_no (by rw [Hc1.out]; omega)])
                go_wp2_with fail
                go_roundw
                case rel => exact ⟨k + 1, by omega, by go_num, hidIn ⟨v, by rw [HE.out]; exact HM.out⟩⟩
                case measure => simp [intOf]; omega
            · have hki : ¬ ((k : Int) < (ns.length : Int)) := by omega
              have HM : Hid (EbM w3 wr w2.heap.size (.slice ua ns.length ucap) v (outI (costF (rcs l)) ns (ns.take (i + 1)))) := hidIn (by rw [take_snoc HX.out, outI_snoc]; rw [List.take_of_length_le (show ns.length ≤ k by omega)] at hM; exact hM)
              clear hM
              go_wp2_with fail
              go_roundw
              case rel => exact ⟨i + 1, by omega, by go_num, hidIn ⟨v, HM.out⟩⟩
              case measure => simp [intOf]; omega
        · have hii : ¬ ((i : Int) < (ns.length : Int)) := by omega
          have hM := HM0.out
          rw [List.take_of_length_le (by omega)] at hM
          have HE : Hid (bothE (rcs l) = outI (costF (rcs l)) ns ns) := hidIn (by rw [← Hns.out]; exact (outI_both Hu.out).symm)
          obtain ⟨va, vcap, rfl⟩ := row_shape hM.r
          have d1 := cell_of_row _ _ 1 _ _ _ hM.g
          simp at d1
          have hR : wr.heap[w.heap.size]? = some nilG := (hM.f.block _ (by omega) (by omega)).trans ((HN.out.b.block _ hB0).trans Hg2.out)
          have r0 : wr.cell? ⟨w.heap.size, 0, none⟩ = some (.slice none 0 0) := cell_of_row _ _ 0 _ _ _ hR
          have r1 : wr.cell? ⟨w.heap.size, 1, none⟩ = some (.slice none 0 0) := cell_of_row _ _ 1 _ _ _ hR
          have f0 := frozen_new hR 0
          have f1 := frozen_new hR 1
          have HBw : Hid (Below w.heap.size w wr) := hidIn ((HB2.out.trans (HN.out.b.mono HB2.out.size)).trans ((hM.f.below (Nat.le_of_lt hB3) (fun k hk => by omega)).mono (Nat.le_of_lt hB0)))
          have HRn := hidIn (row_fr HN.out.r hM.f (fun j hj e => by have := (HN.out.r.lt j hj).1; omega))
          have HRe := hidIn hM.r
          clear HM0 hM hR
          obtain ⟨vn, hvn⟩ : ∃ vn, (outI (costF (rcs l)) ns ns).length = vn := ⟨_, rfl⟩
          rw [hvn] at d1 HRe
          have HVn := hidIn hvn
          clear hvn
          go_wp2_with fail
          have e0 : ((wr.setCell ⟨w.heap.size, 0, none⟩ (.slice ua ns.length ucap)).setCell ⟨w.heap.size, 1, none⟩ (.slice va vn vcap)).cell? ⟨w.heap.size, 0, none⟩ = some (.slice ua ns.length ucap) := by simp [go_sem, r0]
          have e1 : ((wr.setCell ⟨w.heap.size, 0, none⟩ (.slice ua ns.length ucap)).setCell ⟨w.heap.size, 1, none⟩ (.slice va vn vcap)).cell? ⟨w.heap.size, 1, none⟩ = some (.slice va vn vcap) := by simp [go_sem, r1]
          have HF : Hid (Fr (fun k => k = w.heap.size) wr ((wr.setCell ⟨w.heap.size, 0, none⟩ (.slice ua ns.length ucap)).setCell ⟨w.heap.size, 1, none⟩ (.slice va vn vcap))) := hidIn (((Fr.refl (fun k => k = w.heap.size) wr).set (p := ⟨w.heap.size, 0, none⟩) rfl _).set (p := ⟨w.heap.size, 1, none⟩) rfl _)
          generalize (wr.setCell ⟨w.heap.size, 0, none⟩ (.slice ua ns.length ucap)).setCell ⟨w.heap.size, 1, none⟩ (.slice va vn vcap) = V at *
          refine bodyPost_ret (v := .tuple #[grV (.slice ua ns.length ucap) (.slice va vn vcap), .int .i64 0]) (by simp [results, Try.results21, asAddr, Result.andThen, go_sem, e0, e1]) rfl ⟨.inl ⟨Hb1.out, _, _, rfl, ?_, ?_⟩, ?_⟩
          · rw [Hns.out]
            exact row_low (row_fr HRn.out HF.out (fun j hj e => by have := (HRn.out.lt j hj).1; omega)) (by omega)
          · rw [HE.out, HVn.out]
            exact row_low (row_fr HRe.out HF.out (fun j hj e => by have := (HRe.out.lt j hj).1; omega)) (by omega)
          · exact HBw.out.trans (HF.out.below HBw.out.size (fun k hk => by omega))
end Go.Proofs.Ytpifkhcjogilfaa
