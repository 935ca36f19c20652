/- nearest, walked. -/
import Derived.Test.YtgeoghhajjlofaaGreatDoorV1
namespace Go.Proofs.YtgeoghhajjlofaaGreatDoor
open Go.RowKit

theorem bd_lt {wr : World} {b : Nat} {cs : Array Value} {T : TypeId} {v : Value} {k : Nat} (h : wr.heap[b]? = some (.cells cs T)) (hv : v.ownBlock = some k → wr.heap.size ≤ k) : v.ownBlock = some k → k ≠ b := fun e => by have := hv e; have := block_lt h; omega

set_option maxRecDepth 100000 in
set_option maxHeartbeats 4000000 in
theorem nearest_any {ns : List Int} {es : List Ed} {vn ve : Value} {w : World} (h : GrAt w vn ve ns es) (hok : graphOk ns es = true) {r : Int} (hr : r ∈ ns) :
    Calls Tryz.prog 57 #[grV vn ve, .int .i64 r] w fun e w' => (∃ P u, e = .returned u ∧ (IsNear es r P ∧ NdOk P) ∧ w'.ownsRow w.heap.size 75 2 u P.length (fl ac P)) ∧ Below w.heap.size w w' := by
  obtain ⟨ea, eca, rfl, hel, _, hea⟩ := h.e.eds
  obtain ⟨na, nca, rfl, _⟩ := h.n
  have Hea := hidIn hea
  have HBd := hidIn (graphOk_bd hok)
  have HPos := hidIn (graphOk_pos hok)
  have h384 := HBd.out.2.2
  clear h hea
  have hz := zeroB25
  obtain ⟨W0, hW0⟩ : ∃ W0, (w.alloc (.cells #[.slice na ns.length nca, .slice ea es.length eca] 53)).alloc (.cells (mcl no1).toArray 84) = W0 := ⟨_, rfl⟩
  have hs0 : W0.heap.size = w.heap.size + 2 := by rw [← hW0]; simp
  have HM0 : Hid (NrM w (W0.alloc Ad.hpObj) (.slice na ns.length nca) (.slice ea es.length eca) no1 (.slice none 0 0) [] 0 (.slice none 0 0) []) := hidIn (by
    have b1 : Below w.heap.size w W0 := by rw [← hW0]; go_grown
    have hg : W0.heap[w.heap.size]? = some (.cells #[.slice na ns.length nca, .slice ea es.length eca] 53) := by
      rw [← hW0, Below.heap_alloc _ _ _ (by simp)]
      exact heap_alloc_last w _
    have hm : Arr W0 (w.heap.size + 1) 84 (mcl no1) := by
      rw [← hW0]
      have := arr_new (w.alloc (.cells #[.slice na ns.length nca, .slice ea es.length eca] 53)) 84 (mcl no1)
      rw [World.size_alloc] at this
      exact this
    have hh := Ad.hpM_new W0
    rw [hs0] at hh
    refine ⟨(Below.heap_alloc _ _ _ (by omega)).trans hg, (Below.heap_alloc _ _ _ (by omega)).trans hm, hh, World.ownsRow_nil _ _ _ _, fun k hk => by simp [Value.ownBlock] at hk, b1.alloc b1.size _⟩)
  have HW := hidIn hW0
  clear hW0
  go_enter Tryz.func57, Tryz.ntmps57
  go_upto_region 3 with fail
  rw [HW.out]
  clear HW hz
  go_wp2_with fail
  refine (Ad.new_ok W0).mono ?_
  rintro e w1 ⟨rfl, hw1⟩
  rw [hw1, hs0]
  clear hw1 w1 hs0
  generalize W0.alloc Ad.hpObj = W1 at *
  have HP := hidIn (Ad.push_ok (r, 0) HM0.out.h (by simp) (by omega) (by omega))
  go_wp2_with fail
  refine HP.out.mono ?_
  rintro e w2 ⟨rfl, ⟨v1, hM1, hv1⟩, hF1⟩
  have HM1 := hidIn (HM0.out.heap hM1 hv1 (frOf hF1))
  have HP1 : Hid (NrP ns es r no1 (Ad.pushL Ad.ltT [] (r, 0) 0) (0 + 1) []) := hidIn (by
    refine ⟨dj_start es r, fun i _ => rfl, ?_, by simp [Ad.pushL, Ad.riseF], by simp; omega, fun x hx => ?_, fun x hx => ?_, rfl, fun n hn => by simp at hn⟩
    · intro j hj a b ha
      have h1 : j < 1 := by simpa [Ad.pushL, Ad.riseF] using (List.getElem?_eq_some_iff.1 ha).1
      omega
    · simp [Ad.pushL, Ad.riseF] at hx
      rw [hx]
      exact hr
    · simp [Ad.pushL, Ad.riseF] at hx
      rw [hx]
      simp)
  clear HP hM1 hv1 hF1 HM0
  go_wp2_with fail
  go_loopw [6] (fun u wr => Hid (∃ f v hs p P, NrM w wr (.slice na ns.length nca) (.slice ea es.length eca) f v hs p u P ∧ NrP ns es r f hs p P)) (fun _ wr => lenAt wr (w.heap.size + 2) + unmAt wr (w.heap.size + 1) * 400)
  case atStart => exact hidIn ⟨_, _, _, _, _, HM1.out, HP1.out⟩
  case round =>
    clear HM1 HP1
    obtain ⟨f, v, hs, p, P, hM, hP⟩ := hrel.out
    clear hrel
    have HLn := hidIn hM.len
    have HUn := hidIn hM.unm
    have hp385 : p ≤ 385 := by have h1 := hP.pb; have h2 := cnt_le P es; omega
    have hl385 : hs.length ≤ 385 := by have := hP.ln; omega
    have HM := hidIn hM
    have HP := hidIn hP
    have HL := hidIn (Ad.len_ok hM.h)
    clear hM hP
    go_wp2_with fail
    refine HL.out.mono ?_
    rintro e w3 ⟨rfl, hw3⟩
    rw [hw3]
    clear hw3 w3 HL
    by_cases h0 : hs.length = 0
    · have hni : ¬ ((0 : Int) < (hs.length : Int)) := by omega
      have hs0 : hs = [] := List.length_eq_zero_iff.1 h0
      have HN : Hid (IsNear es r P ∧ NdOk P) := hidIn ⟨by have := HP.out.dj; rw [hs0] at this; exact this.near, by have := HP.out.un; omega, HP.out.pd⟩
      have HR := hidIn (row_low HM.out.r (show w.heap.size ≤ w.heap.size + 3 by omega))
      have HB := hidIn HM.out.b
      clear HM HP HLn HUn hs0
      go_wp2_with fail
      go_ret
      exact ⟨⟨P, _, rfl, HN.out, HR.out⟩, HB.out⟩
    · have hni : (0 : Int) < (hs.length : Int) := by omega
      obtain ⟨a, ha⟩ : ∃ a, hs[0]? = some a := ⟨hs[0], List.getElem?_eq_getElem (by omega)⟩
      have HA := hidIn ha
      have HPop := hidIn (Ad.pop_ok HM.out.h (by omega) ha)
      have hrg := HBd.out.1 _ (HP.out.rg a (List.mem_of_getElem? ha))
      obtain ⟨⟨n0, n1⟩, an⟩ := a
      simp only at hrg
      clear ha
      go_wp2_with fail
      refine HPop.out.mono ?_
      rintro e w3 ⟨rfl, ⟨v', hM', hv'⟩, hF'⟩
      have hM3 := HM.out.heap hM' (.inl hv') (frOf hF')
      clear hM' hv' hF' HPop HM
      obtain ⟨W4, hW4⟩ : ∃ W4, w3.alloc (.cells #[.int .i64 n0, .int .i64 n1] 75) = W4 := ⟨_, rfl⟩
      have bA : Below w3.heap.size w3 W4 := by rw [← hW4]; exact (Below.refl _ w3).alloc (Nat.le_refl _) _
      have hX : W4.heap[w3.heap.size]? = some (.cells #[.int .i64 n0, .int .i64 n1] 75) := by rw [← hW4]; exact heap_alloc_last w3 _
      have hM4 := hM3.keep bA
      have hvx : ∀ k, v'.ownBlock = some k → k ≠ w3.heap.size := fun k hk => by have := (hM3.vlow hk).2; omega
      have hux : ∀ k, u6.ownBlock = some k → k ≠ w3.heap.size := fun k hk => by have := (hM3.r.lt k hk).2; omega
      have hxl : w.heap.size + 2 < w3.heap.size := hM3.h.lt
      have x0 := cell_of_row _ _ 0 _ _ _ hX
      have x1 := cell_of_row _ _ 1 _ _ _ hX
      simp at x0 x1
      obtain ⟨i, rfl⟩ : ∃ i : Nat, n0 = (i : Int) := ⟨n0.toNat, by omega⟩
      have hi : i < 25 := by omega
      have hii : (i : Int) < 25 := by omega
      have mc := hM4.m.cell i
      rw [mcl_get _ hi] at mc
      have mf := hM4.m.frozen i
      have HM4 := hidIn hM4
      have HX := hidIn hX
      have HFi := hidIn (HP.out.mt i hi)
      have HW := hidIn hW4
      clear hM3 hM4 bA hX hW4
      go_upto_region 7 with fail
      rw [HW.out]
      clear HW
      generalize w3.heap.size = bx at *
      obtain ⟨b1, hb1⟩ : ∃ b1, f i = b1 := ⟨_, rfl⟩
      rw [hb1] at mc HFi
      have Hb1 := hidIn hb1
      clear hb1
      cases b1
      rotate_left
      · have HP4 := hidIn (HP.out.again HPos.out HA.out HFi.out.symm)
        have HLe := hidIn (NrP.pop_len HA.out)
        go_wp2_with fail
        go_roundw
        case rel => exact hidIn ⟨f, v', _, p, P, HM4.out, HP4.out⟩
        case measure =>
          rw [HM4.out.len, HM4.out.unm, HLn.out, HUn.out]
          have := HLe.out
          omega
      have hnew : ∀ b ∈ P, b.1 ≠ (i : Int) := fun b hb e => by
        have : inP P (i : Int) = true := inP_iff.2 ⟨b, hb, e⟩
        rw [← HFi.out] at this; cases this
      have HNew := hidIn hnew
      have HQ0 : Hid (NrQ ns es r ((i : Int), n1) (mk1 f i) (Ad.popL Ad.ltT hs) p P (P ++ [((i : Int), n1)]) (Ad.popL Ad.ltT hs).length 0) := hidIn (by
        have := HP.out.next HA.out HFi.out.symm hrg
        simpa using this)
      have HLe := hidIn (NrP.pop_len HA.out)
      clear hnew
      go_upto_region 9 with fail
      have hM5 := HM4.out.mark hi
      have hX5 : (W4.setCell ⟨w.heap.size + 1, i, none⟩ (.bool true)).heap[bx]? = some (.cells #[.int .i64 (i : Int), .int .i64 n1] 75) := (Below.heap_setCell _ _ _ _ (by show bx ≠ w.heap.size + 1; omega)).trans HX.out
      clear x0 x1 mc mf HX HM4
      generalize W4.setCell ⟨w.heap.size + 1, i, none⟩ (.bool true) = W5 at hM5 hX5 ⊢
      have hPl : P.length ≤ 25 := by have := HP.out.un; omega
      obtain ⟨g, gcap, w6, hrun, hown, hgb, hgrow, hb6⟩ := append_adj hM5.r ((i : Int), n1) (by omega) (by have := hM5.h.lt; omega)
      have hM6 := hM5.tell hown hgb hgrow
      have hX6 : w6.heap[bx]? = some (.cells #[.int .i64 (i : Int), .int .i64 n1] 75) := (hgrow.block _ (block_lt hX5) (fun e => hux _ e.symm rfl)).trans hX5
      have x0 := cell_of_row _ _ 0 _ _ _ hX5
      have x1 := cell_of_row _ _ 1 _ _ _ hX5
      simp at x0 x1
      obtain ⟨ua, ucap, rfl⟩ := row_shape hM5.r
      have HRun := hidIn hrun
      have HM6 := hidIn hM6
      have HX6 := hidIn hX6
      have g1 : w6.cell? ⟨w.heap.size, 1, none⟩ = some (.slice ea es.length eca) := cell_of_row _ _ 1 _ _ _ hM6.g
      clear hM5 hX5 hrun hown hgb hgrow hb6 hM6 hX6 hux
      go_wp2_with (refine l_append rfl _ _ 71 rfl HRun.out ?_)
      clear x0 x1 g1 HRun
      obtain ⟨u1, hu1⟩ : ∃ u1, Value.slice (some ⟨g, 0, none⟩) (P.length + 1) gcap = u1 := ⟨_, rfl⟩
      rw [hu1] at HM6
      have Hu1 := hidIn hu1
      clear hu1
      have HNb := hidIn HQ0.out.nb
      have HUn2 := hidIn HQ0.out.un
      go_loopw [39] (fun j wr => ∃ k : Nat, k ≤ es.length ∧ j = .int .i64 k ∧ Hid (∃ v hs' p', NrM w wr (.slice na ns.length nca) (.slice ea es.length eca) (mk1 f i) v hs' p' u1 (P ++ [((i : Int), n1)]) ∧ NrQ ns es r ((i : Int), n1) (mk1 f i) hs' p' P (P ++ [((i : Int), n1)]) (Ad.popL Ad.ltT hs).length k ∧ wr.heap[bx]? = some (.cells #[.int .i64 (i : Int), .int .i64 n1] 75) ∧ ∀ k, v.ownBlock = some k → k ≠ bx)) (fun j _ => es.length - (intOf j).toNat)
      case atStart => exact ⟨0, Nat.zero_le _, rfl, hidIn ⟨v', _, _, HM6.out, HQ0.out, HX6.out, hvx⟩⟩
      case round =>
        clear HM6 HQ0 HX6 hvx
        obtain ⟨k, hk, rfl, HR⟩ := hrel
        obtain ⟨v2, hs2, p2, hM, hQ, hX, hvx⟩ := HR.out
        clear HR
        by_cases hlt : k < es.length
        · obtain ⟨bk, o, rfl, hbk, hcell⟩ := Hea.out (by omega)
          obtain ⟨⟨x, y, c⟩, hz⟩ : ∃ z, es[k]? = some z := ⟨es[k], List.getElem?_eq_getElem hlt⟩
          obtain ⟨q0, q1, q2⟩ := hcell k _ hz
          have c0 := (hM.b.cell (p := ⟨bk, o + k * 3, none⟩) hbk).trans q0
          have c1 := (hM.b.cell (p := ⟨bk, o + k * 3 + 1, none⟩) hbk).trans q1
          have c2 := (hM.b.cell (p := ⟨bk, o + k * 3 + 2, none⟩) hbk).trans q2
          simp only at c0 c1 c2
          have hki : (k : Int) < (es.length : Int) := by omega
          have hends := HBd.out.2.1 _ (List.mem_of_getElem? hz)
          have hyr := HBd.out.1 _ hends.2
          have hcr := HPos.out _ (List.mem_of_getElem? hz)
          simp only at hends hyr hcr
          obtain ⟨W7, hW7⟩ : ∃ W7, wr.alloc (.cells #[.int .i64 x, .int .i64 y, .int .i64 c] 97) = W7 := ⟨_, rfl⟩
          have bA : Below wr.heap.size wr W7 := by rw [← hW7]; exact (Below.refl _ wr).alloc (Nat.le_refl _) _
          have hE : W7.heap[wr.heap.size]? = some (.cells #[.int .i64 x, .int .i64 y, .int .i64 c] 97) := by rw [← hW7]; exact heap_alloc_last wr _
          have hM7 := hM.keep bA
          have hX7 := (bA.block _ (block_lt hX)).trans hX
          have l0 := cell_of_row _ _ 0 _ _ _ hE
          have l1 := cell_of_row _ _ 1 _ _ _ hE
          have l2 := cell_of_row _ _ 2 _ _ _ hE
          have x0 := cell_of_row _ _ 0 _ _ _ hX7
          have x1 := cell_of_row _ _ 1 _ _ _ hX7
          simp at l0 l1 l2 x0 x1
          obtain ⟨j, rfl⟩ : ∃ j : Nat, y = (j : Int) := ⟨y.toNat, by omega⟩
          have hj : j < 25 := by omega
          have hji : (j : Int) < 25 := by omega
          have mc := hM7.m.cell j
          rw [mcl_get _ hj] at mc
          have HM7 := hidIn hM7
          have HX7 := hidIn hX7
          have HZ := hidIn hz
          have HQ := hidIn hQ
          have HFj := hidIn (hQ.mt j hj)
          have Hends := hidIn hends
          have HW := hidIn hW7
          clear hcell q0 q1 q2 hM hX bA hE hW7 hM7 hX7 hz hQ hends
          go_upto_region 13 with fail
          rw [HW.out]
          clear HW c0 c1 c2
          generalize wr.heap.size = be at *
          by_cases hxi : x = (i : Int)
          · have tq : (x == (i : Int)) = true := by simpa using hxi
            have Hxi := hidIn hxi
            clear hxi
            obtain ⟨b2, hb2⟩ : ∃ b2, mk1 f i j = b2 := ⟨_, rfl⟩
            rw [hb2] at mc HFj
            clear hb2
            cases b2
            · have hn1 := HNb.out
              have hun := HUn2.out
              rw [List.length_append, List.length_singleton] at hn1 hun
              simp only at hn1
              have hp2 : p2 ≤ 385 ∧ 0 ≤ p2 ∧ hs2.length ≤ 385 := by
                have h1 := HQ.out.pb
                have h2 := HQ.out.ln
                have h3 : es.countP (fun e => inP P e.1) + (es.take k).countP (fun e => decide (e.1 = (i : Int))) ≤ 384 := by
                  have h4 := cnt_step P ((i : Int), n1) HNew.out es
                  have h5 := cnt_le (P ++ [((i : Int), n1)]) es
                  have h6 : (es.take k).countP (fun e => decide (e.1 = (i : Int))) ≤ es.countP (fun e => decide (e.1 = (i : Int))) := (List.take_sublist k es).countP_le
                  simp only at h4
                  omega
                simp only at h1
                omega
              have HPu := hidIn (Ad.push_ok ((j : Int), n1 + c) HM7.out.h (by omega) hp2.2.1 (by omega))
              have hw1 : IntKind.i64.wrap (n1 + c) = n1 + c := by rw [IntKind.wrap_i64]; omega
              go_wp2_with fail
              refine HPu.out.mono ?_
              rintro e w8 ⟨rfl, ⟨v3, hM3, hv3⟩, hF3⟩
              have hbl := block_lt HX7.out
              have HM8 := hidIn (HM7.out.heap hM3 hv3 (frOf hF3))
              have HX8 : Hid (w8.heap[bx]? = some (.cells #[.int .i64 (i : Int), .int .i64 n1] 75)) := hidIn ((hF3.block _ hbl (by rintro (h | h); omega; exact hvx _ h rfl)).trans HX7.out)
              have HV8 : Hid (∀ k, v3.ownBlock = some k → k ≠ bx) := hidIn fun k hk => by
                rcases hv3 with h | h
                · exact hvx k (h ▸ hk)
                · have := h k hk; omega
              have HQ8 := hidIn (HQ.out.push HPos.out HZ.out Hxi.out Hends.out.2)
              clear hM3 hv3 hF3 HPu l0 l1 l2 x0 x1 mc HM7 HX7 hw1
              go_wp2_with fail
              go_roundw
              case rel => exact ⟨k + 1, by omega, by go_num, hidIn ⟨v3, _, _, HM8.out, HQ8.out, HX8.out, HV8.out⟩⟩
              case measure => simp [intOf]; omega
            · have HQ8 := hidIn (HQ.out.met HPos.out HZ.out HFj.out.symm)
              go_wp2_with fail
              go_roundw
              case rel => exact ⟨k + 1, by omega, by go_num, hidIn ⟨v2, _, _, HM7.out, HQ8.out, HX7.out, hvx⟩⟩
              case measure => simp [intOf]; omega
          · have tq : (x == (i : Int)) = false := by simpa using hxi
            have HQ8 := hidIn (HQ.out.skip HZ.out hxi)
            clear hxi
            go_wp2_with fail
            go_roundw
            case rel => exact ⟨k + 1, by omega, by go_num, hidIn ⟨v2, _, _, HM7.out, HQ8.out, HX7.out, hvx⟩⟩
            case measure => simp [intOf]; omega
        · have hki : ¬ ((k : Int) < (es.length : Int)) := by omega
          have hke : k = es.length := by omega
          have HM8 := hidIn hM
          have HL8 := hidIn hQ.hl
          have HP8 : Hid (NrP ns es r (mk1 f i) hs2 p2 (P ++ [((i : Int), n1)])) := hidIn (by rw [hke] at hQ; exact hQ.done rfl HNew.out)
          have HUm := hidIn (unm_mk1 Hb1.out hi)
          have Hke := hidIn hke
          clear hM hQ hX hvx hke
          go_wp2_with fail
          go_roundw
          case rel => exact hidIn ⟨_, v2, _, _, _, by rw [Hu1.out]; exact HM8.out, HP8.out⟩
          case measure =>
            rw [HM8.out.len, HM8.out.unm, HLn.out, HUn.out]
            have h1 := HLe.out
            have h2 := HL8.out
            have h3 := HUm.out
            have h4 := Hke.out
            omega
end Go.Proofs.YtgeoghhajjlofaaGreatDoor
