/- Graph and Live of a store. Live. Stores that are none; the chapter's examples without memory. StoreKnown. Records and stamps as arguments. Small numbers of four, stamps, as arguments. -/
import Derived.Test.YtllmocfiobbofaaN15
import Derived.Test.YtllmocfiobbofaaGB
import Derived.Test.YtllmocfiobbofaaGQ
import Derived.Test.YtllmocfiobbofaaX1
import Derived.Test.YtllmocfiobbofaaGH
import Derived.Test.YtllmocfiobbofaaN8
namespace Go.Proofs.Ytllmocfiobbofaa
open Go.RowKit Go.Maps

theorem unl_all {w : World} {S M n : Nat} {f : Sf} (h : StAt w S M n f) : Unl (allR (fR f) 24) := by
  refine ⟨fun r hr => ?_, ?_⟩
  · obtain ⟨k, hk⟩ := allR_of hr
    exact (h.org hk).1
  · have hr := (allR_rise (F := fR f) (fun k g hk => (h.org hk).2.1) 24).1
    refine hr.imp_of_mem ?_
    intro a b ha hb hab
    obtain ⟨k, hk⟩ := allR_of ha
    have := recOk_pos (h.org hk).1
    omega
/-- What Graph answers. -/
def GrfAns (w w' : World) (rs : List Rc) (e : Ending) : Prop := ∃ u v, e = .returned (.tuple #[grV u v, .int .i64 0]) ∧ w'.ownsRow w.heap.size 3 1 u (bothN rs).length (fl ic (bothN rs)) ∧ w'.ownsRow w.heap.size 87 3 v (bothE rs).length (fl ec (bothE rs))
set_option maxRecDepth 100000 in
set_option maxHeartbeats 2000000 in
theorem sgraph_any {S M n : Nat} {f : Sf} {w : World} (h : StAt w S M n f) :
    Calls Try.prog 21 #[ptr S] w fun e w' => GrfAns w w' (allR (fR f) 24) e ∧ Below w.heap.size w w' := by
  have HS := hidIn h
  have HU := hidIn (both_unl.2 (unl_all h))
  have HT : Hid (∀ wq, Below w.heap.size w wq → Calls Try.prog 38 #[ptr S] wq fun e w' => e = .returned (.bool true) ∧ w' = wq) := hidIn fun wq hq => there_any (h.keep hq)
  have HA : Hid (∀ wq, Below w.heap.size w wq → Calls Try.prog 13 #[ptr S] wq fun e w' => AllAns wq w' (allR (fR f) 24) e ∧ Below wq.heap.size wq w') := hidIn fun wq hq => sall_any (h.keep hq)
  clear h
  go_enter Try.func21, Try.ntmps21
  go_wp2_with fail
  refine (HT.out _ (by go_grown)).mono ?_
  rintro e w1 ⟨rfl, h1⟩
  rw [h1]
  clear HT h1 w1
  go_wp2_with fail
  refine (HA.out _ (by go_grown)).mono ?_
  rintro e w2 ⟨⟨u, L, rfl, hrow, hrs, hfr⟩, hb2⟩
  have HB := hidIn (both_any (w := w2) (v := u) (l := L) ⟨slAt_of_row (cs := rcc) (fun _ => rfl) hrow rfl, fun x hx => by obtain ⟨_, _, _, h, _⟩ := hfr x hx; exact h⟩)
  have Hrs := hidIn hrs
  obtain ⟨ra, rcap, rfl⟩ := row_shape hrow
  have hz := (hb2.block w.heap.size (by simp)).trans (heap_alloc_last w _)
  have HB2 := hidIn (((Below.refl _ w).alloc (Nat.le_refl _) _).trans (hb2.mono (by simp)))
  have Hlt : Hid (w.heap.size < w2.heap.size) := hidIn (block_lt hz)
  have Hz := hidIn hz
  clear hrow hrs hfr hb2 HA hz
  go_wp2_with fail
  refine HB.out.mono ?_
  rintro e w3 ⟨h3, hb3⟩
  rcases h3 with ⟨_, gu, gv, rfl, hru, hrv⟩ | ⟨h3, _⟩
  case inr => rw [Hrs.out, HU.out] at h3; cases h3
  rw [Hrs.out] at hru hrv
  have hz := (hb3.block w.heap.size Hlt.out).trans Hz.out
  have z0 := cell_of_row _ _ 0 _ _ _ hz
  have z1 := cell_of_row _ _ 1 _ _ _ hz
  have y0 := frozen_new hz 0
  have y1 := frozen_new hz 1
  simp at z0 z1
  have HB3 := hidIn (HB2.out.trans (hb3.mono HB2.out.size))
  have Hru := hidIn hru
  have Hrv := hidIn hrv
  obtain ⟨ga, gcap, rfl⟩ := row_shape hru
  obtain ⟨gb, gcap2, rfl⟩ := row_shape hrv
  obtain ⟨NN, hNN⟩ : ∃ NN, (bothN (allR (fR f) 24)).length = NN := ⟨_, rfl⟩
  obtain ⟨EE, hEE⟩ : ∃ EE, (bothE (allR (fR f) 24)).length = EE := ⟨_, rfl⟩
  rw [hNN] at Hru ⊢
  rw [hEE] at Hrv ⊢
  have HNE := hidIn (And.intro hNN hEE)
  clear hru hrv hb3 hz HB hNN hEE
  go_wp2_with fail
  have hlt := Hlt.out
  refine bodyPost_ret (v := .tuple #[grV (.slice ga NN gcap) (.slice gb EE gcap2), .int .i64 0]) (by simp [results, Try.results21, asAddr, Result.andThen, go_sem, z0, z1]) rfl ⟨⟨_, _, rfl, ?_, ?_⟩, ?_⟩
  · rw [HNE.out.1]
    exact row_low (row_fr Hru.out ((((Fr.refl (fun j => j = w.heap.size) w3).set (p := ⟨w.heap.size, 0, none⟩) rfl _).set (p := ⟨w.heap.size, 1, none⟩) rfl _)) (fun j hj e => by
      rcases Hru.out.2 with ⟨h, _⟩ | ⟨g, cap, cur, h, hb, _⟩
      · rw [h] at hj; simp [Value.ownBlock] at hj
      · rw [h] at hj; simp [Value.ownBlock] at hj; omega)) (Nat.le_of_lt hlt)
  · rw [HNE.out.2]
    exact row_low (row_fr Hrv.out ((((Fr.refl (fun j => j = w.heap.size) w3).set (p := ⟨w.heap.size, 0, none⟩) rfl _).set (p := ⟨w.heap.size, 1, none⟩) rfl _)) (fun j hj e => by
      rcases Hrv.out.2 with ⟨h, _⟩ | ⟨g, cap, cur, h, hb, _⟩
      · rw [h] at hj; simp [Value.ownBlock] at hj
      · rw [h] at hj; simp [Value.ownBlock] at hj; omega)) (Nat.le_of_lt hlt)
  · exact (HB3.out.setCell (p := ⟨w.heap.size, 0, none⟩) (Nat.le_refl _) _).setCell (p := ⟨w.heap.size, 1, none⟩) (Nat.le_refl _) _
end Go.Proofs.Ytllmocfiobbofaa
namespace Go.Proofs.Ytllmocfiobbofaa
open Go.RowKit Go.Maps

set_option maxRecDepth 100000 in
theorem sisR_any (n : Int) (w : World) : Calls Try.prog 48 #[.int .i64 n] w fun e w' => e = .returned (.bool (isR n)) ∧ w' = w := by
  by_cases h1 : 1 ≤ n
  · by_cases h2 : n ≤ 24
    · have : isR n = true := isR_iff.2 ⟨h1, h2⟩
      rw [this]
      go_enter Try.func48, Try.ntmps48
      go_wp2
      go_ret
      exact ⟨rfl, rfl⟩
    · have : isR n = false := by simp [isR]; omega
      rw [this]
      go_enter Try.func48, Try.ntmps48
      go_wp2
      go_ret
      exact ⟨rfl, rfl⟩
  · have : isR n = false := by simp [isR]; omega
    rw [this]
    go_enter Try.func48, Try.ntmps48
    go_wp2
    go_ret
    exact ⟨rfl, rfl⟩
theorem bothN_has {F : Rf} (hF : ∀ k g, F k = some g → g.origin = k ∧ 1 ≤ k ∧ k ≤ 24) {r : Int} (h : (F r).isSome = true) : hasN (bothN (allR F 24)) r = true := by
  obtain ⟨g, hg⟩ := Option.isSome_iff_exists.1 h
  obtain ⟨h1, h2, h3⟩ := hF r g hg
  rw [hasN_iff]
  unfold bothN
  rw [mem_markedL]
  refine ⟨r.toNat, by omega, ?_, by omega⟩
  rw [thereL_iff]
  right
  refine ⟨g, ?_, by omega⟩
  unfold allR
  refine List.mem_filterMap.2 ⟨r.toNat - 1, by simp; omega, ?_⟩
  rw [show (((r.toNat - 1 : Nat) : Int) + 1) = r from by omega]
  exact hg
/-- What Live answers. -/
def LvAns (w w' : World) (f : Sf) (root : Int) (e : Ending) : Prop :=
  (isR root = false ∧ e = .returned (.tuple #[.slice none 0 0, .int .i64 2])) ∨ (isR root = true ∧ (f root).isSome = false ∧ e = .returned (.tuple #[.slice none 0 0, .int .i64 0])) ∨
    (isR root = true ∧ (f root).isSome = true ∧ ∃ p u L, IsPart (bothE (allR (fR f) 24)) root p ∧ e = .returned (.tuple #[u, .int .i64 0]) ∧ w'.ownsRow w.heap.size 28 6 u L.length (fl rcc L) ∧ rcs L = (markedL p).map (fun k => rOf (f k)) ∧ ∀ x ∈ L, FrRec w w' x)
set_option maxRecDepth 100000 in
set_option maxHeartbeats 2000000 in
theorem slive_any {S M n : Nat} {f : Sf} {w : World} (h : StAt w S M n f) {root : Int} (hk : (Lit.int .i64 root).wf = true) :
    Calls Try.prog 24 #[ptr S, .int .i64 root] w fun e w' => LvAns w w' f root e ∧ Below w.heap.size w w' := by
  have HS := hidIn h
  have HG := hidIn (sgraph_any h)
  have Hok := hidIn (both_may (unl_all h))
  have hbn : (f root).isSome = true → hasN (bothN (allR (fR f) 24)) root = true := fun hs => bothN_has (fun k g hg => by have h1 := h.org hg; have h2 := recOk_pos h1.1; omega) (by unfold fR; cases hq : f root <;> simp_all)
  have Hbn := hidIn hbn
  have HLk := hidIn (fun wq (hq : Below w.heap.size w wq) => (by
    have := (h.keep hq).m.look hk
    rw [sV_get, sV_some] at this
    exact this : (Instr.lookup 79 (.map (some M)) (.int .i64 root) true).run Try.prog wq = .ok (.tuple #[recV (rOf (f root)) (uOf (f root)), .bool (f root).isSome]) wq))
  obtain ⟨ru, hru⟩ : ∃ a c, uOf (f root) = .slice a (rOf (f root)).adjs.length c := by obtain ⟨a, c, e, _⟩ := (h.u root).1; exact ⟨a, c, e⟩
  obtain ⟨rcu, hru⟩ := hru
  rw [hru] at HLk
  clear h hk hbn hru
  go_enter Try.func24, Try.ntmps24
  go_wp2_with fail
  refine HG.out.mono ?_
  rintro e w2 ⟨⟨gu, gv, rfl, hru, hrv⟩, hb2⟩
  have HGA : Hid (GrAt w2 gu gv (bothN (allR (fR f) 24)) (bothE (allR (fR f) 24))) := hidIn ⟨slAt_of_row (cs := ic) (fun _ => rfl) hru rfl, slAt_of_row (cs := ec) (fun _ => rfl) hrv rfl⟩
  obtain ⟨ga, gcap, rfl⟩ := row_shape hru
  obtain ⟨gb, gcap2, rfl⟩ := row_shape hrv
  have HB2 := hidIn hb2
  generalize (bothN (allR (fR f) 24)).length = NN at HGA ⊢
  generalize (bothE (allR (fR f) 24)).length = EE at HGA ⊢
  clear hru hrv hb2 HG
  obtain ⟨W3, hW3⟩ : ∃ W3, w2.alloc (.cells #[.slice ga NN gcap, .slice gb EE gcap2] 49) = W3 := ⟨_, rfl⟩
  have b3 : Below w2.heap.size w2 W3 := by rw [← hW3]; exact (Below.refl _ w2).alloc (Nat.le_refl _) _
  have HX3 : Hid (W3.heap[w2.heap.size]? = some (.cells #[.slice ga NN gcap, .slice gb EE gcap2] 49)) := hidIn (by rw [← hW3]; exact heap_alloc_last w2 _)
  have HGA3 := hidIn (HGA.out.keep b3 (Nat.le_refl _))
  have HB3 := hidIn (HB2.out.trans (b3.mono HB2.out.size))
  have HW := hidIn hW3
  obtain ⟨b6, hb6⟩ : ∃ b6, w2.heap.size = b6 := ⟨_, rfl⟩
  rw [hb6] at HX3
  clear b3 hW3 HGA HB2
  go_upto_region 2 with fail
  rw [HW.out]
  clear HW hb6
  go_wp2_with fail
  refine (sisR_any root _).mono ?_
  rintro e w1 ⟨rfl, h1⟩
  rw [h1]
  clear h1 w1
  by_cases hR : isR root = true
  · rw [hR]
    have HR := hidIn hR
    have h0 := (HS.out.keep HB3.out).slot
    have hl := HLk.out W3 HB3.out
    have HS3 := hidIn (HS.out.keep HB3.out)
    clear hR HLk
    cases hsm : (f root).isSome with
    | false =>
      have Hsm := hidIn hsm
      rw [hsm] at hl
      clear hsm
      generalize rOf (f root) = r0 at hl
      obtain ⟨ro, re, rs, rc, ri, rl⟩ := r0
      simp only at hl
      generalize rl.length = nl at hl
      go_wp2_with (refine l_look rfl _ _ 79 true rfl hl ?_)
      go_returns
      exact ⟨.inr (.inl ⟨HR.out, Hsm.out, rfl⟩), HB3.out.alloc HB3.out.size _⟩
    | true =>
      have Hsm := hidIn hsm
      rw [hsm] at hl
      clear hsm
      generalize rOf (f root) = r0 at hl
      obtain ⟨ro, re, rs, rc, ri, rl⟩ := r0
      simp only at hl
      generalize rl.length = nl at hl
      obtain ⟨W4, hW4⟩ : ∃ W4, W3.alloc (.cells #[.int .i64 ro, .int .u32 re, .int .u32 rs, .int .i64 rc, .bool ri, .slice ru nl rcu] 28) = W4 := ⟨_, rfl⟩
      have b4 : Below W3.heap.size W3 W4 := by rw [← hW4]; exact (Below.refl _ W3).alloc (Nat.le_refl _) _
      have hX4 := (b4.block _ (block_lt HX3.out)).trans HX3.out
      have HPt := hidIn (part_any (HGA3.out.keep b4 (Nat.le_refl _)) root)
      have HB4 := hidIn (HB3.out.trans (b4.mono HB3.out.size))
      have HW := hidIn hW4
      have x0 := cell_of_row _ _ 0 _ _ _ hX4
      have x1 := cell_of_row _ _ 1 _ _ _ hX4
      simp at x0 x1
      clear b4 hW4 hX4 HX3 HGA3 HB3
      go_upto_region 9 with (refine l_look rfl _ _ 79 true rfl hl ?_)
      rw [HW.out]
      clear HW h0 hl
      go_wp2_with fail
      refine HPt.out.mono ?_
      rintro e w5 ⟨h5, hb5⟩
      rcases h5 with ⟨_, p, up, hp, rfl, hrp⟩ | ⟨h5, _⟩
      case inr =>
        rw [Hok.out, Hbn.out Hsm.out] at h5
        cases h5
      have HB5 := hidIn (HB4.out.trans (hb5.mono HB4.out.size))
      obtain ⟨pa, pcap, rfl, hpl, _, hpc⟩ := (slAt_of_row (cs := ic) (fun _ => rfl) hrp rfl).ints
      have Hpc := hidIn hpc
      have Hp := hidIn hp
      have hm25 := markedL_len p
      obtain ⟨ML, hML⟩ : ∃ ML, (markedL p).length = ML := ⟨_, rfl⟩
      have HML := hidIn hML
      rw [hML] at Hpc hm25 hpl ⊢
      clear hb5 hrp hpc hp hML HPt x0 x1 HB4
      have HS5 := hidIn (HS.out.keep HB5.out)
      go_wp2_with fail
      go_loopw [11, 44] (fun u q wr => ∃ k : Nat, k ≤ ML ∧ q = .int .i64 k ∧ Hid (∃ L, wr.ownsRow w5.heap.size 28 6 u L.length (fl rcc L) ∧ rcs L = ((markedL p).take k).map (fun k => rOf (f k)) ∧ (∀ x ∈ L, FrRec w5 wr x) ∧ L.length = k ∧ Below w5.heap.size w5 wr)) (fun _ q _ => ML - (intOf q).toNat)
      case atStart => exact ⟨0, Nat.zero_le _, rfl, hidIn ⟨[], World.ownsRow_nil _ _ _ _, rfl, fun x hx => by simp at hx, rfl, Below.refl _ _⟩⟩
      case round =>
        obtain ⟨k, hk, rfl, HR2⟩ := hrel
        by_cases hlt : k < ML
        · have hki : (k : Int) < (ML : Int) := by omega
          obtain ⟨L, hrow, hrs, hfr, hLk, hbel⟩ := HR2.out
          obtain ⟨z, hz⟩ : ∃ z, (markedL p)[k]? = some z := ⟨(markedL p)[k]'(by rw [HML.out]; exact hlt), List.getElem?_eq_getElem _⟩
          obtain ⟨i, hi, _, hzi⟩ := mem_markedL.1 (List.mem_of_getElem? hz)
          obtain ⟨bk, o, rfl, hbk, hcell⟩ := Hpc.out (by omega)
          have p0 := (hbel.cell (p := ⟨bk, o + k, none⟩) hbk).trans (hcell k z hz)
          have HT : Hid (((markedL p).take (k + 1)).map (fun k => rOf (f k)) = ((markedL p).take k).map (fun k => rOf (f k)) ++ [rOf (f z)]) := hidIn (by rw [List.take_add_one, hz]; simp)
          have hSr := HS5.out.keep hbel
          have h0 := hSr.slot
          have HL : Hid ((Instr.lookup 79 (.map (some M)) (.int .i64 z) false).run Try.prog wr = .ok (recV (rOf (f z)) (uOf (f z))) wr) := hidIn (by
            have := hSr.m.look1 (x := z) (wf9 (by omega))
            rw [sV_get] at this
            exact this)
          obtain ⟨hu, hu16, _⟩ := hSr.u z
          have HC := hidIn (copied_any hu (by omega))
          obtain ⟨ua, ucap, hue, _⟩ := hu
          rw [hue] at HL HC
          obtain ⟨va, vcap, rfl⟩ := row_shape hrow
          have Hrow := hidIn hrow
          have Hrs := hidIn hrs
          have Hfr := hidIn hfr
          have HBel := hidIn hbel
          have HLk := hidIn hLk
          clear HR2 hrow hrs hfr hbel hz hi hzi hcell hbk hSr hue hu16
          generalize hro : rOf (f z) = r at HL HC HT
          clear hro
          obtain ⟨ro, re, rs, rc, ri, rl⟩ := r
          simp only at HL HC
          generalize hnl2 : rl.length = nl2 at HL HC
          clear hnl2
          rw [hLk] at Hrow ⊢
          clear hLk
          go_wp2_with (refine l_look rfl _ _ 79 false rfl HL.out ?_)
          refine HC.out.mono ?_
          rintro e w6 ⟨⟨a, c, rfl, hs, hn, hf⟩, hb6⟩
          simp only at hs hn ⊢
          have HBel6 := HBel.out.trans (hb6.mono HBel.out.size)
          have hx6 : FrRec w5 w6 (⟨ro, re, rs, rc, ri, rl⟩, .slice a rl.length c) := ⟨a, c, rfl, hs, hn, (show Fresh wr w6 a from hf).old HBel.out.size⟩
          obtain ⟨gg, gcap3, w7, hrun, hown, hb7, hF7⟩ := append_recF (row_below Hrow.out hb6 (Nat.le_refl _)) (⟨ro, re, rs, rc, ri, rl⟩, .slice a rl.length c) rfl (by omega) HBel6.size
          have HRun := hidIn hrun
          have HO : Hid (∃ L, w7.ownsRow w5.heap.size 28 6 (.slice (some ⟨gg, 0, none⟩) (k + 1) gcap3) L.length (fl rcc L) ∧ rcs L = ((markedL p).take (k + 1)).map (fun k => rOf (f k)) ∧ (∀ x ∈ L, FrRec w5 w7 x) ∧ L.length = k + 1 ∧ Below w5.heap.size w5 w7) := hidIn (by
            have hno : ∀ (j : Nat) (cur : Array Value), w6.heap[j]? = some (Obj.cells cur 78) → ¬ ∃ cur, w6.heap[j]? = some (Obj.cells cur 28) := fun j cur h ⟨cur', h'⟩ => by
              rw [h] at h'
              simp at h'
            have hl2 : (L ++ [((⟨ro, re, rs, rc, ri, rl⟩ : Rc), Value.slice a rl.length c)]).length = k + 1 := by rw [List.length_append, HLk.out]; rfl
            refine ⟨L ++ [(⟨ro, re, rs, rc, ri, rl⟩, .slice a rl.length c)], by rw [hl2]; exact hown, by rw [HT.out, ← Hrs.out]; simp, fun x hx => ?_, hl2, HBel6.trans hb7⟩
            rcases List.mem_append.1 hx with hx | hx
            · exact ((Hfr.out x hx).keep hb6).fr hF7 hno
            · rw [List.mem_singleton.1 hx]; exact hx6.fr hF7 hno)
          clear hrun hown hb7 hF7 hx6 HBel6 hs hn hf hb6 HC HL h0 p0 Hrow Hrs Hfr HBel HT
          generalize rl.length = nl3 at HRun ⊢
          go_wp2_with (refine l_append rfl _ _ 22 rfl HRun.out ?_)
          go_roundw
          case rel => exact ⟨k + 1, by omega, by go_num, HO⟩
          case measure => simp [intOf]; omega
        · have hki : ¬ (k : Int) < (ML : Int) := by omega
          obtain ⟨L, hrow, hrs, hfr, hLk, hbel⟩ := HR2.out
          obtain ⟨va, vcap, rfl⟩ := row_shape hrow
          have HO : Hid (LvAns w wr f root (.returned (.tuple #[.slice va L.length vcap, .int .i64 0])) ∧ Below w.heap.size w wr) := hidIn ⟨.inr (.inr ⟨HR.out, Hsm.out, p, _, L, Hp.out, rfl, row_low hrow HB5.out.size, by rw [hrs, List.take_of_length_le (by rw [HML.out]; omega)], fun x hx => by
            obtain ⟨a', c', e1, e2, e3, e4⟩ := hfr x hx
            exact ⟨a', c', e1, e2, e3, e4.old HB5.out.size⟩⟩), HB5.out.trans (hbel.mono HB5.out.size)⟩
          clear HR2 hrow hrs hfr hLk hbel
          generalize L.length = ll at HO ⊢
          go_wp2_with fail
          go_returns
          exact HO.out
  · have hR' : isR root = false := by simpa using hR
    have HR := hidIn hR'
    rw [hR']
    clear hR hR'
    go_wp2_with fail
    go_returns
    exact ⟨.inl ⟨HR.out, rfl⟩, HB3.out⟩
end Go.Proofs.Ytllmocfiobbofaa
namespace Go.Proofs.Ytllmocfiobbofaa
open Go.RowKit Go.Maps

set_option maxRecDepth 100000 in
theorem there_nil (w : World) : Calls Try.prog 38 #[.pointer none] w fun e w' => e = .returned (.bool false) ∧ w' = w := by
  go_enter Try.func38, Try.ntmps38
  go_wp2_with fail
  go_ret
  exact ⟨rfl, rfl⟩
set_option maxRecDepth 100000 in
theorem there_zero {S : Nat} {w : World} (h : w.heap[S]? = some (.cells #[.map none] 81)) : Calls Try.prog 38 #[ptr S] w fun e w' => e = .returned (.bool false) ∧ w' = w := by
  have h0 := cell_of_row _ _ 0 _ _ _ h
  have hn : ∀ w, (binOp BinOp.neq 79 (.map none) (.map none)).run Try.prog w = .ok (.bool false) w := fun w => by kernel_rfl
  simp at h0
  go_enter Try.func38, Try.ntmps38
  go_wp2_with fail
  go_ret
  exact ⟨rfl, rfl⟩
set_option maxRecDepth 100000 in
theorem put_nil (r : Rc) (a : Option Addr) (n c : Nat) (w : World) : Calls Try.prog 10 #[.pointer none, recV r (.slice a n c)] w fun e w' => e = .returned (.tuple #[.int .i64 0, .int .i64 1]) ∧ Below w.heap.size w w' := by
  obtain ⟨ro, re, rs, rc, ri, rl⟩ := r
  go_enter Try.func10, Try.ntmps10
  go_wp2_with fail
  refine (there_nil _).mono ?_
  rintro e w1 ⟨rfl, h1⟩
  rw [h1]
  clear h1 w1
  go_wp2_with fail
  go_returns
  exact ⟨rfl, (Below.refl _ w).alloc (Nat.le_refl _) _⟩
set_option maxRecDepth 100000 in
theorem missing_zero {S : Nat} {w : World} (h : w.heap[S]? = some (.cells #[.map none] 81)) : Calls Try.prog 28 #[ptr S, .slice none 0 0] w fun e w' => e = .returned (.tuple #[.slice none 0 0, .slice none 0 0, .int .i64 1]) ∧ Below w.heap.size w w' := by
  have HT := hidIn (there_zero h)
  clear h
  go_enter Try.func28, Try.ntmps28
  go_wp2_with fail
  refine HT.out.mono ?_
  rintro e w1 ⟨rfl, h1⟩
  rw [h1]
  clear h1 w1 HT
  go_wp2_with fail
  go_returns
  exact ⟨rfl, Below.refl _ w⟩
set_option maxRecDepth 100000 in
theorem get_nil (k : Int) (w : World) : Calls Try.prog 18 #[.pointer none, .int .i64 k] w fun e w' => e = .returned (.tuple #[noRec, .bool false]) ∧ Below w.heap.size w w' := by
  go_enter Try.func18, Try.ntmps18
  go_wp2_with fail
  refine (there_nil _).mono ?_
  rintro e w1 ⟨rfl, h1⟩
  rw [h1]
  clear h1 w1
  go_wp2_with fail
  exact bodyPost_ret (v := .tuple #[noRec, .bool false]) (by simp [results, Try.results18, asAddr, Result.andThen, go_sem]) rfl ⟨rfl, by go_grown⟩
set_option maxRecDepth 100000 in
theorem all_nil (w : World) : Calls Try.prog 13 #[.pointer none] w fun e w' => e = .returned (.slice none 0 0) ∧ Below w.heap.size w w' := by
  go_enter Try.func13, Try.ntmps13
  go_wp2_with fail
  go_loopw [3, 4] (fun u i wr => ∃ k : Nat, k ≤ 24 ∧ i = .int .i64 ((k : Int) + 1) ∧ u = .slice none 0 0 ∧ Hid (Below w.heap.size w wr)) (fun _ i _ => 25 - (intOf i).toNat)
  case atStart => exact ⟨0, by omega, rfl, rfl, hidIn (Below.refl _ _)⟩
  case round =>
    obtain ⟨k, hk, rfl, rfl, HR⟩ := hrel
    by_cases hlt : k < 24
    · have hki : (k : Int) + 1 ≤ 24 := by omega
      go_wp2_with fail
      refine (get_nil _ _).mono ?_
      rintro e w3 ⟨rfl, hb3⟩
      have HB := hidIn ((HR.out.trans (hb3.mono HR.out.size)).alloc (HR.out.trans (hb3.mono HR.out.size)).size (.cells #[.int .i64 0, .int .u32 0, .int .u32 0, .int .i64 0, .bool false, .slice none 0 0] 28))
      clear hb3 HR
      go_wp2_with fail
      go_roundw
      case rel => exact ⟨k + 1, by omega, by go_num, rfl, HB⟩
      case measure => simp [intOf]; omega
    · have hki : ¬ ((k : Int) + 1 ≤ 24) := by omega
      go_wp2_with fail
      go_ret
      exact ⟨rfl, HR.out⟩
set_option maxRecDepth 100000 in
theorem copy_nil (w : World) : Calls Try.prog 36 #[.pointer none] w fun e w' => e = .returned (.pointer none) ∧ w' = w := by
  go_enter Try.func36, Try.ntmps36
  go_wp2_with fail
  refine (there_nil _).mono ?_
  rintro e w1 ⟨rfl, h1⟩
  rw [h1]
  clear h1 w1
  go_wp2_with fail
  go_ret
  exact ⟨rfl, rfl⟩
/-- The first example's records, and what Put answers. -/
def kR : List Rc := [smR 1 1 1, smR 1 1 1, smR 1 1 2, smR 1 1 1, smR 1 2 1, smR 3 1 1]
def kW (k : Nat) : Int := if k = 1 then 0 else if k = 3 then -1 else 1
theorem k_put (k : Nat) (hk : k < 6) : ∃ r, kR[k]? = some r ∧ ckN r = 0 ∧ pnR (runR (kR.take k)) r = kW k ∧ r.adjs = [] ∧ 0 ≤ r.epoch ∧ 0 ≤ r.seq ∧ runR (kR.take (k + 1)) = putR (runR (kR.take k)) r := by
  match k, hk with
  | 0, _ => exact ⟨_, rfl, by decide, by decide, rfl, by decide, by decide, rfl⟩
  | 1, _ => exact ⟨_, rfl, by decide, by decide, rfl, by decide, by decide, rfl⟩
  | 2, _ => exact ⟨_, rfl, by decide, by decide, rfl, by decide, by decide, rfl⟩
  | 3, _ => exact ⟨_, rfl, by decide, by decide, rfl, by decide, by decide, rfl⟩
  | 4, _ => exact ⟨_, rfl, by decide, by decide, rfl, by decide, by decide, rfl⟩
  | 5, _ => exact ⟨_, rfl, by decide, by decide, rfl, by decide, by decide, rfl⟩
def sendC (F : Rf) (g : Nat → Ed) (n : Nat) : List Rc := (List.range n).filterMap fun (i : Nat) => if newI (gD (F (i : Int))).epoch (gD (F (i : Int))).seq (g i).2.1 (g i).2.2 = 1 then some (gD (F (i : Int))) else none
def wantC (F : Rf) (g : Nat → Ed) (n : Nat) : List Int := (List.range n).filterMap fun (i : Nat) => if newI (gD (F (i : Int))).epoch (gD (F (i : Int))).seq (g i).2.1 (g i).2.2 = -1 then some (i : Int) else none
theorem sendL_C (f : Sf) (g : Nat → Ed) (n : Nat) : sendL f g n = sendC (fR f) g n := rfl
theorem wantL_C (f : Sf) (g : Nat → Ed) (n : Nat) : wantL f g n = wantC (fR f) g n := rfl
theorem k_by : byS [(1, 1, 9), (2, 1, 1)] = some (upS (upS no3 1 (1, 1, 9)) 2 (2, 1, 1)) ∧ byS [(1, 1, 1), (1, 1, 2)] = none := ⟨rfl, rfl⟩
theorem k_mis : (sendC (runR kR) (upS (upS no3 1 (1, 1, 9)) 2 (2, 1, 1)) 25).length = 2 ∧ wantC (runR kR) (upS (upS no3 1 (1, 1, 9)) 2 (2, 1, 1)) 25 = [2] := by
  refine ⟨by decide, by decide⟩
theorem k_no : ckN (smR 0 1 1) = 2 ∧ ∀ F, pnR F (smR 0 1 1) = 0 := ⟨by decide, fun F => by unfold pnR; rw [if_neg (by decide)]⟩
/-- The second example's records. -/
def kA : Rc := ⟨1, 1, 1, 0, false, [(2, 5)]⟩
def kB : Rc := ⟨2, 1, 1, 0, false, [(1, 5)]⟩
theorem k_three : bothE (allR (runR [kA, kB, smR 3 1 1]) 24) = [(1, 2, 5), (2, 1, 5)] ∧ runR [kA, kB, smR 3 1 1] 4 = none ∧ runR [kA, kB, smR 3 1 1] 1 = some kA ∧ runR [kA, kB, smR 3 1 1] 3 = some (smR 3 1 1) := by
  refine ⟨by decide, rfl, rfl, rfl⟩
theorem k_p1 {f : Nat → Bool} (h : IsPart [(1, 2, 5), (2, 1, 5)] 1 f) : markedL f = [1, 2] := by
  have k : IsPart [(1, 2, 5), (2, 1, 5)] 1 (mk1 (mk1 no1 1) 2) := by
    refine ⟨fun i hi => ?_, fun i _ hr => ?_⟩
    · have : i = 1 ∨ i = 2 := by simp [mk1, no1] at hi; omega
      rcases this with rfl | rfl
      · exact fun S h1 _ => h1
      · exact fun S h1 h2 => h2 (1, 2, 5) (by simp) h1
    · have := hr (fun x => x = 1 ∨ x = 2) (.inl rfl) (fun e he _ => by
        simp only [List.mem_cons, List.not_mem_nil, or_false] at he
        rcases he with rfl | rfl <;> simp)
      have : i = 1 ∨ i = 2 := by omega
      rcases this with rfl | rfl <;> simp [mk1]
  rw [h.same k]
  decide
theorem k_p3 {f : Nat → Bool} (h : IsPart [(1, 2, 5), (2, 1, 5)] 3 f) : markedL f = [3] := by
  have k : IsPart [(1, 2, 5), (2, 1, 5)] 3 (mk1 no1 3) := by
    refine ⟨fun i hi => ?_, fun i _ hr => ?_⟩
    · have : i = 3 := by simp [mk1, no1] at hi; omega
      subst this
      exact fun S h1 _ => h1
    · have := hr (fun x => x = 3) rfl (fun e he hs => by
        simp only [List.mem_cons, List.not_mem_nil, or_false] at he
        rcases he with rfl | rfl <;> simp at hs)
      have : i = 3 := by omega
      subst this
      simp [mk1]
  rw [h.same k]
  decide
end Go.Proofs.Ytllmocfiobbofaa
namespace Go.Proofs.Ytllmocfiobbofaa
open Go.RowKit Go.Maps

theorem recs_block {w : World} {b : Nat} {T : TypeId} (l : List (Rc × Value)) (h : w.heap[b]? = some (.cells (fl rcc l).toArray T)) (hl : l.length ≤ 1000) : SlAt rcc 6 w (.slice (some ⟨b, 0, none⟩) l.length l.length) l := slAt_block (cs := rcc) (sz := 6) (fun _ => rfl) h hl
theorem sts_block {w : World} {b : Nat} {T : TypeId} (l : List Ed) (h : w.heap[b]? = some (.cells (fl sc3 l).toArray T)) (hl : l.length ≤ 1000) : SlAt sc3 3 w (.slice (some ⟨b, 0, none⟩) l.length l.length) l := slAt_block (cs := sc3) (sz := 3) (fun _ => rfl) h hl
theorem adjs_block {w : World} {b : Nat} {T : TypeId} (l : List (Int × Int)) (h : w.heap[b]? = some (.cells (fl ac l).toArray T)) (hl : l.length ≤ 1000) : SlAt ac 2 w (.slice (some ⟨b, 0, none⟩) l.length l.length) l := slAt_block (cs := ac) (sz := 2) (fun _ => rfl) h hl
def kL : List (Rc × Value) := kR.map fun r => (r, .slice none 0 0)
set_option maxRecDepth 100000 in
set_option maxHeartbeats 8000000 in
theorem storeKnown_walk (w : World) : Calls Try.prog 7 #[] w fun e w' => e = .returned (.bool true) ∧ Below w.heap.size w w' := by
  go_enter Try.func7, Try.ntmps7
  go_wp2_with fail
  refine (snew_any _).mono ?_
  rintro e w1 ⟨⟨S, M, rfl, hn, hS, hM⟩, hb1⟩
  have H0 := hidIn hn
  have HB0 := hidIn hb1
  have HM := hidIn hM
  clear hn hS hM hb1
  go_wp2_with fail
  refine (small_any _ _ _ _).mono ?_
  rintro e wa0 ⟨rfl, hb⟩
  have Ha0 := hidIn (H0.out.keep hb)
  have HBa0 := hidIn (HB0.out.trans (hb.mono HB0.out.size))
  clear hb H0 HB0
  go_wp2_with fail
  refine (small_any _ _ _ _).mono ?_
  rintro e wa1 ⟨rfl, hb⟩
  have Ha1 := hidIn (Ha0.out.keep hb)
  have HBa1 := hidIn (HBa0.out.trans (hb.mono HBa0.out.size))
  clear hb Ha0 HBa0
  go_wp2_with fail
  refine (small_any _ _ _ _).mono ?_
  rintro e wa2 ⟨rfl, hb⟩
  have Ha2 := hidIn (Ha1.out.keep hb)
  have HBa2 := hidIn (HBa1.out.trans (hb.mono HBa1.out.size))
  clear hb Ha1 HBa1
  go_wp2_with fail
  refine (small_any _ _ _ _).mono ?_
  rintro e wa3 ⟨rfl, hb⟩
  have Ha3 := hidIn (Ha2.out.keep hb)
  have HBa3 := hidIn (HBa2.out.trans (hb.mono HBa2.out.size))
  clear hb Ha2 HBa2
  go_wp2_with fail
  refine (small_any _ _ _ _).mono ?_
  rintro e wa4 ⟨rfl, hb⟩
  have Ha4 := hidIn (Ha3.out.keep hb)
  have HBa4 := hidIn (HBa3.out.trans (hb.mono HBa3.out.size))
  clear hb Ha3 HBa3
  go_wp2_with fail
  refine (small_any _ _ _ _).mono ?_
  rintro e wx ⟨rfl, hb⟩
  have Hx := hidIn (Ha4.out.keep hb)
  have HBx := hidIn (HBa4.out.trans (hb.mono HBa4.out.size))
  clear hb Ha4 HBa4
  have HX : Hid (∀ wq, wq = wx.alloc (.cells (fl rcc kL).toArray 28) → StAt wq S M 0 (fun _ => none) ∧ Below w.heap.size w wq ∧ SlAt rcc 6 wq (.slice (some ⟨wx.heap.size, 0, none⟩) 6 6) kL) := hidIn fun wq h => by
    subst h
    have b := (Below.refl wx.heap.size wx).alloc (Nat.le_refl _) (.cells (fl rcc kL).toArray 28)
    exact ⟨Hx.out.keep b, HBx.out.trans (b.mono HBx.out.size), recs_block kL (heap_alloc_last wx _) (by decide)⟩
  have HkL : Hid ((fl rcc kL).toArray = #[.int .i64 1, .int .u32 1, .int .u32 1, .int .i64 0, .bool false, .slice none 0 0, .int .i64 1, .int .u32 1, .int .u32 1, .int .i64 0, .bool false, .slice none 0 0, .int .i64 1, .int .u32 1, .int .u32 2, .int .i64 0, .bool false, .slice none 0 0, .int .i64 1, .int .u32 1, .int .u32 1, .int .i64 0, .bool false, .slice none 0 0, .int .i64 1, .int .u32 2, .int .u32 1, .int .i64 0, .bool false, .slice none 0 0, .int .i64 3, .int .u32 1, .int .u32 1, .int .i64 0, .bool false, .slice none 0 0]) := hidIn rfl
  simp only [smR]
  obtain ⟨W2, hW2⟩ : ∃ W2, wx.alloc (.cells (fl rcc kL).toArray 28) = W2 := ⟨_, rfl⟩
  obtain ⟨h2a, h2b, h2c⟩ := HX.out W2 hW2.symm
  have hrowT : W2.heap[wx.heap.size]? = some (.cells (fl rcc kL).toArray 28) := by rw [← hW2]; exact heap_alloc_last wx _
  rw [HkL.out] at hW2
  have HW := hidIn hW2
  have HS2 := hidIn h2a
  have HB2 := hidIn h2b
  have Hcl := hidIn h2c.recs
  have HrT := hidIn hrowT
  obtain ⟨b35, hb35⟩ : ∃ b35, wx.heap.size = b35 := ⟨_, rfl⟩
  rw [hb35] at HrT Hcl
  clear h2a h2b h2c HX HkL hW2 Hx HBx hrowT
  go_wp2_with fail
  rw [HW.out]
  clear HW hb35
  go_loopw [37] (fun q wr => ∃ k : Nat, k ≤ 6 ∧ q = .int .i64 k ∧ Hid (∃ f, StAt wr S M k f ∧ fR f = runR (kR.take k) ∧ Fr (fun j => j = M) W2 wr)) (fun q _ => 6 - (intOf q).toNat)
  case atStart => exact ⟨0, Nat.zero_le _, rfl, hidIn ⟨_, HS2.out, rfl, Fr.refl _ _⟩⟩
  case round =>
    obtain ⟨k, hk, rfl, HR⟩ := hrel
    by_cases hlt : k < 6
    · have hki : (k : Int) < 6 := by omega
      obtain ⟨f, g1, g2, g3⟩ := HR.out
      obtain ⟨r, hr, hck, hpn, hadj, he0, hs0, hrn⟩ := k_put k hlt
      obtain ⟨a', c', hae, _, _, hcell⟩ := Hcl.out
      obtain ⟨bk, o, hbo, hbk, hcell⟩ := hcell (by decide)
      simp only [Value.slice.injEq] at hae
      rw [← hae.1] at hbo
      simp only [Option.some.injEq, Addr.mk.injEq] at hbo
      obtain ⟨rfl, rfl, _⟩ := hbo
      obtain ⟨q0, q1, q2, q3, q4, q5⟩ := hcell k (r, .slice none 0 0) (by show (kR.map _)[k]? = _; rw [List.getElem?_map, hr]; rfl)
      have hbb := g3.block b35 hbk (fun e => by
        obtain ⟨es, cl, hm⟩ := HS2.out.m.isMap
        have := HrT.out
        rw [e, hm] at this
        cases this)
      have p0 := (World.cell?_of_block (a := ⟨b35, 0 + k * 6, none⟩) hbb).trans q0
      have p1 := (World.cell?_of_block (a := ⟨b35, 0 + k * 6 + 1, none⟩) hbb).trans q1
      have p2 := (World.cell?_of_block (a := ⟨b35, 0 + k * 6 + 2, none⟩) hbb).trans q2
      have p3 := (World.cell?_of_block (a := ⟨b35, 0 + k * 6 + 3, none⟩) hbb).trans q3
      have p4 := (World.cell?_of_block (a := ⟨b35, 0 + k * 6 + 4, none⟩) hbb).trans q4
      have p5 := (World.cell?_of_block (a := ⟨b35, 0 + k * 6 + 5, none⟩) hbb).trans q5
      simp only [Nat.zero_add] at p0 p1 p2 p3 p4 p5
      obtain ⟨W3, hW3⟩ : ∃ W3, wr.alloc (.cells #[.int .i64 r.origin, .int .u32 r.epoch, .int .u32 r.seq, .int .i64 r.claim, .bool r.ing, .slice none 0 0] 28) = W3 := ⟨_, rfl⟩
      have b3 : Below wr.heap.size wr W3 := by rw [← hW3]; exact (Below.refl _ wr).alloc (Nat.le_refl _) _
      have hX3 : W3.heap[wr.heap.size]? = some (.cells #[.int .i64 r.origin, .int .u32 r.epoch, .int .u32 r.seq, .int .i64 r.claim, .bool r.ing, .slice none 0 0] 28) := by rw [← hW3]; exact heap_alloc_last wr _
      have HP := hidIn (sputP (r := r) (va := .slice none 0 0) (g1.keep b3) (by omega) (by rw [hadj]; exact nilAdj W3) ⟨he0, hs0⟩)
      rw [g2, hpn, hck] at HP
      have Hfr := hidIn g2
      have Hrn := hidIn hrn
      have Hb3 : Hid (Fr (fun j => j = M) W2 W3) := hidIn (g3.trans (Fr.of_below b3))
      have HW := hidIn hW3
      obtain ⟨b3i, hb3i⟩ : ∃ b3i, wr.heap.size = b3i := ⟨_, rfl⟩
      rw [hb3i] at hX3
      have x0 := cell_of_row _ _ 0 _ _ _ hX3
      have x1 := cell_of_row _ _ 1 _ _ _ hX3
      have x2 := cell_of_row _ _ 2 _ _ _ hX3
      have x3 := cell_of_row _ _ 3 _ _ _ hX3
      have x4 := cell_of_row _ _ 4 _ _ _ hX3
      have x5 := cell_of_row _ _ 5 _ _ _ hX3
      simp at x0 x1 x2 x3 x4 x5
      clear HR g1 g2 g3 hr hck hpn hadj he0 hs0 hrn hcell q0 q1 q2 q3 q4 q5 hbb hbk b3 hX3 hW3 hae
      go_upto_region 7 with fail
      rw [HW.out]
      clear HW hb3i p0 p1 p2 p3 p4 p5
      by_cases c1 : k = 1
      · have hw : kW k = 0 := by rw [c1]; rfl
        rw [hw] at HP
        have q0 : ((k : Int) == 1) = true := by rw [c1]; rfl
        have q1 : ((k : Int) == 3) = false := by rw [c1]; rfl
        clear c1 hw
        go_wp2_with fail
        refine HP.out.mono ?_
        rintro e w4 ⟨rfl, ⟨f4, s4, e4⟩, hf4⟩
        have HO : Hid (∃ f, StAt w4 S M (k + 1) f ∧ fR f = runR (kR.take (k + 1)) ∧ Fr (fun j => j = M) W2 w4) := hidIn ⟨f4, s4, by rw [e4, Hrn.out], Hb3.out.trans hf4⟩
        clear s4 e4 hf4 HP Hb3 x0 x1 x2 x3 x4 x5
        go_wp2_with fail
        go_roundw
        case rel => exact ⟨k + 1, by omega, by go_num, HO⟩
        case measure => simp [intOf]; omega
      · by_cases c3 : k = 3
        · have hw : kW k = -1 := by rw [c3]; rfl
          rw [hw] at HP
          have q0 : ((k : Int) == 1) = false := by rw [c3]; rfl
          have q1 : ((k : Int) == 3) = true := by rw [c3]; rfl
          clear c1 c3 hw
          go_wp2_with fail
          refine HP.out.mono ?_
          rintro e w4 ⟨rfl, ⟨f4, s4, e4⟩, hf4⟩
          have HO : Hid (∃ f, StAt w4 S M (k + 1) f ∧ fR f = runR (kR.take (k + 1)) ∧ Fr (fun j => j = M) W2 w4) := hidIn ⟨f4, s4, by rw [e4, Hrn.out], Hb3.out.trans hf4⟩
          clear s4 e4 hf4 HP Hb3 x0 x1 x2 x3 x4 x5
          go_wp2_with fail
          go_roundw
          case rel => exact ⟨k + 1, by omega, by go_num, HO⟩
          case measure => simp [intOf]; omega
        · have hw : kW k = 1 := by unfold kW; rw [if_neg c1, if_neg c3]
          rw [hw] at HP
          have q0 : ((k : Int) == 1) = false := by simp; omega
          have q1 : ((k : Int) == 3) = false := by simp; omega
          clear c1 c3 hw
          go_wp2_with fail
          refine HP.out.mono ?_
          rintro e w4 ⟨rfl, ⟨f4, s4, e4⟩, hf4⟩
          have HO : Hid (∃ f, StAt w4 S M (k + 1) f ∧ fR f = runR (kR.take (k + 1)) ∧ Fr (fun j => j = M) W2 w4) := hidIn ⟨f4, s4, by rw [e4, Hrn.out], Hb3.out.trans hf4⟩
          clear s4 e4 hf4 HP Hb3 x0 x1 x2 x3 x4 x5
          go_wp2_with fail
          go_roundw
          case rel => exact ⟨k + 1, by omega, by go_num, HO⟩
          case measure => simp [intOf]; omega
    · have hki : ¬ (k : Int) < 6 := by omega
      obtain rfl : k = 6 := by omega
      obtain ⟨f, g1, g2, g3⟩ := HR.out
      obtain ⟨w4, rfl⟩ : ∃ w4, w4 = wr := ⟨_, rfl⟩
      have H4 := hidIn g1
      have Hf4 : Hid (fR f = runR kR) := hidIn g2
      have HB4 := hidIn (HB2.out.trans (g3.below HB2.out.size (fun j hj => by rw [hj]; exact HM.out)))
      clear g1 g2 g3 HR HS2 HB2 Hcl HrT
      go_wp2_with fail
      refine (small_any _ _ _ _).mono ?_
      rintro e w5 ⟨rfl, hb5⟩
      have HP := hidIn (sputP (r := smR 0 1 1) (va := .slice none 0 0) (H4.out.keep hb5) (by omega) (nilAdj w5) (by decide))
      rw [k_no.2, k_no.1] at HP
      have HB5 := hidIn (HB4.out.trans (hb5.mono HB4.out.size))
      simp only [smR] at HP ⊢
      clear hb5 H4 HB4
      go_wp2_with fail
      refine HP.out.mono ?_
      rintro e w6 ⟨rfl, ⟨f6, s6, e6⟩, hf6⟩
      have H6 := hidIn s6
      have Hf6 : Hid (fR f6 = runR kR) := hidIn (by rw [e6, Hf4.out]; unfold putR; rw [if_neg (fun h => absurd h.1 (by decide))])
      have HB6 := hidIn (HB5.out.trans (hf6.below HB5.out.size (fun j hj => by rw [hj]; exact HM.out)))
      clear s6 e6 hf6 HB5 HP Hf4
      go_wp2_with fail
      obtain ⟨W7, hW7⟩ : ∃ W7, w6.alloc (.cells #[.int .i64 1, .int .u32 1, .int .u32 9, .int .i64 2, .int .u32 1, .int .u32 1] 72) = W7 := ⟨_, rfl⟩
      have b7 : Below w6.heap.size w6 W7 := by rw [← hW7]; exact (Below.refl _ w6).alloc (Nat.le_refl _) _
      have hS7 := sts_block (w := W7) (b := w6.heap.size) (T := 72) [(1, 1, 9), (2, 1, 1)] (by rw [← hW7]; exact heap_alloc_last w6 _) (by decide)
      have HC := hidIn (smissing_any (H6.out.keep b7) hS7 (by decide))
      rw [k_by.1] at HC
      have H7 := hidIn (H6.out.keep b7)
      have HB7 := hidIn (HB6.out.trans (b7.mono HB6.out.size))
      rw [hW7]
      clear b7 hS7 hW7 H6 HB6
      simp only [List.length_cons, List.length_nil, Nat.zero_add, Nat.reduceAdd] at HC
      refine HC.out.mono ?_
      rintro e w8 ⟨h8, hb8⟩
      rcases h8 with ⟨h8, _⟩ | ⟨g, uS, vW, L, hg, rfl, hrS, hrs, _, hrW⟩
      · cases h8
      cases hg
      rw [sendL_C, Hf6.out] at hrs
      rw [wantL_C, Hf6.out, k_mis.2] at hrW
      have hL2 : L.length = 2 := by rw [← k_mis.1, ← hrs, List.length_map]
      rw [hL2] at hrS
      obtain ⟨sa, scap, rfl⟩ := row_shape hrS
      obtain ⟨wa, wcap, rfl, _, _, hwc⟩ := (slAt_of_row (cs := ic) (fun _ => rfl) hrW rfl).ints
      obtain ⟨wb, wo, rfl, hwb, hwc⟩ := hwc (by decide)
      have c0 := hwc 0 2 rfl
      have HA0 : Hid (∀ wq, Below w8.heap.size w8 wq → wq.cell? ⟨wb, wo, none⟩ = some (.int .i64 2)) := hidIn fun wq hq => (hq.cell (p := ⟨wb, wo, none⟩) hwb).trans c0
      have H8 := hidIn (H7.out.keep hb8)
      have HB8 := hidIn (HB7.out.trans (hb8.mono HB7.out.size))
      clear hrS hrs hrW hL2 hwc c0 hwb hb8 HC H7 HB7
      simp only [List.length_cons, List.length_nil, Nat.zero_add]
      go_wp2_with fail
      obtain ⟨W9, hW9⟩ : ∃ W9, w8.alloc (.cells #[.int .i64 1, .int .u32 1, .int .u32 1, .int .i64 1, .int .u32 1, .int .u32 2] 72) = W9 := ⟨_, rfl⟩
      have b9 : Below w8.heap.size w8 W9 := by rw [← hW9]; exact (Below.refl _ w8).alloc (Nat.le_refl _) _
      have hS9 := sts_block (w := W9) (b := w8.heap.size) (T := 72) [(1, 1, 1), (1, 1, 2)] (by rw [← hW9]; exact heap_alloc_last w8 _) (by decide)
      have HC := hidIn (smissing_any (H8.out.keep b9) hS9 (by decide))
      rw [k_by.2] at HC
      have H9 := hidIn (H8.out.keep b9)
      have HB9 := hidIn (HB8.out.trans (b9.mono HB8.out.size))
      have Hb89 := hidIn b9
      rw [hW9]
      clear b9 hS9 hW9 H8 HB8
      simp only [List.length_cons, List.length_nil, Nat.zero_add, Nat.reduceAdd] at HC
      refine HC.out.mono ?_
      rintro e w10 ⟨h10, hb10⟩
      rcases h10 with ⟨_, rfl⟩ | ⟨g, uS, vW, L, hg, _⟩
      case inr => cases hg
      have H10 := hidIn (H9.out.keep hb10)
      have HB10 := hidIn (HB9.out.trans (hb10.mono HB9.out.size))
      have Hb810 := hidIn (Hb89.out.trans (hb10.mono Hb89.out.size))
      have HC2 := hidIn (slive_any H10.out (root := 0) (by decide))
      clear hb10 HC H9 HB9 Hb89 H10
      go_wp2_with fail
      refine HC2.out.mono ?_
      rintro e w11 ⟨h11, hb11⟩
      rcases h11 with ⟨_, rfl⟩ | ⟨h11, _⟩ | ⟨h11, _⟩
      case inr.inl => exact absurd h11 (by decide)
      case inr.inr => exact absurd h11 (by decide)
      have HB11 := hidIn (HB10.out.trans (hb11.mono HB10.out.size))
      have c0 := HA0.out w11 (Hb810.out.trans (hb11.mono Hb810.out.size))
      clear hb11 HC2 HB10 Hb810 HA0
      go_wp2_with fail
      refine (snew_any _).mono ?_
      rintro e w12 ⟨⟨S', M', rfl, hn', _, hM'⟩, hb12⟩
      have H12 := hidIn hn'
      have HB12 := hidIn (HB11.out.trans (hb12.mono HB11.out.size))
      have HM' : Hid (w.heap.size ≤ M') := hidIn (Nat.le_trans HB11.out.size hM')
      clear hn' hM' hb12 HB11 c0
      go_wp2_with fail
      obtain ⟨V, hV⟩ : ∃ V, (((w12.alloc (.cells #[.int .i64 2, .int .i64 5] 78)).alloc (.cells #[.int .i64 1, .int .u32 1, .int .u32 1, .int .i64 0, .bool false, .slice (some ⟨w12.heap.size, 0, none⟩) 1 1] 28)).alloc (.cells #[.int .i64 1, .int .i64 5] 78)).alloc (.cells #[.int .i64 2, .int .u32 1, .int .u32 1, .int .i64 0, .bool false, .slice (some ⟨w12.heap.size + 1 + 1, 0, none⟩) 1 1] 28) = V := ⟨_, rfl⟩
      have bV : Below w12.heap.size w12 V := by rw [← hV]; exact ((((Below.refl _ w12).alloc (Nat.le_refl _) _).alloc (by simp) _).alloc (by simp <;> omega) _).alloc (by simp <;> omega) _
      have hA1 : V.heap[w12.heap.size]? = some (.cells #[.int .i64 2, .int .i64 5] 78) := by
        rw [← hV, Below.heap_alloc _ _ _ (by simp <;> omega), Below.heap_alloc _ _ _ (by simp <;> omega), Below.heap_alloc _ _ _ (by simp)]
        exact heap_alloc_last w12 _
      have hA2 : V.heap[w12.heap.size + 1]? = some (.cells #[.int .i64 1, .int .u32 1, .int .u32 1, .int .i64 0, .bool false, .slice (some ⟨w12.heap.size, 0, none⟩) 1 1] 28) := by
        rw [← hV, Below.heap_alloc _ _ _ (by simp <;> omega), Below.heap_alloc _ _ _ (by simp)]
        have := heap_alloc_last (w12.alloc (.cells #[.int .i64 2, .int .i64 5] 78)) (.cells #[.int .i64 1, .int .u32 1, .int .u32 1, .int .i64 0, .bool false, .slice (some ⟨w12.heap.size, 0, none⟩) 1 1] 28)
        rw [World.size_alloc] at this
        exact this
      have hA3 : V.heap[w12.heap.size + 1 + 1]? = some (.cells #[.int .i64 1, .int .i64 5] 78) := by
        rw [← hV, Below.heap_alloc _ _ _ (by simp)]
        have := heap_alloc_last ((w12.alloc (.cells #[.int .i64 2, .int .i64 5] 78)).alloc (.cells #[.int .i64 1, .int .u32 1, .int .u32 1, .int .i64 0, .bool false, .slice (some ⟨w12.heap.size, 0, none⟩) 1 1] 28)) (.cells #[.int .i64 1, .int .i64 5] 78)
        rw [World.size_alloc, World.size_alloc] at this
        exact this
      have hA4 : V.heap[w12.heap.size + 1 + 1 + 1]? = some (.cells #[.int .i64 2, .int .u32 1, .int .u32 1, .int .i64 0, .bool false, .slice (some ⟨w12.heap.size + 1 + 1, 0, none⟩) 1 1] 28) := by
        have := heap_alloc_last (((w12.alloc (.cells #[.int .i64 2, .int .i64 5] 78)).alloc (.cells #[.int .i64 1, .int .u32 1, .int .u32 1, .int .i64 0, .bool false, .slice (some ⟨w12.heap.size, 0, none⟩) 1 1] 28)).alloc (.cells #[.int .i64 1, .int .i64 5] 78)) (.cells #[.int .i64 2, .int .u32 1, .int .u32 1, .int .i64 0, .bool false, .slice (some ⟨w12.heap.size + 1 + 1, 0, none⟩) 1 1] 28)
        rw [World.size_alloc, World.size_alloc, World.size_alloc, hV] at this
        exact this
      have hSA := adjs_block (w := V) (b := w12.heap.size) (T := 78) [(2, 5)] hA1 (by decide)
      have hSB := adjs_block (w := V) (b := w12.heap.size + 1 + 1) (T := 78) [(1, 5)] hA3 (by decide)
      have hst := H12.out.keep bV
      have HP := hidIn (sputP (r := kA) (va := .slice (some ⟨w12.heap.size, 0, none⟩) 1 1) hst (by omega) hSA (by decide))
      rw [show ckN kA = 0 from by decide] at HP
      have HMV := hidIn hst.m.isMap
      have Hlt : Hid (M' < w12.heap.size) := hidIn H12.out.lts.2
      have HBV := hidIn (HB12.out.trans (bV.mono HB12.out.size))
      have HA2 := hidIn hA2
      have HA4 := hidIn hA4
      have HSB := hidIn hSB
      rw [hV]
      clear bV hA1 hA2 hA3 hA4 hSA hSB hst hV H12 HB12
      generalize pnR (fR fun _ => none) kA = pa at HP
      simp only [kA] at HP
      refine HP.out.mono ?_
      rintro e w13 ⟨rfl, ⟨f13, s13, e13⟩, hf13⟩
      have e13' : fR f13 = runR [kA] := e13
      have H13 := hidIn s13
      have Hf13 := hidIn hf13
      have He13 := hidIn e13'
      have HA4' := (hf13.block _ (block_lt HA4.out) (by have := Hlt.out; omega)).trans HA4.out
      have HP2 := hidIn (sputP (r := kB) (va := .slice (some ⟨w12.heap.size + 1 + 1, 0, none⟩) 1 1) s13 (by omega) (HSB.out.keepM hf13 HMV.out (by omega) (fun _ => rfl)) (by decide))
      rw [show ckN kB = 0 from by decide] at HP2
      have x0 := cell_of_row _ _ 0 _ _ _ HA4'
      have x1 := cell_of_row _ _ 1 _ _ _ HA4'
      have x2 := cell_of_row _ _ 2 _ _ _ HA4'
      have x3 := cell_of_row _ _ 3 _ _ _ HA4'
      have x4 := cell_of_row _ _ 4 _ _ _ HA4'
      have x5 := cell_of_row _ _ 5 _ _ _ HA4'
      simp at x0 x1 x2 x3 x4 x5
      clear s13 e13 e13' hf13 HA4' HP
      generalize pnR (fR f13) kB = pb at HP2
      simp only [kB] at HP2
      go_wp2_with fail
      refine HP2.out.mono ?_
      rintro e w14 ⟨rfl, ⟨f14, s14, e14⟩, hf14⟩
      have e14' : fR f14 = runR [kA, kB] := by rw [e14, He13.out]; rfl
      have H14 := hidIn s14
      have He14 := hidIn e14'
      have Hf14 := hidIn (Hf13.out.trans hf14)
      clear s14 e14 e14' hf14 HP2 x0 x1 x2 x3 x4 x5 H13 Hf13 He13
      go_wp2_with fail
      refine (small_any _ _ _ _).mono ?_
      rintro e w15 ⟨rfl, hb15⟩
      have HP3 := hidIn (sputP (r := smR 3 1 1) (va := .slice none 0 0) (H14.out.keep hb15) (by omega) (nilAdj w15) (by decide))
      rw [show ckN (smR 3 1 1) = 0 from by decide] at HP3
      have Hf15 := hidIn (Hf14.out.trans (Fr.of_below hb15))
      clear hb15 H14 Hf14
      generalize pnR (fR f14) (smR 3 1 1) = pc at HP3
      simp only [smR] at HP3 ⊢
      go_wp2_with fail
      refine HP3.out.mono ?_
      rintro e w16 ⟨rfl, ⟨f16, s16, e16⟩, hf16⟩
      have e16' : fR f16 = runR [kA, kB, smR 3 1 1] := by rw [e16, He14.out]; rfl
      have H16 := hidIn s16
      have He16 := hidIn e16'
      have hFV := Hf15.out.trans hf16
      have HB16 := hidIn (HBV.out.trans (hFV.below HBV.out.size (fun j hj => by rw [hj]; exact HM'.out)))
      have HA16 := hidIn ((hFV.block _ (block_lt HA2.out) (by have := Hlt.out; omega)).trans HA2.out)
      clear s16 e16 e16' hf16 HP3 Hf15 He14 hFV HBV HA2 HA4 HSB HMV
      have HL1 := hidIn (slive_any H16.out (root := 1) (by decide))
      have HIs1 : Hid ((f16 1).isSome = true) := hidIn (fR_some (by rw [He16.out]; exact k_three.2.2.1)).2
      have HIs3 := hidIn (fR_some (f := f16) (k := 3) (by rw [He16.out]; exact k_three.2.2.2))
      have HIs4 : Hid ((f16 4).isSome = false) := hidIn (by
        have := k_three.2.1
        rw [← He16.out] at this
        unfold fR at this
        cases hq : f16 4 with
        | none => rfl
        | some p => rw [hq] at this; cases this)
      go_wp2_with fail
      refine HL1.out.mono ?_
      rintro e w17 ⟨h17, hb17⟩
      rcases h17 with ⟨h17, _⟩ | ⟨_, h17, _⟩ | ⟨_, _, p, uL, L1, hp, rfl, hrL, hrs1, _⟩
      · exact absurd h17 (by decide)
      · rw [HIs1.out] at h17; cases h17
      rw [He16.out, k_three.1] at hp
      rw [k_p1 hp] at hrs1
      have hl1 : L1.length = 2 := by
        have := congrArg List.length hrs1
        simpa using this
      rw [hl1] at hrL
      obtain ⟨la1, lc1, rfl⟩ := row_shape hrL
      have HL3 := hidIn (slive_any (H16.out.keep hb17) (root := 3) (by decide))
      have Hb17 := hidIn hb17
      clear hp hrs1 hl1 hrL hb17 HL1 HIs1
      go_wp2_with fail
      refine HL3.out.mono ?_
      rintro e w18 ⟨h18, hb18⟩
      rcases h18 with ⟨h18, _⟩ | ⟨_, h18, _⟩ | ⟨_, _, p3, uL3, L3, hp, rfl, hrL, hrs3, _⟩
      · exact absurd h18 (by decide)
      · rw [HIs3.out.2] at h18; cases h18
      rw [He16.out, k_three.1] at hp
      rw [k_p3 hp] at hrs3
      obtain ⟨y, hy⟩ : ∃ y, L3 = [y] := List.length_eq_one_iff.1 (by
        have := congrArg List.length hrs3
        simpa using this)
      subst hy
      have hyo : y.1.origin = 3 := by
        have h1 : y.1 = rOf (f16 3) := by simpa using hrs3
        rw [h1, HIs3.out.1]
        rfl
      obtain ⟨la3, lc3, rfl, _, _, hlc⟩ := (slAt_of_row (cs := rcc) (fun _ => rfl) hrL rfl).recs
      obtain ⟨lb, lo, rfl, hlb, hlc⟩ := hlc (by simp)
      obtain ⟨d0, _⟩ := hlc 0 y rfl
      rw [hyo] at d0
      simp at d0
      have Hd0 : Hid (∀ wq, Below w18.heap.size w18 wq → wq.cell? ⟨lb, lo, none⟩ = some (.int .i64 3)) := hidIn fun wq hq => (hq.cell (p := ⟨lb, lo, none⟩) hlb).trans d0
      have Hb18 := hidIn (Hb17.out.trans (hb18.mono Hb17.out.size))
      have HL4 := hidIn (slive_any (H16.out.keep Hb18.out) (root := 4) (by decide))
      clear hp hrs3 hrL hyo hlc hlb d0 hb18 HL3 HIs3 Hb17
      simp only [List.length_cons, List.length_nil, Nat.zero_add]
      go_wp2_with fail
      refine HL4.out.mono ?_
      rintro e w19 ⟨h19, hb19⟩
      rcases h19 with ⟨h19, _⟩ | ⟨_, _, rfl⟩ | ⟨_, h19, _⟩
      · exact absurd h19 (by decide)
      case inr.inr => rw [HIs4.out] at h19; cases h19
      have d0 := Hd0.out w19 hb19
      have Hb19 := hidIn (Hb18.out.trans (hb19.mono Hb18.out.size))
      have hA19 := (Hb19.out.block _ (block_lt HA16.out)).trans HA16.out
      have x0 := cell_of_row _ _ 0 _ _ _ hA19
      have x1 := cell_of_row _ _ 1 _ _ _ hA19
      have x2 := cell_of_row _ _ 2 _ _ _ hA19
      have x3 := cell_of_row _ _ 3 _ _ _ hA19
      have x4 := cell_of_row _ _ 4 _ _ _ hA19
      have x5 := cell_of_row _ _ 5 _ _ _ hA19
      simp at x0 x1 x2 x3 x4 x5
      have HB19 := hidIn (HB16.out.trans (Hb19.out.mono HB16.out.size))
      clear hb19 HL4 HIs4 Hb18 Hd0 hA19 H16 He16 HA16 HB16 Hb19
      go_wp2_with fail
      refine (put_nil kA _ _ _ _).mono ?_
      rintro e w20 ⟨rfl, hb20⟩
      have HB20 := hidIn (HB19.out.trans (hb20.mono HB19.out.size))
      clear hb20 HB19 x0 x1 x2 x3 x4 x5 d0
      go_wp2_with fail
      obtain ⟨W21, hW21⟩ : ∃ W21, w20.alloc (.cells #[.map none] 81) = W21 := ⟨_, rfl⟩
      have b21 : Below w20.heap.size w20 W21 := by rw [← hW21]; exact (Below.refl _ w20).alloc (Nat.le_refl _) _
      have HC := hidIn (missing_zero (S := w20.heap.size) (w := W21) (by rw [← hW21]; exact heap_alloc_last w20 _))
      have HB21 := hidIn (HB20.out.trans (b21.mono HB20.out.size))
      rw [hW21]
      clear b21 hW21 HB20
      refine HC.out.mono ?_
      rintro e w22 ⟨rfl, hb22⟩
      have HB22 := hidIn (HB21.out.trans (hb22.mono HB21.out.size))
      clear hb22 HB21 HC
      go_wp2_with fail
      refine (get_nil _ _).mono ?_
      rintro e w23 ⟨rfl, hb23⟩
      have HB23 := hidIn (HB22.out.trans (hb23.mono HB22.out.size))
      clear hb23 HB22
      go_wp2_with fail
      refine (all_nil _).mono ?_
      rintro e w24 ⟨rfl, hb24⟩
      have bA := HB23.out.alloc HB23.out.size (.cells #[.int .i64 0, .int .u32 0, .int .u32 0, .int .i64 0, .bool false, .slice none 0 0] 28)
      have HB24 := hidIn (bA.trans (hb24.mono bA.size))
      clear hb24 HB23 bA
      go_wp2_with fail
      refine (copy_nil _).mono ?_
      rintro e w25 ⟨rfl, h25⟩
      rw [h25]
      clear h25 w25
      go_wp2_with fail
      refine (sworks_any _).mono ?_
      rintro e wz ⟨rfl, hbz⟩
      have HBz := hidIn (HB24.out.trans (hbz.mono HB24.out.size))
      clear hbz HB24
      go_wp2_with fail
      go_ret
      exact ⟨rfl, HBz.out⟩
end Go.Proofs.Ytllmocfiobbofaa
namespace Go.Proofs.Ytllmocfiobbofaa
open Go.ChangeShapes Go.WideShapes Go.ChangeAt Go.RowKit

section
variable {H : Type} {enc : TypeId × Value → H} {W : World}
theorem six {α : Type} {cs : Array α} (h : cs.size = 6) : ∃ c0 c1 c2 c3 c4 c5, cs = #[c0, c1, c2, c3, c4, c5] := by
  obtain ⟨l⟩ := cs
  match l, h with
  | [a, b, c, d, e, f], _ => exact ⟨a, b, c, d, e, f, rfl⟩
theorem bAdj : Try.prog.bytesOf 78 = 16 := by kernel_rfl
theorem cStamp : Try.prog.cellsOf 72 = 3 := by kernel_rfl
theorem stampF : Try.prog.underlying 72 = some (.struct #[(Try.prog.fieldsOf 72)[0]!, (Try.prog.fieldsOf 72)[1]!, (Try.prog.fieldsOf 72)[2]!]) := by kernel_rfl
theorem stampF' : ((Try.prog.fieldsOf 72)[0]!).type = 3 ∧ ((Try.prog.fieldsOf 72)[1]!).type = 25 ∧ ((Try.prog.fieldsOf 72)[2]!).type = 25 := ⟨by kernel_rfl, by kernel_rfl, by kernel_rfl⟩
set_option maxRecDepth 100000 in
/-- A stamp as an argument. -/
theorem stamp_arg {r : Reach} {b0 : Nat} {v : Value} {d : DataW H} {p : List MemPlace} (hv : Value.okWide Try.prog W r b0 72 v) (h : DataW.Trod enc Try.prog W 0 (fun _ => true) true 72 v d p) :
    ∃ o e q : Int, v = stV o e q ∧ (0 ≤ e ∧ e < 4294967296) ∧ (0 ≤ q ∧ q < 4294967296) := by
  obtain ⟨v0, v1, v2, y0, y1, y2, m, rfl, _, _, h0, h1, h2⟩ := Joins.open_agg3 stampF (by kernel_rfl) cStamp hv h
  rw [stampF'.1] at h0
  rw [stampF'.2.1] at h1
  rw [stampF'.2.2] at h2
  obtain ⟨o, ho, _⟩ := DataW.trod_int Try.underlying3 h0
  obtain ⟨e, he, _, we⟩ := DataW.trod_int Try.underlying25 h1
  obtain ⟨q, hq, _, wq⟩ := DataW.trod_int Try.underlying25 h2
  simp at ho he hq
  have b1 := bounds_u32 we
  have b2 := bounds_u32 wq
  exact ⟨o, e, q, by rw [ho, he, hq], by omega, by omega⟩
set_option maxRecDepth 100000 in
/-- A record as an argument. -/
theorem rec_arg {r : Reach} {b0 : Nat} {v : Value} {d : DataW H} {p : List MemPlace} (hv : Value.okWide Try.prog W r b0 28 v) (h : DataW.Trod enc Try.prog W 0 (fun _ => true) true 28 v d p) (hw : ∀ n ∈ d.weights Try.prog 28, n ≤ reachBytes) :
    ∃ (y : Rc) (va : Value), v = recV y va ∧ SlAt ac 2 W va y.adjs ∧ NilOk va ∧ RcB y ∧ (y.adjs.length + 1) * 16 ≤ 140737488355328 := by
  obtain ⟨cs, rfl, hsz⟩ := okWide_struct recF hv
  rw [cRec] at hsz
  obtain ⟨v0, v1, v2, v3, v4, v5, rfl⟩ := six hsz
  obtain ⟨fuel, hf⟩ := h
  obtain ⟨xs, k, _, hx, hlen, hxl, hfd⟩ := DataW.trod_struct recF hf
  match xs, hxl with
  | [z0, z1, z2, z3, z4, z5], _ =>
    have g0 := hfd 0 ((Try.prog.fieldsOf 28)[0]!) rfl
    have g1 := hfd 1 ((Try.prog.fieldsOf 28)[1]!) rfl
    have g2 := hfd 2 ((Try.prog.fieldsOf 28)[2]!) rfl
    have g3 := hfd 3 ((Try.prog.fieldsOf 28)[3]!) rfl
    have g4 := hfd 4 ((Try.prog.fieldsOf 28)[4]!) rfl
    have g5 := hfd 5 ((Try.prog.fieldsOf 28)[5]!) rfl
    rw [(recF' 0 (by omega)).1, (recF' 0 (by omega)).2] at g0
    rw [(recF' 1 (by omega)).1, (recF' 1 (by omega)).2] at g1
    rw [(recF' 2 (by omega)).1, (recF' 2 (by omega)).2] at g2
    rw [(recF' 3 (by omega)).1, (recF' 3 (by omega)).2] at g3
    rw [(recF' 4 (by omega)).1, (recF' 4 (by omega)).2] at g4
    rw [(recF' 5 (by omega)).1, (recF' 5 (by omega)).2] at g5
    simp [cInt, cU32, cBool, cAdjs, Value.cells] at g0 g1 g2 g3 g4 g5
    obtain ⟨o, ho, _⟩ := DataW.trod_int Try.underlying3 g0
    obtain ⟨e, he, _, wfe⟩ := DataW.trod_int Try.underlying25 g1
    obtain ⟨s, hs, _, wfs⟩ := DataW.trod_int Try.underlying25 g2
    obtain ⟨c, hc, _⟩ := DataW.trod_int Try.underlying3 g3
    obtain ⟨b, hb, _⟩ := DataW.trod_bool Try.underlying4 g4
    obtain ⟨l, hl, hn, _, hll⟩ := open_sl (0, 0) (cs := ac) (sz := 2) (fun _ => rfl) (by omega) Try.underlying26 cAdj (fun n cs' x h => adj_cells h) g5
    simp at ho he hs hc hb
    have b1 := bounds_u32 wfe
    have b2 := bounds_u32 wfs
    refine ⟨⟨o, e, s, c, b, l⟩, v5, by simp [ho, he, hs, hc, hb], hl, hn, ⟨by show 0 ≤ e; omega, by show e < _; omega, by show 0 ≤ s; omega, by show s < _; omega⟩, ?_⟩
    simp only [Prod.mk.injEq] at hx
    have hd := hx.1
    refine slice_weight (d := z5.1) Try.underlying26 bAdj (by omega) (fun n hn => hw n ?_) (by rcases hll with rfl | h; exact .inl rfl; exact .inr h)
    rw [hd]
    simp only [DataW.weights, recF, List.map_cons, List.map_nil, DataW.weightsEach, (recF' 0 (by omega)).1, (recF' 1 (by omega)).1, (recF' 2 (by omega)).1, (recF' 3 (by omega)).1, (recF' 4 (by omega)).1, (recF' 5 (by omega)).1, List.append_nil, List.mem_append]
    simp [hn]
end
end Go.Proofs.Ytllmocfiobbofaa
namespace Go.Proofs.Ytllmocfiobbofaa
open Go.ChangeShapes Go.WideShapes Go.ChangeAt Go.RowKit

section
variable {H : Type} {enc : TypeId × Value → H} {W : World}
theorem cU8' : Try.prog.cellsOf 5 = 1 := by kernel_rfl
theorem cTe : Try.prog.cellsOf 69 = 4 := by kernel_rfl
theorem bTe : Try.prog.bytesOf 69 = 4 := by kernel_rfl
theorem bSt : Try.prog.bytesOf 72 = 16 := by kernel_rfl
theorem teF : Try.prog.underlying 69 = some (.struct #[(Try.prog.fieldsOf 69)[0]!, (Try.prog.fieldsOf 69)[1]!, (Try.prog.fieldsOf 69)[2]!, (Try.prog.fieldsOf 69)[3]!]) := by kernel_rfl
theorem teF' (i : Nat) (hi : i < 4) : ((Try.prog.fieldsOf 69)[i]!).type = 5 ∧ ((Try.prog.fieldsOf 69)[i]!).offset = i := by
  match i, hi with
  | 0, _ => exact ⟨by kernel_rfl, by kernel_rfl⟩
  | 1, _ => exact ⟨by kernel_rfl, by kernel_rfl⟩
  | 2, _ => exact ⟨by kernel_rfl, by kernel_rfl⟩
  | 3, _ => exact ⟨by kernel_rfl, by kernel_rfl⟩
set_option maxRecDepth 100000 in
theorem te_cells {n : Nat} {cs' : List Value} {x : DataW H × List MemPlace} (h : DataW.trod enc Try.prog W 0 (fun _ => true) true n 69 cs' = some x) : ∃ y : Te, cs' = te4 y ∧ (0 ≤ y.1 ∧ y.1 ≤ 255) ∧ (0 ≤ y.2.1 ∧ y.2.1 ≤ 255) ∧ (0 ≤ y.2.2.1 ∧ y.2.2.1 ≤ 255) ∧ 0 ≤ y.2.2.2 ∧ y.2.2.2 ≤ 255 := by
  obtain ⟨xs, k, _, _, hlen, hxl, hf⟩ := DataW.trod_struct teF h
  rw [cTe] at hlen
  match cs', hlen with
  | [v0, v1, v2, v3], _ =>
    match xs, hxl with
    | [z0, z1, z2, z3], _ =>
      have g0 := hf 0 ((Try.prog.fieldsOf 69)[0]!) rfl
      have g1 := hf 1 ((Try.prog.fieldsOf 69)[1]!) rfl
      have g2 := hf 2 ((Try.prog.fieldsOf 69)[2]!) rfl
      have g3 := hf 3 ((Try.prog.fieldsOf 69)[3]!) rfl
      rw [(teF' 0 (by omega)).1, (teF' 0 (by omega)).2] at g0
      rw [(teF' 1 (by omega)).1, (teF' 1 (by omega)).2] at g1
      rw [(teF' 2 (by omega)).1, (teF' 2 (by omega)).2] at g2
      rw [(teF' 3 (by omega)).1, (teF' 3 (by omega)).2] at g3
      simp [cU8'] at g0 g1 g2 g3
      obtain ⟨o, ho, _, w0⟩ := DataW.trod_int Try.underlying5 g0
      obtain ⟨e, he, _, w1⟩ := DataW.trod_int Try.underlying5 g1
      obtain ⟨s, hs, _, w2⟩ := DataW.trod_int Try.underlying5 g2
      obtain ⟨c, hc, _, w3⟩ := DataW.trod_int Try.underlying5 g3
      simp at ho he hs hc
      exact ⟨(o, e, s, c), by simp [te4, ho, he, hs, hc], bounds_u8 w0, bounds_u8 w1, bounds_u8 w2, bounds_u8 w3⟩
set_option maxRecDepth 100000 in
theorem te_arg {a : Option Addr} {len cap : Nat} {d : DataW H} {p : List MemPlace} (h : DataW.Trod enc Try.prog W 0 (fun _ => true) true 65 (.slice a len cap) d p) (hw : ∀ n ∈ d.weights Try.prog 65, n ≤ reachBytes) :
    ∃ ls, SlAt te4 4 W (.slice a len cap) ls ∧ TeB ls ∧ NilOk (.slice a len cap) ∧ (ls.length + 1) * 4 ≤ 140737488355328 := by
  obtain ⟨fuel, hf⟩ := h
  obtain ⟨ns, hn1, hn2, hG, hn3⟩ := open_sl (0, 0, 0, 0) (cs := te4) (sz := 4) (fun _ => rfl) (by omega) Try.underlying65 cTe (fun n cs' x h => te_cells h) (by simpa [Value.cells] using hf)
  exact ⟨ns, hn1, hG, hn2, slice_weight Try.underlying65 bTe (by omega) hw (by rcases hn3 with rfl | h; exact .inl rfl; exact .inr h)⟩
theorem stF2 : (((Try.prog.fieldsOf 72)[0]!).type = 3 ∧ ((Try.prog.fieldsOf 72)[0]!).offset = 0) ∧ (((Try.prog.fieldsOf 72)[1]!).type = 25 ∧ ((Try.prog.fieldsOf 72)[1]!).offset = 1) ∧ ((Try.prog.fieldsOf 72)[2]!).type = 25 ∧ ((Try.prog.fieldsOf 72)[2]!).offset = 2 := ⟨⟨by kernel_rfl, by kernel_rfl⟩, ⟨by kernel_rfl, by kernel_rfl⟩, by kernel_rfl, by kernel_rfl⟩
set_option maxRecDepth 100000 in
theorem st_cells {n : Nat} {cs' : List Value} {x : DataW H × List MemPlace} (h : DataW.trod enc Try.prog W 0 (fun _ => true) true n 72 cs' = some x) : ∃ y : Ed, cs' = sc3 y ∧ (0 ≤ y.2.1 ∧ y.2.1 < 4294967296) ∧ 0 ≤ y.2.2 ∧ y.2.2 < 4294967296 := by
  obtain ⟨y0, y1, y2, k, _, hlen, h0, h1, h2⟩ := Deep.trod_struct3 stampF h
  obtain ⟨⟨a0, b0⟩, ⟨a1, b1⟩, a2, b2⟩ := stF2
  rw [cStamp] at hlen
  match cs', hlen with
  | [v0, v1, v2], _ =>
    rw [a0, b0, cInt] at h0
    rw [a1, b1, cU32] at h1
    rw [a2, b2, cU32] at h2
    obtain ⟨p, hp, _, wp⟩ := DataW.trod_int Try.underlying3 h0
    obtain ⟨q, hq, _, wq⟩ := DataW.trod_int Try.underlying25 h1
    obtain ⟨r, hr, _, wr⟩ := DataW.trod_int Try.underlying25 h2
    simp at hp hq hr
    have b1 := bounds_u32 wq
    have b2 := bounds_u32 wr
    exact ⟨(p, q, r), by rw [hp, hq, hr], by simp only; omega, by simp only; omega⟩
set_option maxRecDepth 100000 in
theorem st_arg {a : Option Addr} {len cap : Nat} {d : DataW H} {p : List MemPlace} (h : DataW.Trod enc Try.prog W 0 (fun _ => true) true 39 (.slice a len cap) d p) (hw : ∀ n ∈ d.weights Try.prog 39, n ≤ reachBytes) :
    ∃ ls, SlAt sc3 3 W (.slice a len cap) ls ∧ (∀ y ∈ ls, (0 ≤ y.2.1 ∧ y.2.1 < 4294967296) ∧ 0 ≤ y.2.2 ∧ y.2.2 < 4294967296) ∧ NilOk (.slice a len cap) ∧ (ls.length + 1) * 16 ≤ 140737488355328 := by
  obtain ⟨fuel, hf⟩ := h
  obtain ⟨ns, hn1, hn2, hG, hn3⟩ := open_sl (0, 0, 0) (cs := sc3) (sz := 3) (fun _ => rfl) (by omega) Try.underlying39 cStamp (fun n cs' x h => st_cells h) (by simpa [Value.cells] using hf)
  exact ⟨ns, hn1, hG, hn2, slice_weight Try.underlying39 bSt (by omega) hw (by rcases hn3 with rfl | h; exact .inl rfl; exact .inr h)⟩
end
end Go.Proofs.Ytllmocfiobbofaa
