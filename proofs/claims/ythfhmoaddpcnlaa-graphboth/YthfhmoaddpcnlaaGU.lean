/- GraphBoth. -/
import Derived.Test.YthfhmoaddpcnlaaGU3
namespace Go.Proofs.Ythfhmoaddpcnlaa
open Go.RowKit

set_option maxRecDepth 100000 in
set_option maxHeartbeats 4000000 in
theorem graphBoth_walk {l : List (Rc × Value)} {v : Value} {w : World} (hR : RecsAt w v l) (nn : NilOk v) (hg : ∀ y ∈ l, RecG w y) (bn : (l.length + 1) * 56 ≤ 140737488355328) :
    Calls Try.prog 4 #[v] w fun e w' => e = .returned (.bool true) ∧ Below w.heap.size w w' := by
  have HR := hidIn hR
  have HG := hidIn hg
  obtain ⟨x', w1, hrun, hrow, hb1, _⟩ := append_allR (base := w.heap.size) (k := 0) (u := .slice none 0 0) (l := []) (World.ownsRow_nil _ _ _ _) hR.r (fun x hx => by obtain ⟨_, _, h, _⟩ := (hg x hx).1; rw [h]; rfl) (by omega) (Nat.le_refl _) (by rcases nn with h | h; exact .inl h; exact .inr ⟨h, rfl⟩)
  rw [Nat.zero_add, List.nil_append] at hrow
  obtain ⟨xa, xcap, rfl⟩ := row_shape hrow
  have HI1 : Hid (RecsAt w1 (.slice xa l.length xcap) l) := hidIn ⟨slAt_of_row (cs := rcc) (fun _ => rfl) hrow rfl, fun x hx => (hR.a x hx).keep hb1 (Nat.le_refl _)⟩
  have HRun := hidIn hrun
  have HB1 := hidIn hb1
  obtain ⟨a, cap, rfl, hl, hcap, _⟩ := hR.r.recs
  clear hrun hrow hb1 hR hg nn
  go_enter Try.func4, Try.ntmps4
  go_wp2_with (refine l_append rfl _ _ 41 rfl HRun.out ?_)
  refine (both_any HI1.out).mono ?_
  rintro e w2 ⟨hans, hb2⟩
  obtain ⟨ua, ucap, va, vcap, rfl, hu, hv⟩ := hans.uni
  obtain ⟨N, hN⟩ : ∃ N, ansN (rcs l) = N := ⟨_, rfl⟩
  obtain ⟨E, hE⟩ : ∃ E, ansE (rcs l) = E := ⟨_, rfl⟩
  obtain ⟨C, hC⟩ : ∃ C, ansC (rcs l) = C := ⟨_, rfl⟩
  rw [hN] at hu ⊢
  rw [hE] at hv ⊢
  rw [hC]
  have HN := hidIn hN
  have HE := hidIn hE
  have HC := hidIn hC
  have HGr := hidIn (grAt_of_rows hu hv)
  obtain ⟨_, _, _, hEl, _⟩ := HGr.out.e
  have HV2 := hidIn hv
  have Hlt : Hid (∀ j, (Value.slice va E.length vcap).ownBlock = some j → w1.heap.size ≤ j ∧ j < w2.heap.size) := hidIn fun j hj => hv.lt j hj
  have HB12 := hidIn hb2
  have HB2 := hidIn (HB1.out.trans (hb2.mono HB1.out.size))
  clear hN hE hC hu hv hans hb2 HRun
  obtain ⟨W3, hW3⟩ : ∃ W3, w2.alloc (.cells #[.slice ua N.length ucap, .slice va E.length vcap] 25) = W3 := ⟨_, rfl⟩
  have bA : Below w2.heap.size w2 W3 := by rw [← hW3]; exact (Below.refl _ w2).alloc (Nat.le_refl _) _
  have hGB : W3.heap[w2.heap.size]? = some (.cells #[.slice ua N.length ucap, .slice va E.length vcap] 25) := by rw [← hW3]; exact heap_alloc_last w2 _
  have HB3 := hidIn (HB2.out.trans (bA.mono HB2.out.size))
  have HB13 := hidIn (HB12.out.trans (bA.mono HB12.out.size))
  have HV3 := hidIn (row_below HV2.out bA (Nat.le_refl _))
  have HGr3 := hidIn (HGr.out.keep bA (Nat.le_refl _))
  have HGB := hidIn hGB
  have hbg := block_lt hGB
  have h12 := HB12.out.size
  have HW := hidIn hW3
  have HRef := hidIn (rboth_any (HR.out.keep HB3.out (Nat.le_refl _)) (fun y hy => ⟨(HG.out y hy).1.keep HB3.out (Nat.le_refl _), (HG.out y hy).2⟩))
  clear hW3 bA hGB HGr HV2
  go_upto_region 4 with fail
  rw [HW.out]
  clear HW
  obtain ⟨bg, hbgd⟩ : ∃ bg, w2.heap.size = bg := ⟨_, rfl⟩
  rw [hbgd] at HGB Hlt hbg h12 ⊢
  clear hbgd HB12 HB2
  go_wp2_with fail
  refine HRef.out.mono ?_
  rintro e w4 ⟨hans, hb4⟩
  obtain ⟨pa, pcap, qa, qcap, rfl, hu4, hv4⟩ := hans.uni
  rw [HN.out] at hu4
  rw [HE.out] at hv4
  rw [HN.out, HE.out, HC.out]
  have HB4 := hidIn hb4
  have HU4 := hidIn hu4
  have HV4 := hidIn hv4
  clear hans hu4 hv4 hb4 HRef
  obtain ⟨W5, hW5⟩ : ∃ W5, w4.alloc (.cells #[.slice pa N.length pcap, .slice qa E.length qcap] 25) = W5 := ⟨_, rfl⟩
  have bA : Below w4.heap.size w4 W5 := by rw [← hW5]; exact (Below.refl _ w4).alloc (Nat.le_refl _) _
  have hGB : W5.heap[w4.heap.size]? = some (.cells #[.slice pa N.length pcap, .slice qa E.length qcap] 25) := by rw [← hW5]; exact heap_alloc_last w4 _
  have HB35 := hidIn (HB4.out.trans (bA.mono HB4.out.size))
  have hG5 := (HB35.out.block bg hbg).trans HGB.out
  have HU5 := hidIn (row_below HU4.out bA (Nat.le_refl _))
  have HV5 := hidIn (row_below HV4.out bA (Nat.le_refl _))
  have hS := rsame_any (HGr3.out.keep HB35.out (Nat.le_refl _)) (grAt_of_rows HU5.out HV5.out)
  rw [show sameG N N E E = true from by simp [sameG]] at hS
  have HS := hidIn hS
  have f0 := cell_of_row _ _ 0 _ _ _ hG5
  have f1 := cell_of_row _ _ 1 _ _ _ hG5
  have k0 := cell_of_row _ _ 0 _ _ _ hGB
  have k1 := cell_of_row _ _ 1 _ _ _ hGB
  simp at f0 f1 k0 k1
  have HG5 := hidIn hG5
  have HGB5 := hidIn hGB
  have hbh := block_lt hGB
  have h34 : bg < w4.heap.size := Nat.lt_of_lt_of_le hbg HB4.out.size
  have HW := hidIn hW5
  clear hW5 bA hGB hG5 hS HU4 HV4
  go_upto_region 5 with fail
  rw [HW.out]
  clear HW
  generalize w4.heap.size = bh at *
  go_wp2_with fail
  refine HS.out.mono ?_
  rintro e w6 ⟨rfl, hb6⟩
  have HV6 := hidIn (row_below (row_below HV3.out HB35.out (Nat.le_refl _)) hb6 (Nat.le_refl _))
  have HF : Hid (∀ wq, Fr (fun j => w1.heap.size ≤ j ∧ j < bg) w6 wq → wq.cell? ⟨bg, 1, none⟩ = some (.slice va E.length vcap) ∧ (wq.cell? ⟨bh, 0, none⟩ = some (.slice pa N.length pcap) ∧ wq.cell? ⟨bh, 1, none⟩ = some (.slice qa E.length qcap)) ∧ GrAt wq (.slice pa N.length pcap) (.slice qa E.length qcap) N E ∧ RecsAt wq (.slice xa l.length xcap) l ∧ RecsAt wq (.slice a l.length cap) l ∧ Below w.heap.size w wq) := hidIn fun wq h => by
    have s6 := hb6.size
    have j0 := (h.block bg (by omega) (by omega)).trans ((hb6.block bg (by omega)).trans HG5.out)
    have j1 := (h.block bh (by omega) (by omega)).trans ((hb6.block bh (by omega)).trans HGB5.out)
    have hu := row_fr (row_below HU5.out hb6 (Nat.le_refl _)) h (fun j hj e => by have := (HU5.out.lt j hj).1; omega)
    have hv := row_fr (row_below HV5.out hb6 (Nat.le_refl _)) h (fun j hj e => by have := (HV5.out.lt j hj).1; omega)
    have b15 := HB13.out.trans (HB35.out.mono HB13.out.size)
    have b16 := b15.trans (hb6.mono b15.size)
    have b1q := b16.trans (h.below (B := w1.heap.size) b16.size (fun k hk => hk.1))
    have bwq := HB1.out.trans (b1q.mono HB1.out.size)
    exact ⟨cell_of_row _ _ 1 _ _ _ j0, ⟨cell_of_row _ _ 0 _ _ _ j1, cell_of_row _ _ 1 _ _ _ j1⟩, grAt_of_rows hu hv, HI1.out.keep b1q (Nat.le_refl _), HR.out.keep bwq (Nat.le_refl _), bwq⟩
  clear hb6 f0 f1 k0 k1 HS HG5 HGB5 HU5 HV5 HB35 HB4 HB13 HB3 HGr3 HV3 HGB
  obtain ⟨f1, _, _⟩ := HF.out w6 (Fr.refl _ _)
  go_wp2_with fail
  clear f1
  go_loopw [8] (fun i wr => ∃ k : Nat, k ≤ E.length ∧ i = .int .i64 k ∧ Hid (Fr (fun j => w1.heap.size ≤ j ∧ j < bg) w6 wr ∧ ∃ xs, wr.ownsRow w1.heap.size 45 3 (.slice va E.length vcap) E.length xs)) (fun i _ => E.length - (intOf i).toNat)
  case atStart => exact ⟨0, Nat.zero_le _, rfl, hidIn ⟨Fr.refl _ _, _, HV6.out⟩⟩
  case round =>
    clear HV6
    obtain ⟨k, hk, rfl, HRr⟩ := hrel
    obtain ⟨hfr, xs, hxs⟩ := HRr.out
    clear HRr
    obtain ⟨f1, ⟨k0, k1⟩, hgr, hin, hv, hbw⟩ := HF.out wr hfr
    by_cases hlt : k < E.length
    · clear k0 k1 hgr hin hv hbw
      obtain ⟨g, rfl⟩ : ∃ g, va = some ⟨g, 0, none⟩ := by
        rcases hxs.2 with ⟨h, h0⟩ | ⟨g, cap', cur, h, _⟩
        · omega
        · simp at h; exact ⟨g, h.1⟩
      have hgg := Hlt.out g rfl
      obtain ⟨cur, hcur⟩ : ∃ cur, wr.heap[g]? = some (.cells cur 45) := by
        rcases hxs.2 with ⟨h, h0⟩ | ⟨g', cap', cur, h, _, hh, _⟩
        · simp at h
        · simp at h; rw [h.1]; exact ⟨cur, hh⟩
      have hx1 := hxs.1
      have c0 := hxs.cells (g := g) rfl (k * 3) _ (List.getElem?_eq_getElem (by omega))
      have c1 := hxs.cells (g := g) rfl (k * 3 + 1) _ (List.getElem?_eq_getElem (by omega))
      have c2 := hxs.cells (g := g) rfl (k * 3 + 2) _ (List.getElem?_eq_getElem (by omega))
      rw [Addr.add_mid, Nat.zero_add] at c0 c1 c2
      generalize xs[k * 3] = z0 at c0
      generalize xs[k * 3 + 1] = z1 at c1
      generalize xs[k * 3 + 2] = z2 at c2
      have g0 := frozen_new hcur (k * 3)
      have g1 := frozen_new hcur (k * 3 + 1)
      have g2 := frozen_new hcur (k * 3 + 2)
      have HFr := hidIn hfr
      have HX := hidIn hxs
      have hki : (k : Int) < (E.length : Int) := by omega
      have Hgg := hidIn hgg
      clear hfr hxs hx1 hcur hgg
      go_wp2_with fail
      go_roundw
      case rel =>
        refine ⟨k + 1, by omega, by go_num, hidIn ⟨((HFr.out.set (p := ⟨g, k * 3, none⟩) Hgg.out _).set (p := ⟨g, k * 3 + 1, none⟩) Hgg.out _).set (p := ⟨g, k * 3 + 2, none⟩) Hgg.out _, _, row_set (row_set (row_set HX.out _ _) _ _) _ _⟩⟩
      case measure => simp [intOf]; omega
    · have hki : ¬ ((k : Int) < (E.length : Int)) := by omega
      have HIn := hidIn hin
      have HFr := hidIn hfr
      clear k0 k1 hgr hin hv hbw hfr hxs
      go_wp2_with fail
      refine (both_any HIn.out).mono ?_
      rintro e w8 ⟨hans, hb8⟩
      obtain ⟨ra, rcap, sa, scap, rfl, hu8, hv8⟩ := hans.uni
      rw [HN.out] at hu8
      rw [HE.out] at hv8
      rw [HN.out, HE.out, HC.out]
      have HGr8 := hidIn (grAt_of_rows hu8 hv8)
      have HFr8 := hidIn (HFr.out.trans (Fr.of_below hb8))
      clear hans hu8 hv8 hb8 f1 HIn
      obtain ⟨W9, hW9⟩ : ∃ W9, w8.alloc (.cells #[.slice ra N.length rcap, .slice sa E.length scap] 25) = W9 := ⟨_, rfl⟩
      have bA : Below w8.heap.size w8 W9 := by rw [← hW9]; exact (Below.refl _ w8).alloc (Nat.le_refl _) _
      have hGB : W9.heap[w8.heap.size]? = some (.cells #[.slice ra N.length rcap, .slice sa E.length scap] 25) := by rw [← hW9]; exact heap_alloc_last w8 _
      have HFr9 := hidIn (HFr8.out.trans (Fr.of_below bA))
      obtain ⟨_, ⟨k0, k1⟩, hgr, _⟩ := HF.out W9 HFr9.out
      have hS := rsame_any (HGr8.out.keep bA (Nat.le_refl _)) hgr
      rw [show sameG N N E E = true from by simp [sameG]] at hS
      have HS := hidIn hS
      have j0 := cell_of_row _ _ 0 _ _ _ hGB
      have j1 := cell_of_row _ _ 1 _ _ _ hGB
      simp at j0 j1
      have HW := hidIn hW9
      clear hW9 bA hGB hS hgr HGr8
      go_upto_region 12 with fail
      rw [HW.out]
      clear HW
      generalize w8.heap.size = b9 at *
      go_wp2_with fail
      refine HS.out.mono ?_
      rintro e w10 ⟨rfl, hb10⟩
      have HFr10 := hidIn (HFr9.out.trans (Fr.of_below hb10))
      clear hb10 k0 k1 j0 j1 HS
      obtain ⟨_, _, _, hin, hv, _⟩ := HF.out w10 HFr10.out
      have HSr := hidIn (srecs_any hin hv)
      clear hin hv
      go_wp2_with fail
      refine HSr.out.mono ?_
      rintro e w11 ⟨rfl, hb11⟩
      have HFr11 := hidIn (HFr10.out.trans (Fr.of_below hb11))
      clear hb11 HSr
      go_wp2_with fail
      refine (works_ok w11).mono ?_
      rintro e w12 ⟨rfl, hb12⟩
      obtain ⟨_, _, _, _, _, hbw⟩ := HF.out w12 (HFr11.out.trans (Fr.of_below hb12))
      have HBw := hidIn hbw
      clear hb12 hbw
      go_wp2_with fail
      go_ret
      exact ⟨rfl, HBw.out⟩
end Go.Proofs.Ythfhmoaddpcnlaa
