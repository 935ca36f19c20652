/- net: who is running, which links are up; Graph, Near. net: New. net: == of messages, fates, neighbours, links; one; the net's calls, where the net lies outside of the law's blocks. net: three routers in a row; works. NetMends, in lists: the law's links; what is cut and mended is as before. NetMends, in lists: a net from its start to its end. NetMends: the law's links. NetMends, of any three numbers below 256. -/
import Derived.Test.YtkhfpcnmnnboeaaZ1
import Derived.Test.YtkhfpcnmnnboeaaZ2
import Derived.Laws.BitsAllLaws
import Derived.OpenShut
namespace Go.Proofs.Ytkhfpcnmnnboeaa.Nt
open Go.RowKit Go.Proofs.Ytkhfpcnmnnboeaa.Fa

def runL (N : Nv) : List Int := N.V.filter fun x => !N.st x.toNat
def eUp (N : Nv) : List Ed := N.E.filter fun e => upQ N e.1 e.2.1
theorem filt_yes {α : Type} {l : List α} {k : Nat} {x : α} (f : α → Bool) (hx : l[k]? = some x) (h : f x = true) : (l.take (k + 1)).filter f = (l.take k).filter f ++ [x] := by
  rw [take_snoc hx, List.filter_append, List.filter_cons, if_pos h, List.filter_nil]
theorem filt_no {α : Type} {l : List α} {k : Nat} {x : α} (f : α → Bool) (hx : l[k]? = some x) (h : f x = false) : (l.take (k + 1)).filter f = (l.take k).filter f := by
  rw [take_snoc hx, List.filter_append, List.filter_cons, if_neg (by rw [h]; simp), List.filter_nil, List.append_nil]
theorem filt_len {α : Type} (l : List α) (k : Nat) (f : α → Bool) : ((l.take k).filter f).length ≤ k := Nat.le_trans (List.length_filter_le _ _) (by rw [List.length_take]; omega)
set_option maxRecDepth 100000 in
set_option maxHeartbeats 1000000 in
theorem running_any {w : World} {np : Nat} {D : Nd} {N : Nv} {S : Nat → Prop} (h : NtAt w np D N S) (hv : ∀ x ∈ N.V, 1 ≤ x ∧ x ≤ 24) (hvl : N.V.length ≤ 25) :
    Calls Try.prog 38 #[pp np] w fun e w' => (∃ v, e = .returned v ∧ w'.ownsRow w.heap.size 3 1 v (runL N).length (fl ic (runL N))) ∧ Below w.heap.size w w' := by
  have hs := slAt_of_row (cs := ic) (fun _ => rfl) h.vn rfl
  obtain ⟨aa, ca, hve, hl, hcap, hat⟩ := hs.ints
  have c1 := h.b.c1
  rw [hve] at c1
  have HB := hidIn h.b
  have HA := hidIn hat
  have HV := hidIn hv
  obtain ⟨n, hn⟩ : ∃ n, N.V.length = n := ⟨_, rfl⟩
  obtain ⟨f, hf⟩ : ∃ f : Int → Bool, (fun x => !N.st x.toNat) = f := ⟨_, rfl⟩
  have HF : Hid (∀ z : Nat, f z = !N.st z) := hidIn (fun z => by rw [← hf]; rfl)
  have HR : Hid (runL N = N.V.filter f) := hidIn (by rw [← hf]; rfl)
  rw [hn] at c1 hvl
  have Hn := hidIn hn
  clear h hs hve hat hv hn hf hl hcap
  go_enter Try.func38, Try.ntmps38
  go_wp2_with fail
  go_loopw [3, 12] (fun u i wr => ∃ k : Nat, k ≤ n ∧ i = .int .i64 k ∧ (∃ a c, u = .slice a ((N.V.take k).filter f).length c) ∧ Hid (wr.ownsRow w.heap.size 3 1 u ((N.V.take k).filter f).length (fl ic ((N.V.take k).filter f)) ∧ Below w.heap.size w wr)) (fun _ i _ => n - (intOf i).toNat)
  case atStart => exact ⟨0, Nat.zero_le _, rfl, ⟨none, 0, rfl⟩, hidIn ⟨World.ownsRow_nil _ _ _ _, Below.refl _ _⟩⟩
  case round =>
    obtain ⟨k, hk, rfl, ⟨ua, uc, rfl⟩, HRl⟩ := hrel
    obtain ⟨r1, r2⟩ := HRl.out
    clear HRl
    by_cases hlt : k < n
    · have hki : (k : Int) < (n : Int) := by omega
      have hk9 : (k : Int) < 100 := by omega
      obtain ⟨bk, o, rfl, hbk, hc⟩ := HA.out (by rw [Hn.out]; omega)
      obtain ⟨x, hx⟩ : ∃ z, N.V[k]? = some z := ⟨N.V[k]'(by rw [Hn.out]; exact hlt), List.getElem?_eq_getElem _⟩
      have hxr := HV.out x (List.mem_of_getElem? hx)
      obtain ⟨z, rfl⟩ : ∃ z : Nat, x = z := ⟨x.toNat, by omega⟩
      have hz25 : (z : Int) < 25 := by omega
      have c0 := (r2.cell (p := ⟨bk, o + k, none⟩) hbk).trans (hc k _ hx)
      have hBr : NtB wr np D N.lt N.st N.now := (r2.block _ HB.out.lt).trans HB.out
      have s7 := hBr.c7 (k := z) (by omega)
      have hfz := HF.out z
      obtain ⟨sz, hsz⟩ : ∃ b, N.st z = b := ⟨_, rfl⟩
      rw [hsz] at s7 hfz
      have HX := hidIn hx
      have R1 := hidIn r1
      have R2 := hidIn r2
      have hlen := filt_len N.V k f
      cases sz
      · have hy := filt_yes f hx hfz
        obtain ⟨g6, cap6, w6, hrun, hown, hlie, hgr, hb6⟩ := append_int r1 (z : Int) (by omega) r2.size
        rw [← hy] at hown
        have hl2 : ((N.V.take (k + 1)).filter f).length = ((N.V.take k).filter f).length + 1 := by rw [hy, List.length_append]; rfl
        have HRun := hidIn hrun
        have HO := hidIn hown
        have HB6 := hidIn (r2.trans (hb6.mono (Nat.le_refl _)))
        have Hl2 := hidIn hl2
        clear hrun hown hlie hgr hb6 r1 r2 hx hc hBr hsz hfz hxr hy hl2
        go_wp2_with (refine l_append rfl _ _ 27 rfl HRun.out ?_)
        go_roundw
        case rel => exact ⟨k + 1, by omega, by go_num, ⟨_, _, by rw [Hl2.out]⟩, hidIn ⟨by rw [Hl2.out]; exact HO.out, HB6.out⟩⟩
        case measure => simp [intOf]; omega
      · have hy := filt_no f hx hfz
        have Hy := hidIn hy
        clear r1 r2 hx hc hBr hsz hfz hxr hy
        go_wp2_with fail
        go_roundw
        case rel => exact ⟨k + 1, by omega, by go_num, ⟨_, _, by rw [Hy.out]⟩, hidIn ⟨by rw [Hy.out]; exact R1.out, R2.out⟩⟩
        case measure => simp [intOf]; omega
    · have hke : k = n := by omega
      have hki : ¬ ((k : Int) < (n : Int)) := by omega
      have hT : N.V.take k = N.V := by rw [hke, ← Hn.out, List.take_length]
      have HT := hidIn hT
      have R1 := hidIn r1
      have R2 := hidIn r2
      clear r1 r2 hT hke
      go_wp2_with fail
      go_returns
      exact ⟨⟨_, rfl, by rw [HR.out]; have h9 := R1.out; rw [HT.out] at h9 ⊢; exact h9⟩, R2.out⟩
set_option maxRecDepth 100000 in
set_option maxHeartbeats 1000000 in
theorem edgesUp_any {w : World} {np : Nat} {D : Nd} {N : Nv} {S : Nat → Prop} (h : NtAt w np D N S) (hv : ∀ x ∈ N.E, (1 ≤ x.1 ∧ x.1 ≤ 24) ∧ (1 ≤ x.2.1 ∧ x.2.1 ≤ 24) ∧ x.1 ≠ x.2.1) (hvl : N.E.length ≤ 1000) :
    Calls Try.prog 39 #[pp np] w fun e w' => (∃ v, e = .returned v ∧ w'.ownsRow w.heap.size 64 3 v (eUp N).length (fl ec (eUp N))) ∧ Below w.heap.size w w' := by
  have hs := slAt_of_row (cs := ec) (fun _ => rfl) h.ve rfl
  obtain ⟨aa, ca, hve, hl, hcap, hat⟩ := hs.eds
  have c1 := h.b.c2
  rw [hve] at c1
  have HB := hidIn h.b
  have HM := hidIn h.cu
  have HA := hidIn hat
  have HV := hidIn hv
  obtain ⟨n, hn⟩ : ∃ n, N.E.length = n := ⟨_, rfl⟩
  obtain ⟨f, hf⟩ : ∃ f : Ed → Bool, (fun e => upQ N e.1 e.2.1) = f := ⟨_, rfl⟩
  have HF : Hid (∀ (a b : Nat) (c : Int), f ((a : Int), (b : Int), c) = (!N.C (nm a b) && (!N.st a && !N.st b))) := hidIn (fun a b c => by rw [← hf]; rfl)
  have HR : Hid (eUp N = N.E.filter f) := hidIn (by rw [← hf]; rfl)
  rw [hn] at c1 hvl
  have Hn := hidIn hn
  clear h hs hve hat hv hn hf hl hcap
  go_enter Try.func39, Try.ntmps39
  go_wp2_with fail
  go_loopw [3, 12] (fun u i wr => ∃ k : Nat, k ≤ n ∧ i = .int .i64 k ∧ (∃ a c, u = .slice a ((N.E.take k).filter f).length c) ∧ Hid (wr.ownsRow w.heap.size 64 3 u ((N.E.take k).filter f).length (fl ec ((N.E.take k).filter f)) ∧ Below w.heap.size w wr)) (fun _ i _ => n - (intOf i).toNat)
  case atStart => exact ⟨0, Nat.zero_le _, rfl, ⟨none, 0, rfl⟩, hidIn ⟨World.ownsRow_nil _ _ _ _, Below.refl _ _⟩⟩
  case round =>
    obtain ⟨k, hk, rfl, ⟨ua, uc, rfl⟩, HRl⟩ := hrel
    obtain ⟨r1, r2⟩ := HRl.out
    clear HRl
    by_cases hlt : k < n
    · have hki : (k : Int) < (n : Int) := by omega
      have hk9 : (k : Int) < 10000 := by omega
      obtain ⟨bk, o, rfl, hbk, hc⟩ := HA.out (by rw [Hn.out]; omega)
      obtain ⟨⟨x, y, z⟩, hx⟩ : ∃ z, N.E[k]? = some z := ⟨N.E[k]'(by rw [Hn.out]; exact hlt), List.getElem?_eq_getElem _⟩
      have hxr := HV.out _ (List.mem_of_getElem? hx)
      simp only at hxr
      obtain ⟨x, rfl⟩ : ∃ z : Nat, x = z := ⟨x.toNat, by omega⟩
      obtain ⟨y, rfl⟩ : ∃ z : Nat, y = z := ⟨y.toNat, by omega⟩
      obtain ⟨q0, q1, q2⟩ := hc k _ hx
      have c0 := (r2.cell (p := ⟨bk, o + k * 3, none⟩) hbk).trans q0
      have c1' := (r2.cell (p := ⟨bk, o + k * 3 + 1, none⟩) hbk).trans q1
      have c2 := (r2.cell (p := ⟨bk, o + k * 3 + 2, none⟩) hbk).trans q2
      simp only at c0 c1' c2
      obtain ⟨W1, hW1⟩ : ∃ W1, wr.alloc (.cells #[.int .i64 (x : Int), .int .i64 (y : Int), .int .i64 z] 64) = W1 := ⟨_, rfl⟩
      have b1 : Below wr.heap.size wr W1 := by rw [← hW1]; exact (Below.refl _ wr).alloc (Nat.le_refl _) _
      have hX : W1.heap[wr.heap.size]? = some (.cells #[.int .i64 (x : Int), .int .i64 (y : Int), .int .i64 z] 64) := by rw [← hW1]; exact heap_alloc_last wr _
      have e0 := cell_of_row _ _ 0 _ _ _ hX
      have e1 := cell_of_row _ _ 1 _ _ _ hX
      simp at e0 e1
      have r21 := r2.trans (b1.mono r2.size)
      have hB1 : NtB W1 np D N.lt N.st N.now := (r21.block _ HB.out.lt).trans HB.out
      have HU := hidIn (isUp_any hB1 (HM.out.below r21 HM.out.lt) (a := x) (b := y) (by omega) (by omega))
      have hfz := HF.out x y z
      obtain ⟨up, hup⟩ : ∃ up, (!N.C (nm x y) && (!N.st x && !N.st y)) = up := ⟨_, rfl⟩
      rw [hup] at HU hfz
      have HX := hidIn hX
      have Hx := hidIn hx
      have R1 := hidIn (row_below r1 b1 (Nat.le_refl _))
      have R2 := hidIn r21
      have HW := hidIn hW1
      have hlen := filt_len N.E k f
      obtain ⟨xb, hxb⟩ : ∃ xb, wr.heap.size = xb := ⟨_, rfl⟩
      rw [hxb] at e0 e1 HX
      have Hxb := hidIn hxb
      have Hf := hidIn hfz
      clear r1 r2 hx hc hxr hup q0 q1 q2 hX b1 r21 hB1 hW1 hxb hfz
      go_upto_region 5 with fail
      rw [HW.out, Hxb.out]
      clear HW Hxb c0 c1' c2
      go_wp2_with fail
      refine HU.out.mono ?_
      rintro e w2 ⟨rfl, hb2⟩
      have hX2 := (hb2.block _ (block_lt HX.out)).trans HX.out
      have e0 := cell_of_row _ _ 0 _ _ _ hX2
      have e1 := cell_of_row _ _ 1 _ _ _ hX2
      have e2 := cell_of_row _ _ 2 _ _ _ hX2
      simp at e0 e1 e2
      have R3 := hidIn (row_below R1.out hb2 (Nat.le_refl _))
      have R4 := hidIn (R2.out.trans (hb2.mono R2.out.size))
      clear hb2 hX2 HU R1 R2 HX
      cases up
      · have Hy := hidIn (filt_no f Hx.out Hf.out)
        go_wp2_with fail
        go_roundw
        case rel => exact ⟨k + 1, by omega, by go_num, ⟨_, _, by rw [Hy.out]⟩, hidIn ⟨by rw [Hy.out]; exact R3.out, R4.out⟩⟩
        case measure => simp [intOf]; omega
      · have hy := filt_yes f Hx.out Hf.out
        obtain ⟨g6, cap6, w6, hrun, hown, hlie, hgr, hb6⟩ := append_edge R3.out ((x : Int), (y : Int), z) (by omega) R4.out.size
        rw [← hy] at hown
        have Hl2 : Hid (((N.E.take (k + 1)).filter f).length = ((N.E.take k).filter f).length + 1) := hidIn (by rw [hy, List.length_append]; rfl)
        have HRun := hidIn hrun
        have HO := hidIn hown
        have HB6 := hidIn (R4.out.trans (hb6.mono (Nat.le_refl _)))
        clear hrun hown hlie hgr hb6 hy
        go_wp2_with (refine l_append rfl _ _ 55 rfl HRun.out ?_)
        go_roundw
        case rel => exact ⟨k + 1, by omega, by go_num, ⟨_, _, by rw [Hl2.out]⟩, hidIn ⟨by rw [Hl2.out]; exact HO.out, HB6.out⟩⟩
        case measure => simp [intOf]; omega
    · have hke : k = n := by omega
      have hki : ¬ ((k : Int) < (n : Int)) := by omega
      have hT : N.E.take k = N.E := by rw [hke, ← Hn.out, List.take_length]
      have HT := hidIn hT
      have R1 := hidIn r1
      have R2 := hidIn r2
      clear r1 r2 hT hke
      go_wp2_with fail
      go_returns
      exact ⟨⟨_, rfl, by rw [HR.out]; have h9 := R1.out; rw [HT.out] at h9 ⊢; exact h9⟩, R2.out⟩
theorem slr_sub {w : World} {base sz : Nat} {e : TypeId} {v : Value} {n : Nat} {xs : List Value} (h : w.ownsRow base e sz v n xs) : ∃ a c, v = .slice a n c := by
  obtain ⟨a, c, h1⟩ := row_shape h
  exact ⟨a, c, h1⟩
theorem eUp_len (N : Nv) : (eUp N).length ≤ N.E.length := List.length_filter_le _ _
theorem runL_len (N : Nv) : (runL N).length ≤ N.V.length := List.length_filter_le _ _
set_option maxRecDepth 100000 in
set_option maxHeartbeats 1000000 in
theorem graph_any {w : World} {np k : Nat} {D : Nd} {N : Nv} {S : Nat → Prop} (h : NtAt w np D N S) (hk : NvOk N k) :
    Calls Try.prog 20 #[pp np] w fun e w' => (∃ v u, e = .returned (.tuple #[grV v u, .int .i64 0]) ∧ w'.ownsRow w.heap.size 3 1 v (runL N).length (fl ic (runL N)) ∧ w'.ownsRow w.heap.size 64 3 u (eUp N).length (fl ec (eUp N))) ∧ Below w.heap.size w w' := by
  obtain ⟨W0, hW0⟩ : ∃ W0, w.alloc nilG = W0 := ⟨_, rfl⟩
  have b0 : Below w.heap.size w W0 := by rw [← hW0]; exact (Below.refl _ w).alloc (Nat.le_refl _) _
  have hG : W0.heap[w.heap.size]? = some nilG := by rw [← hW0]; exact heap_alloc_last w _
  have h0 := h.below b0
  have HT := hidIn (nthere_yes h0.b.c0)
  have HR := hidIn (running_any h0 hk.v hk.vl)
  have HG := hidIn hG
  have HB := hidIn b0
  have HW := hidIn hW0
  have HK := hidIn hk
  have H0 := hidIn h0
  obtain ⟨gb, hgb⟩ : ∃ gb, w.heap.size = gb := ⟨_, rfl⟩
  rw [hgb] at HG HB ⊢
  have Hgb := hidIn hgb
  have hs0 : gb < W0.heap.size := block_lt HG.out
  clear hW0 b0 hG h0 h hk hgb
  go_enter Try.func20, Try.ntmps20
  go_upto_region 1 with fail
  rw [HW.out, Hgb.out]
  clear HW Hgb
  go_wp2_with (go_at_call 32; refine HT.out.mono ?_; rintro e w1 ⟨rfl, hw1⟩; rw [hw1]; clear hw1 w1)
  refine HR.out.mono ?_
  rintro e w1 ⟨⟨v, rfl, hv⟩, hb1⟩
  have HE := hidIn (edgesUp_any (H0.out.below hb1) HK.out.e HK.out.el)
  have hs1 := hb1.size
  have HV := hidIn hv
  have HB1 := hidIn (HB.out.trans (hb1.mono (Nat.le_of_lt hs0)))
  have HG1 := hidIn ((hb1.block _ hs0).trans HG.out)
  clear HR HT hb1 hv
  go_wp2_with fail
  refine HE.out.mono ?_
  rintro e w2 ⟨⟨u, rfl, hu⟩, hb2⟩
  have HV2 := hidIn (row_below HV.out hb2 (Nat.le_refl _))
  have HU2 := hidIn (row_low hu hs1)
  have HB2 := hidIn (HB1.out.trans (hb2.mono (by omega)))
  have hG2 := (hb2.block _ (by omega)).trans HG1.out
  have e0 := cell_of_row _ _ 0 _ _ _ hG2
  have e1 := cell_of_row _ _ 1 _ _ _ hG2
  have f0 := frozen_new hG2 0
  have f1 := frozen_new hG2 1
  simp at e0 e1
  obtain ⟨va, vc, rfl⟩ := row_shape HV2.out
  obtain ⟨ua, uc, rfl⟩ := row_shape HU2.out
  have HG2 := hidIn hG2
  obtain ⟨w3, hw3⟩ : ∃ w3, (w2.setCell ⟨gb, 0, none⟩ (.slice va (runL N).length vc)).setCell ⟨gb, 1, none⟩ (.slice ua (eUp N).length uc) = w3 := ⟨_, rfl⟩
  have hG3 : w3.heap[gb]? = some (.cells #[.slice va (runL N).length vc, .slice ua (eUp N).length uc] 57) := by
    rw [← hw3]
    exact heap_setCell_same _ gb 1 _ _ _ (heap_setCell_same w2 gb 0 _ _ _ HG2.out)
  have hF3 : Fr (fun j => j = gb) w2 w3 := by
    rw [← hw3]
    exact ((Fr.refl (fun j => j = gb) w2).set (p := ⟨gb, 0, none⟩) rfl _).set (p := ⟨gb, 1, none⟩) rfl _
  have HV3 := hidIn (row_low (row_fr HV2.out hF3 (fun j hj e => by have := (HV2.out.lt j hj).1; omega)) (Nat.le_of_lt hs0))
  have HU3 := hidIn (row_low (row_fr HU2.out hF3 (fun j hj e => by have := (HU2.out.lt j hj).1; omega)) (Nat.le_of_lt hs0))
  have HB3 := hidIn (HB2.out.trans (hF3.below (by have := HB2.out.size; have := block_lt HG2.out; omega) (fun k hk => by omega)))
  have HG3 := hidIn hG3
  have HW3 := hidIn hw3
  clear hu hb2 HE hG2 hG3 hF3 hw3
  go_wp2_with fail
  rw [HW3.out]
  have g0 := cell_of_row _ _ 0 _ _ _ HG3.out
  have g1 := cell_of_row _ _ 1 _ _ _ HG3.out
  simp at g0 g1
  refine bodyPost_ret (v := .tuple #[grV (.slice va (runL N).length vc) (.slice ua (eUp N).length uc), .int .i64 0]) (by simp [results, Try.results20, asAddr, Result.andThen, go_sem, g0, g1]) rfl ⟨⟨_, _, rfl, HV3.out, HU3.out⟩, HB3.out⟩
set_option maxRecDepth 100000 in
set_option maxHeartbeats 1000000 in
theorem near_any {w : World} {np k : Nat} {D : Nd} {N : Nv} {S : Nat → Prop} (h : NtAt w np D N S) (hk : NvOk N k) (r : Int) (hr : hasN N.V r = true) :
    Calls Try.prog 21 #[pp np, .int .i64 r] w fun e w' => (∃ v, e = .returned (.tuple #[v, .int .i64 0]) ∧ w'.ownsRow w.heap.size 68 2 v (nearL (eUp N) r).length (fl ac (nearL (eUp N) r))) ∧ Below w.heap.size w w' := by
  have hno := noRt_any h r
  rw [show noRt N r = 0 from by rw [noRt, hr]; rfl] at hno
  have HNo := hidIn hno
  have HE := hidIn (edgesUp_any h hk.e hk.el)
  have hel := Nat.le_trans (eUp_len N) hk.el
  obtain ⟨E, hE⟩ : ∃ E, eUp N = E := ⟨_, rfl⟩
  rw [hE] at HE hel ⊢
  obtain ⟨n, hn⟩ : ∃ n, E.length = n := ⟨_, rfl⟩
  rw [hn] at HE hel
  have Hn := hidIn hn
  clear h hk hr hno hE hn
  go_enter Try.func21, Try.ntmps21
  go_wp2_with (go_at_call 31; refine HNo.out.mono ?_; rintro e w1 ⟨rfl, hw1⟩; rw [hw1]; clear hw1 w1)
  refine HE.out.mono ?_
  rintro e w1 ⟨⟨v, rfl, hv⟩, hb1⟩
  have hs := slAt_of_row (cs := ec) (fun _ => rfl) hv Hn.out
  obtain ⟨aa, ca, hve, hl, hcap, hat⟩ := hs.eds
  rw [Hn.out] at hve
  subst hve
  have HA := hidIn hat
  have HB1 := hidIn hb1
  have hs1 := hb1.size
  clear hv hb1 hs hat HE HNo hl hcap
  go_wp2_with fail
  go_loopw [7, 19] (fun u i wr => ∃ k : Nat, k ≤ n ∧ i = .int .i64 k ∧ (∃ a c, u = .slice a (nearL (E.take k) r).length c) ∧ Hid (wr.ownsRow w1.heap.size 68 2 u (nearL (E.take k) r).length (fl ac (nearL (E.take k) r)) ∧ Below w1.heap.size w1 wr)) (fun _ i _ => n - (intOf i).toNat)
  case atStart => exact ⟨0, Nat.zero_le _, rfl, ⟨none, 0, rfl⟩, hidIn ⟨World.ownsRow_nil _ _ _ _, Below.refl _ _⟩⟩
  case round =>
    obtain ⟨k, hk, rfl, ⟨ua, uc, rfl⟩, HRl⟩ := hrel
    obtain ⟨r1, r2⟩ := HRl.out
    clear HRl
    by_cases hlt : k < n
    · have hki : (k : Int) < (n : Int) := by omega
      have hk9 : (k : Int) < 10000 := by omega
      obtain ⟨bk, o, rfl, hbk, hc⟩ := HA.out (by rw [Hn.out]; omega)
      obtain ⟨⟨x, y, z⟩, hx⟩ : ∃ z, E[k]? = some z := ⟨E[k]'(by rw [Hn.out]; exact hlt), List.getElem?_eq_getElem _⟩
      obtain ⟨q0, q1, q2⟩ := hc k _ hx
      have c0 := (r2.cell (p := ⟨bk, o + k * 3, none⟩) hbk).trans q0
      have c1' := (r2.cell (p := ⟨bk, o + k * 3 + 1, none⟩) hbk).trans q1
      have c2 := (r2.cell (p := ⟨bk, o + k * 3 + 2, none⟩) hbk).trans q2
      simp only at c0 c1' c2
      obtain ⟨W1, hW1⟩ : ∃ W1, wr.alloc (.cells #[.int .i64 x, .int .i64 y, .int .i64 z] 64) = W1 := ⟨_, rfl⟩
      have b1 : Below wr.heap.size wr W1 := by rw [← hW1]; exact (Below.refl _ wr).alloc (Nat.le_refl _) _
      have hX : W1.heap[wr.heap.size]? = some (.cells #[.int .i64 x, .int .i64 y, .int .i64 z] 64) := by rw [← hW1]; exact heap_alloc_last wr _
      have e0 := cell_of_row _ _ 0 _ _ _ hX
      have e1 := cell_of_row _ _ 1 _ _ _ hX
      have e2 := cell_of_row _ _ 2 _ _ _ hX
      simp at e0 e1 e2
      have HX := hidIn hx
      have R1 := hidIn (row_below r1 b1 (Nat.le_refl _))
      have R2 := hidIn (r2.trans (b1.mono r2.size))
      have HW := hidIn hW1
      have hlen := Nat.le_trans (nearL_length (E.take k) r) (by rw [List.length_take]; exact Nat.min_le_left _ _)
      obtain ⟨xb, hxb⟩ : ∃ xb, wr.heap.size = xb := ⟨_, rfl⟩
      rw [hxb] at e0 e1 e2
      have Hxb := hidIn hxb
      clear r1 r2 hx hc q0 q1 q2 hX b1 hW1 hxb
      go_upto_region 8 with fail
      rw [HW.out, Hxb.out]
      clear HW Hxb c0 c1' c2
      by_cases hxr : x = r
      · subst hxr
        have hy : nearL (E.take (k + 1)) x = nearL (E.take k) x ++ [(y, z)] := by rw [take_snoc HX.out, nearL_snoc_yes]
        obtain ⟨g6, cap6, w6, hrun, hown, hlie, hgr, hb6⟩ := append_adj R1.out (y, z) (by omega) R2.out.size
        rw [← hy] at hown
        have Hl2 : Hid ((nearL (E.take (k + 1)) x).length = (nearL (E.take k) x).length + 1) := hidIn (by rw [hy, List.length_append]; rfl)
        have HRun := hidIn hrun
        have HO := hidIn hown
        have HB6 := hidIn (R2.out.trans (hb6.mono (Nat.le_refl _)))
        clear hrun hown hlie hgr hb6 hy
        go_wp2_with (refine l_append rfl _ _ 60 rfl HRun.out ?_)
        go_roundw
        case rel => exact ⟨k + 1, by omega, by go_num, ⟨_, _, by rw [Hl2.out]⟩, hidIn ⟨by rw [Hl2.out]; exact HO.out, HB6.out⟩⟩
        case measure => simp [intOf]; omega
      · have Hy : Hid (nearL (E.take (k + 1)) r = nearL (E.take k) r) := hidIn (by rw [take_snoc HX.out, nearL_snoc_no hxr])
        go_wp2_with fail
        go_roundw
        case rel => exact ⟨k + 1, by omega, by go_num, ⟨_, _, by rw [Hy.out]⟩, hidIn ⟨by rw [Hy.out]; exact R1.out, R2.out⟩⟩
        case measure => simp [intOf]; omega
    · have hke : k = n := by omega
      have hki : ¬ ((k : Int) < (n : Int)) := by omega
      have hT : E.take k = E := by rw [hke, ← Hn.out, List.take_length]
      have HT := hidIn hT
      have R1 := hidIn (row_low r1 hs1)
      have R2 := hidIn (HB1.out.trans (r2.mono hs1))
      clear r1 r2 hT hke
      go_wp2_with fail
      go_returns
      exact ⟨⟨_, rfl, by have h9 := R1.out; rw [HT.out] at h9 ⊢; exact h9⟩, R2.out⟩
set_option maxRecDepth 100000 in
theorem near_no {w : World} {np : Nat} {D : Nd} {N : Nv} {S : Nat → Prop} (h : NtAt w np D N S) (r : Int) (hr : hasN N.V r = false) :
    Calls Try.prog 21 #[pp np, .int .i64 r] w fun e w' => e = .returned (.tuple #[.slice none 0 0, .int .i64 2]) ∧ w' = w := by
  have hno := noRt_any h r
  rw [show noRt N r = 2 from by rw [noRt, hr]; rfl] at hno
  have HNo := hidIn hno
  clear h hr hno
  go_enter Try.func21, Try.ntmps21
  go_wp2_with (go_at_call 31; refine HNo.out.mono ?_; rintro e w1 ⟨rfl, hw1⟩; rw [hw1]; clear hw1 w1)
  go_returns
  exact ⟨rfl, rfl⟩
end Go.Proofs.Ytkhfpcnmnnboeaa.Nt
namespace Go.Proofs.Ytkhfpcnmnnboeaa.Nt
open Go.RowKit Go.Proofs.Ytkhfpcnmnnboeaa.Fa

theorem rok_all : ∀ (ns : List Int) (f : Nat → Bool), rOk f ns = true → ∀ n ∈ ns, isR n = true
  | [], _, _, n, hn => by simp at hn
  | x :: ns, f, h, n, hn => by
    simp [rOk] at h
    rcases List.mem_cons.1 hn with rfl | hn
    · exact h.1
    · exact rok_all ns _ h.2.2 n hn
theorem rF_zero9 : ∀ (ns : List Int) (f : Nat → Bool), (∀ n ∈ ns, isR n = true) → f 0 = false → rF f ns 0 = false
  | [], _, _, h0 => h0
  | x :: ns, f, h, h0 => by
    show rF (mk1 f x.toNat) ns 0 = false
    refine rF_zero9 ns _ (fun n hn => h n (List.mem_cons_of_mem _ hn)) ?_
    have hx := isR_iff.1 (h x (List.mem_cons_self ..))
    unfold mk1
    rw [if_neg (by omega)]
    exact h0
/-- Both are routers, unlike. -/
def pOk (a b : Nat) : Prop := (1 ≤ a ∧ a ≤ 24) ∧ (1 ≤ b ∧ b ≤ 24) ∧ a ≠ b
theorem lk_bd9 (F : Nat → Bool) : ∀ (ls : List Ed) (c : Nat → Nat → Int), (∀ a b, c a b ≠ 0 → pOk a b) → lkC F c ls = 0 → ∀ a b, lkF c ls a b ≠ 0 → pOk a b
  | [], _, h, _ => h
  | k :: ls, c, h, h0 => by
    cases hk : lkOk F k
    · rw [lkC_bad hk] at h0; omega
    · by_cases hz : c k.1.toNat k.2.1.toNat = 0
      · rw [lkC_on hk hz] at h0
        show ∀ a b, lkF (put4 c k) ls a b ≠ 0 → pOk a b
        refine lk_bd9 F ls _ (fun a b hab => ?_) h0
        obtain ⟨p1, p2, _, _, p3, _⟩ := lkOk_parts hk
        unfold put4 put2 at hab
        by_cases e1 : a = k.2.1.toNat ∧ b = k.1.toNat
        · exact ⟨by omega, by omega, by omega⟩
        · rw [if_neg e1] at hab
          by_cases e2 : a = k.1.toNat ∧ b = k.2.1.toNat
          · exact ⟨by omega, by omega, by omega⟩
          · rw [if_neg e2] at hab
            exact h a b hab
      · rw [lkC_busy hk hz] at h0; omega
theorem of_parts {ns : List Int} {ls : List Ed} (h : ofC ns ls = 0) : rOk no1 ns = true ∧ ls.length ≤ 48 ∧ lkC (rF no1 ns) no2 ls = 0 := by
  unfold ofC at h
  by_cases h1 : rOk no1 ns = true
  · rw [if_pos h1] at h
    by_cases h2 : ls.length ≤ 48
    · rw [if_pos h2] at h
      exact ⟨h1, h2, h⟩
    · rw [if_neg h2] at h; omega
  · rw [if_neg h1] at h; omega
theorem ofN_bd {ns : List Int} {ls : List Ed} (h : ofC ns ls = 0) : (∀ x ∈ ofN ns ls, 1 ≤ x ∧ x ≤ 24) ∧ (ofN ns ls).length ≤ 25 := by
  have hp := of_parts h
  have h0 := rF_zero9 ns no1 (rok_all ns no1 hp.1) rfl
  unfold ofN
  rw [if_pos h]
  unfold markedL
  refine ⟨fun x hx => ?_, ?_⟩
  · obtain ⟨i, hi, rfl⟩ := List.mem_map.1 hx
    obtain ⟨h1, h2⟩ := List.mem_filter.1 hi
    rw [List.mem_range] at h1
    have : i ≠ 0 := fun e => by rw [e, h0] at h2; cases h2
    omega
  · rw [List.length_map]
    exact Nat.le_trans (List.length_filter_le _ _) (by simp)
theorem laidE_mem {c : Nat → Nat → Int} {e : Ed} (h : e ∈ laidE c) : ∃ a b : Nat, e = ((a : Int), (b : Int), c a b) ∧ 0 < c a b := by
  unfold laidE at h
  obtain ⟨a, _, h1⟩ := List.mem_flatMap.1 h
  unfold rowE at h1
  obtain ⟨b, h2, rfl⟩ := List.mem_map.1 h1
  have h3 := (List.mem_filter.1 h2).2
  simp at h3
  exact ⟨a, b, rfl, h3.1⟩
theorem rows_len (c : Nat → Nat → Int) : ∀ l : List Nat, (l.flatMap fun a => rowE c a (List.range 25)).length ≤ l.length * 25
  | [] => by simp
  | a :: l => by
    have h1 : (rowE c a (List.range 25)).length ≤ 25 := by
      unfold rowE
      rw [List.length_map]
      exact Nat.le_trans (List.length_filter_le _ _) (by simp)
    have h2 := rows_len c l
    rw [List.flatMap_cons, List.length_append, List.length_cons]
    omega
theorem ofE_bd {ns : List Int} {ls : List Ed} (h : ofC ns ls = 0) : (∀ x ∈ ofE ns ls, (1 ≤ x.1 ∧ x.1 ≤ 24) ∧ (1 ≤ x.2.1 ∧ x.2.1 ≤ 24) ∧ x.1 ≠ x.2.1) ∧ (ofE ns ls).length ≤ 1000 := by
  have hp := of_parts h
  unfold ofE
  rw [if_pos h]
  refine ⟨fun x hx => ?_, ?_⟩
  · obtain ⟨a, b, rfl, h1⟩ := laidE_mem hx
    obtain ⟨q1, q2, q3⟩ := lk_bd9 _ ls no2 (fun a b hab => absurd rfl hab) hp.2.2 a b (by omega)
    dsimp only
    omega
  · have := rows_len (lkF no2 ls) (List.range 25)
    unfold laidE
    simp at this ⊢
    omega
/-- A new net. -/
def newN (ns : List Int) (ls : List Ed) (R : List Ru) (lt : Int) : Nv := { V := ofN ns ls, E := ofE ns ls, lt := lt, R := R, A := no2, L := [], p := 0, q := 0, C := fun _ => false, st := no1, now := 0 }
theorem new_nvOk {ns : List Int} {ls : List Ed} {R : List Ru} {lt : Int} (h : ofC ns ls = 0) (hl : 1 ≤ lt ∧ lt ≤ 64) (hR : RsOk R) : NvOk (newN ns ls R lt) 0 :=
  ⟨(ofN_bd h).1, (ofN_bd h).2, (ofE_bd h).1, (ofE_bd h).2, hl, Nat.zero_le _, Nat.le_refl _, fun _ _ => ⟨Int.le_refl _, by show (0 : Int) ≤ _; omega⟩, ⟨Int.le_refl _, by show (0 : Int) ≤ _; omega⟩, (fun b hb => nomatch hb), Nat.zero_le _, hR⟩
theorem builtNt (lt : Int) (P m cp cm : Nat) (nv ev : Value) (hn : ∃ a n c, nv = .slice a n c) (he : ∃ a n c, ev = .slice a n c) : Try.prog.built 76 [(1, grV nv ev), (2, .int .i64 lt), (3, pp P), (4, pp cp), (5, .map (some cm))] = some (ntV nilQ ⟨P, m, cp, cm, nv, ev⟩ lt no1 0).toArray := by
  obtain ⟨a, n, c, rfl⟩ := hn
  obtain ⟨a2, n2, c2, rfl⟩ := he
  kernel_rfl
theorem net_made {w5 : World} {B a b P m cp cm : Nat} {nv ev : Value} {ns : List Int} {ls : List Ed} {R : List Ru} {lt : Int} {S : Nat → Prop} (hv : w5.ownsRow B 3 1 nv (ofN ns ls).length (fl ic (ofN ns ls))) (he : w5.ownsRow B 64 3 ev (ofE ns ls).length (fl ec (ofE ns ls)))
    (hva : ∀ j, nv.ownBlock = some j → j < a) (hea : ∀ j, ev.ownBlock = some j → j < a) (hp : PlAt w5 P m R no2) (hBa : B ≤ a) (hP : a ≤ P ∧ P < b) (hm : a ≤ m ∧ m < b) (hca : Ca.A.Cal w5 S cp [] 0) (hS : ∀ j, S j → b ≤ j ∧ j < w5.heap.size) (hcu : MpC w5 cm 0 (fun _ => false)) (hcb : b ≤ cm) (hSc : ¬ S cm) (Z : Nat → Prop) (hZ : ∀ j, Z j → j < B) :
    NetZ ((w5.alloc (.cells (ntV nilQ ⟨P, m, cp, cm, nv, ev⟩ lt no1 0).toArray 76)).setCell ⟨w5.heap.size, 0, none⟩ (pp w5.heap.size)) Z w5.heap.size (newN ns ls R lt) := by
  obtain ⟨W6, hW6⟩ : ∃ W6, w5.alloc (.cells (ntV nilQ ⟨P, m, cp, cm, nv, ev⟩ lt no1 0).toArray 76) = W6 := ⟨_, rfl⟩
  have b6 : Below w5.heap.size w5 W6 := by rw [← hW6]; exact (Below.refl _ w5).alloc (Nat.le_refl _) _
  have hA : Arr W6 w5.heap.size 76 (ntV nilQ ⟨P, m, cp, cm, nv, ev⟩ lt no1 0) := by rw [← hW6]; exact arr_new w5 _ _
  rw [hW6]
  have hb7 : NtB (W6.setCell ⟨w5.heap.size, 0, none⟩ (pp w5.heap.size)) w5.heap.size ⟨P, m, cp, cm, nv, ev⟩ lt no1 0 := hA.set 0 (pp w5.heap.size)
  have hF : Fr (fun j => j = w5.heap.size) w5 (W6.setCell ⟨w5.heap.size, 0, none⟩ (pp w5.heap.size)) := ((Fr.of_below (S := fun j => j = w5.heap.size) b6)).set (p := ⟨w5.heap.size, 0, none⟩) rfl _
  have hPl := hp.b.lt
  have hml := hp.m.lt
  have hcl := hcu.lt
  have hsz := hF.size
  have hne := hp.ne
  refine ⟨⟨⟨P, m, cp, cm, nv, ev⟩, S, ⟨hb7, row_low (row_fr hv hF (fun j hj e => by have := (hv.lt j hj).2; omega)) (Nat.zero_le _), row_low (row_fr he hF (fun j hj e => by have := (he.lt j hj).2; omega)) (Nat.zero_le _), hp.keep hF (by omega) (by omega), hca.keep hF (fun k hk e => by have := hS k hk; omega), hcu.keep hF (by omega), ?_⟩, fun j hj hz => ?_, fun j hj => by have := hS j hj; omega⟩, fun j hz => by have := hZ j hz; omega⟩
  · refine ⟨fun h => by have := hS _ h; omega, fun h => by have := hS _ h; dsimp only at this; omega, fun h => by have := hS _ h; dsimp only at this; omega, hSc, by dsimp only; omega, by dsimp only; omega, by dsimp only; omega, by dsimp only; omega, by dsimp only; omega, fun j hj => ?_, fun j hj => ?_⟩
    · have h1 := hva j hj
      have h2 := (hv.lt j hj).2
      dsimp only
      exact ⟨fun h => by have := hS _ h; omega, by omega, by omega, by omega, by omega⟩
    · have h1 := hea j hj
      have h2 := (he.lt j hj).2
      dsimp only
      exact ⟨fun h => by have := hS _ h; omega, by omega, by omega, by omega, by omega⟩
  · have hz' := hZ j hz
    rcases hj with hj | hj | hj | hj | hj | hj | hj
    · omega
    · dsimp only at hj; omega
    · dsimp only at hj; omega
    · dsimp only at hj; omega
    · have := (hv.lt j hj).1; omega
    · have := (he.lt j hj).1; omega
    · have := hS j hj; omega
/-- What New is refused with. -/
def newE (ns : List Int) (ls : List Ed) (R : List Ru) (lt : Int) : Int := if ofC ns ls = 0 then (if 1 ≤ lt ∧ lt ≤ 64 then (chkR R).2 else 2) else ofC ns ls
/-- What is laid ahead of the net's block stays. -/
structure NwR (gb : Nat) (nv ev : Value) (wq : World) : Prop where
  a : wq.cell? ⟨gb, 0, none⟩ = some nv
  b : wq.cell? ⟨gb, 1, none⟩ = some ev
set_option maxRecDepth 100000 in
set_option maxHeartbeats 4000000 in
theorem new_ok {w : World} {ns : List Int} {ls : List Ed} {R : List Ru} {lt : Int} {v u r : Value} (hv : SlAt ic 1 w v ns) (hu : SlAt ec 3 w u ls) (hr : SlAt ruC 5 w r R) (h0 : ofC ns ls = 0) (hl : 1 ≤ lt ∧ lt ≤ 64) (hc : chkR R = (0, 0)) :
    Calls Try.prog 19 #[v, u, r, .int .i64 lt] w fun e w' => (∃ np, e = .returned (.tuple #[pp np, .int .i64 0]) ∧ ∀ Z : Nat → Prop, (∀ j, Z j → j < w.heap.size) → NetZ w' Z np (newN ns ls R lt)) ∧ Below w.heap.size w w' := by
  have HOf := hidIn (of_any hv hu)
  have HF := hidIn (fun w1 (hb : Below w.heap.size w w1) => fnew_ok (hr.keep hb (Nat.le_refl _)) hc)
  have HN := fun w => hidIn (Ca.A.new_ok w)
  have H0 := hidIn h0
  have hmm : ∀ w : World, (Instr.makeMap 73 none).run Try.prog w = .ok (.map (some w.heap.size)) (w.alloc (.map #[] 0)) := fun w => by kernel_rfl
  obtain ⟨a1, c1, rfl, _⟩ := hv.ints
  obtain ⟨a2, c2, rfl, _⟩ := hu.eds
  obtain ⟨a3, c3, rfl, _⟩ := hr
  clear hv hu h0 hc
  go_enter Try.func19, Try.ntmps19
  go_wp2_with fail
  refine HOf.out.mono ?_
  rintro e w1 ⟨⟨ua, ucap, va, vcap, rfl, hrv, hre⟩, hb1⟩
  rw [H0.out]
  obtain ⟨gb, hgb⟩ : ∃ gb, w1.heap.size = gb := ⟨_, rfl⟩
  obtain ⟨W2, hW2⟩ : ∃ W2, w1.alloc (.cells #[.slice ua (ofN ns ls).length ucap, .slice va (ofE ns ls).length vcap] 57) = W2 := ⟨_, rfl⟩
  have b2 : Below w1.heap.size w1 W2 := by rw [← hW2]; exact (Below.refl _ w1).alloc (Nat.le_refl _) _
  have hG2 : W2.heap[gb]? = some (.cells #[.slice ua (ofN ns ls).length ucap, .slice va (ofE ns ls).length vcap] 57) := by rw [← hW2, ← hgb]; exact heap_alloc_last w1 _
  have Hr1 := hidIn hrv
  have He1 := hidIn hre
  have Hb1 := hidIn hb1
  have Hb2 := hidIn b2
  have HG2 := hidIn hG2
  have HW2 := hidIn hW2
  have Hgb := hidIn hgb
  have HF2 := hidIn (HF.out W2 (hb1.trans (b2.mono hb1.size)))
  have hlt1 : ¬ lt < 1 := by omega
  have hlt2 : ¬ (64 : Int) < lt := by omega
  clear hrv hre hb1 b2 hG2 hW2 hgb HOf HF
  go_upto_region 4 with fail
  rw [Hgb.out]
  try rw [HW2.out]
  go_wp2_with fail
  refine HF2.out.mono ?_
  rintro e w3 ⟨P, m, rfl, hp, hP, hm, hb3⟩
  have hgw : w.heap.size ≤ gb := by have := Hb1.out.size; have := Hgb.out; omega
  have hs2 : W2.heap.size = gb + 1 := by rw [← HW2.out, ← Hgb.out]; simp
  obtain ⟨b3, hb39⟩ : ∃ b, w3.heap.size = b := ⟨_, rfl⟩
  have hPb : gb ≤ P ∧ P < b3 := ⟨by omega, by rw [← hb39]; exact hp.b.lt⟩
  have hmb : gb ≤ m ∧ m < b3 := ⟨by omega, by rw [← hb39]; exact hp.m.lt⟩
  have hsd : w3.drew.heap.size = b3 := hb39
  have HP3 := hidIn hp
  have HB3 : Hid (Below gb w1 w3) := hidIn (by
    have h1 := Hb2.out
    rw [Hgb.out] at h1
    exact h1.trans (hb3.mono (by omega)))
  have hgb3 : gb < b3 := by have := hb3.size; omega
  obtain ⟨NV, hNV⟩ : ∃ v, Value.slice ua (ofN ns ls).length ucap = v := ⟨_, rfl⟩
  obtain ⟨EV, hEV⟩ : ∃ v, Value.slice va (ofE ns ls).length vcap = v := ⟨_, rfl⟩
  have HX : Hid (∀ wq, Below (gb + 1) w3.drew wq → NwR gb NV EV wq) := hidIn (fun wq hq => by
    have h1 := (hb3.block gb (by omega)).trans HG2.out
    have h2 : wq.heap[gb]? = w3.heap[gb]? := hq.block gb (by omega)
    have h3 := h2.trans h1
    rw [hNV, hEV] at h3
    exact ⟨cell_of_row _ _ 0 _ _ _ h3, cell_of_row _ _ 1 _ _ _ h3⟩)
  have Hv := hidIn hNV
  have He := hidIn hEV
  rw [hNV] at Hr1
  rw [hEV] at He1
  clear hp hP hm hb3 HF2
  go_upto_region 9 with fail
  clear hNV hEV
  refine wp_region_held_drew (S := fun wx => NwR gb NV EV wx) (by kernel_rfl) ?_ (fun hHeld => ?_)
  · exact HX.out _ (Below.refl _ _)
  have hd0 : NwR gb NV EV w3.drew := HX.out _ (Below.refl _ _)
  clear hHeld
  refine wpAnyH_take (i := 0) (v := grV NV EV) rfl (by kernel_rfl) (by kernel_rfl) (by kernel_rfl) (fun _ _ _ h => h) (Or.inl ⟨by kernel_rfl, fun wq hSw => by
      obtain ⟨s0, s1⟩ := hSw
      go_simp⟩) (by assumption) ?_
  refine wpAnyH_take (i := 1) (v := .int .i64 lt) rfl (by kernel_rfl) (by kernel_rfl) (by kernel_rfl) (fun _ _ _ h => h) (Or.inl ⟨by kernel_rfl, fun _ _ => by kernel_rfl⟩) (by assumption) ?_
  refine wpAnyH_take (i := 2) (v := pp P) rfl (by kernel_rfl) (by kernel_rfl) (by kernel_rfl) (fun _ _ _ h => h) (Or.inl ⟨by kernel_rfl, fun _ _ => by kernel_rfl⟩) (by assumption) ?_
  refine wpAnyH_ready (rs := [3, 4]) (by kernel_rfl) (by simp) ?_
  refine AllReadyH.cons (i := 3) rfl ?_ (AllReadyH.cons (i := 4) rfl ?_ AllReadyH.nil)
  · go_simp
    intro K hK
    refine (HN _).out.mono ?_
    rintro e w4 ⟨cp, rfl, hca, hb4⟩
    have hx4 : NwR gb NV EV w4 := HX.out w4 (hb4.mono (by rw [hsd]; omega))
    refine hK.out _ _ hx4 (fun _ => ?_)
    clear hK K
    refine wpAnyH_ready (rs := [4]) (by kernel_rfl) (by simp) ?_
    refine AllReadyH.cons (i := 4) rfl ?_ AllReadyH.nil
    go_simp
    intro K hK
    obtain ⟨w5, hw5⟩ : ∃ w5, w4.alloc (.map #[] 0) = w5 := ⟨_, rfl⟩
    have hb5 : Below w4.heap.size w4 w5 := by rw [← hw5]; exact (Below.refl _ w4).alloc (Nat.le_refl _) _
    have hmc : MpC w5 w4.heap.size 0 (fun _ => false) := by rw [← hw5]; exact mpC_new w4
    obtain ⟨cm, hcm⟩ : ∃ cm, w4.heap.size = cm := ⟨_, rfl⟩
    have hca5 := (hca.keep (T := fun _ => False) (Fr.of_below hb5) (fun _ _ h => h)).mono (T := fun k => b3 ≤ k ∧ k < cm) (fun k _ hk => ⟨by have := hk.1; rw [hsd] at this; exact this, by rw [← hcm]; exact hk.2⟩)
    have hs4 : b3 ≤ w4.heap.size := by have := hb4.size; rw [hsd] at this; exact this
    have hb43 : Below b3 w3 w4 := ((Below.refl _ w3).drew).trans (hb4.mono (by rw [hsd]; omega))
    have hbA : Below gb w1 w5 := HB3.out.trans ((hb43.mono (by omega)).trans (hb5.mono (by omega)))
    have hpA : PlAt w5 P m R no2 := (HP3.out.below hb43 hPb.2 hmb.2).below (hb5.mono (by omega)) (by omega) (by omega)
    have hs5 : w4.heap.size < w5.heap.size := hmc.lt
    rw [hcm] at hmc hs5 hs4
    have hx5 : NwR gb NV EV w5 := HX.out w5 ((hb4.mono (by rw [hsd]; omega)).trans (hb5.mono (by omega)))
    have Hcu := hidIn hmc
    have HSc : Hid (∀ j, (b3 ≤ j ∧ j < cm) → b3 ≤ j ∧ j < w5.heap.size) := hidIn (fun j hj => ⟨hj.1, by omega⟩)
    have HSm : Hid (¬ (b3 ≤ cm ∧ cm < cm)) := hidIn (fun h => by omega)
    have HW5 := hidIn hw5
    rw [hw5, hcm]
    refine hK.out _ _ hx5 (fun _ => ?_)
    clear hK K hw5 hca hb4 hb43 hx4 hb5 hmc hcm
    refine wpAnyH_take (i := 5) (v := .agg (ntV nilQ ⟨P, m, cp, cm, NV, EV⟩ lt no1 0).toArray) rfl (by kernel_rfl) (by kernel_rfl) (by kernel_rfl) (fun _ _ _ h => h) (Or.inl ⟨by kernel_rfl, fun _ _ => by kernel_rfl⟩) (by assumption) ?_
    have HFin := hidIn (fun Z hZ => net_made (w5 := w5) (B := w.heap.size) (a := gb) (b := b3) (ns := ns) (ls := ls) (R := R) (lt := lt) (cp := cp) (row_below Hr1.out hbA (Nat.le_of_eq Hgb.out)) (row_below He1.out hbA (Nat.le_of_eq Hgb.out)) (fun j hj => by have := (Hr1.out.lt j hj).2; rw [Hgb.out] at this; exact this) (fun j hj => by have := (He1.out.lt j hj).2; rw [Hgb.out] at this; exact this) hpA hgw hPb hmb hca5 HSc.out Hcu.out hs4 HSm.out Z hZ)
    have hbw : Below w.heap.size w w5 := Hb1.out.trans (hbA.mono hgw)
    obtain ⟨NL, hNL⟩ : ∃ NL, (ntV nilQ ⟨P, m, cp, cm, NV, EV⟩ lt no1 0).toArray = NL := ⟨_, rfl⟩
    obtain ⟨w6, hw6⟩ : ∃ w6, w5.alloc (.cells NL 76) = w6 := ⟨_, rfl⟩
    have hA6 : w6.heap[w5.heap.size]? = some (.cells NL 76) := by rw [← hw6]; exact heap_alloc_last w5 _
    have hx6 : NwR gb NV EV w6 := by
      have hb6 : Below w5.heap.size w5 w6 := by rw [← hw6]; exact (Below.refl _ w5).alloc (Nat.le_refl _) _
      have hsz := hbA.size
      exact ⟨(hb6.cell (p := ⟨gb, 0, none⟩) (by show gb < _; have := block_lt_of_cell hx5.a; exact this)).trans hx5.a, (hb6.cell (p := ⟨gb, 1, none⟩) (by show gb < _; have := block_lt_of_cell hx5.b; exact this)).trans hx5.b⟩
    have hB7 : Below w.heap.size w (w6.setCell ⟨w5.heap.size, 0, none⟩ (pp w5.heap.size)) := by
      rw [← hw6]
      exact (hbw.alloc hbw.size _).setCell (p := ⟨w5.heap.size, 0, none⟩) hbw.size _
    obtain ⟨np, hnp⟩ : ∃ np, w5.heap.size = np := ⟨_, rfl⟩
    rw [hNL] at HFin ⊢
    rw [hw6, hnp] at HFin
    rw [hnp] at hA6 hB7
    have HA6 := hidIn hA6
    have HB7 := hidIn hB7
    have HW6 := hidIn hw6
    have Hnp := hidIn hnp
    have z0 : w6.cell? ⟨np, 0, none⟩ = some nilQ := by
      rw [cell_of_row _ _ 0 _ _ _ hA6, ← hNL]
      rfl
    have zf := frozen_new hA6 0
    clear hbA hpA hca5 hbw hNL hw6 hA6 hB7 hnp
    refine wpAnyH_ready (rs := [6]) (by kernel_rfl) (by simp) ?_
    refine AllReadyH.cons (i := 6) rfl ?_ AllReadyH.nil
    go_simp
    intro K hK
    rw [HW6.out, Hnp.out]
    refine hK.out _ _ hx6 (fun _ => ?_)
    clear hK K
    refine wpAnyH_ready (rs := [7]) (by kernel_rfl) (by simp) ?_
    refine AllReadyH.cons (i := 7) rfl ?_ AllReadyH.nil
    go_simp
    intro K hK
    refine hK.out _ _ hx6 (fun _ => ?_)
    clear hK K
    refine wpAnyH_done (by kernel_rfl) ?_ _
    go_wp2_with fail
    go_returns
    exact ⟨⟨_, rfl, fun Z hZ => HFin.out Z hZ⟩, HB7.out⟩
  · go_simp
    intro K hK
    obtain ⟨w4, hw4⟩ : ∃ w4, (w3.alloc (.map #[] 0)).drew = w4 := ⟨_, rfl⟩
    have hb4 : Below b3 w3 w4 := by rw [← hw4]; exact ((Below.refl _ w3).alloc (by rw [hb39]; omega) _).drew
    have hmc : MpC w4 b3 0 (fun _ => false) := by rw [← hw4, ← hb39]; exact mpC_new w3
    have hs4 : w4.heap.size = b3 + 1 := by rw [← hw4]; simp [World.drew, hb39]
    have hx4 : NwR gb NV EV w4 := by rw [← hw4]; exact HX.out _ (show Below (gb + 1) w3.drew (w3.drew.alloc (.map #[] 0)) from (Below.refl _ w3.drew).alloc (by rw [hsd]; omega) _)
    rw [hw4]
    try rw [hsd]
    refine hK.out _ _ hx4 (fun _ => ?_)
    clear hK K hw4
    refine wpAnyH_ready (rs := [3]) (by kernel_rfl) (by simp) ?_
    refine AllReadyH.cons (i := 3) rfl ?_ AllReadyH.nil
    go_simp
    intro K hK
    refine (HN _).out.mono ?_
    rintro e w5 ⟨cp, rfl, hca, hb5⟩
    obtain ⟨cm, hcm⟩ : ∃ cm, b3 = cm := ⟨_, rfl⟩
    have hx5 : NwR gb NV EV w5 := ⟨(hb5.cell (p := ⟨gb, 0, none⟩) (by show gb < _; omega)).trans hx4.a, (hb5.cell (p := ⟨gb, 1, none⟩) (by show gb < _; omega)).trans hx4.b⟩
    refine hK.out _ _ hx5 (fun _ => ?_)
    clear hK K
    have hbA : Below gb w1 w5 := HB3.out.trans ((hb4.mono (by omega)).trans (hb5.mono (by omega)))
    have hpA : PlAt w5 P m R no2 := (HP3.out.below hb4 hPb.2 hmb.2).below (hb5.mono (by omega)) hPb.2 hmb.2
    have Hcu := hidIn (hmc.below hb5 (by omega))
    have hca5 := hca
    have HSc : Hid (∀ j, (w4.heap.size ≤ j ∧ j < w5.heap.size) → b3 ≤ j ∧ j < w5.heap.size) := hidIn (fun j hj => ⟨by omega, hj.2⟩)
    have HSm : Hid (¬ (w4.heap.size ≤ cm ∧ cm < w5.heap.size)) := hidIn (fun h => by omega)
    rw [hcm] at Hcu ⊢
    have hs4 : b3 ≤ cm := by omega
    clear hca hb4 hb5 hmc
    refine wpAnyH_take (i := 5) (v := .agg (ntV nilQ ⟨P, m, cp, cm, NV, EV⟩ lt no1 0).toArray) rfl (by kernel_rfl) (by kernel_rfl) (by kernel_rfl) (fun _ _ _ h => h) (Or.inl ⟨by kernel_rfl, fun _ _ => by kernel_rfl⟩) (by assumption) ?_
    have HFin := hidIn (fun Z hZ => net_made (w5 := w5) (B := w.heap.size) (a := gb) (b := b3) (ns := ns) (ls := ls) (R := R) (lt := lt) (cp := cp) (row_below Hr1.out hbA (Nat.le_of_eq Hgb.out)) (row_below He1.out hbA (Nat.le_of_eq Hgb.out)) (fun j hj => by have := (Hr1.out.lt j hj).2; rw [Hgb.out] at this; exact this) (fun j hj => by have := (He1.out.lt j hj).2; rw [Hgb.out] at this; exact this) hpA hgw hPb hmb hca5 HSc.out Hcu.out hs4 HSm.out Z hZ)
    have hbw : Below w.heap.size w w5 := Hb1.out.trans (hbA.mono hgw)
    obtain ⟨NL, hNL⟩ : ∃ NL, (ntV nilQ ⟨P, m, cp, cm, NV, EV⟩ lt no1 0).toArray = NL := ⟨_, rfl⟩
    obtain ⟨w6, hw6⟩ : ∃ w6, w5.alloc (.cells NL 76) = w6 := ⟨_, rfl⟩
    have hA6 : w6.heap[w5.heap.size]? = some (.cells NL 76) := by rw [← hw6]; exact heap_alloc_last w5 _
    have hx6 : NwR gb NV EV w6 := by
      have hb6 : Below w5.heap.size w5 w6 := by rw [← hw6]; exact (Below.refl _ w5).alloc (Nat.le_refl _) _
      have hsz := hbA.size
      exact ⟨(hb6.cell (p := ⟨gb, 0, none⟩) (by show gb < _; have := block_lt_of_cell hx5.a; exact this)).trans hx5.a, (hb6.cell (p := ⟨gb, 1, none⟩) (by show gb < _; have := block_lt_of_cell hx5.b; exact this)).trans hx5.b⟩
    have hB7 : Below w.heap.size w (w6.setCell ⟨w5.heap.size, 0, none⟩ (pp w5.heap.size)) := by
      rw [← hw6]
      exact (hbw.alloc hbw.size _).setCell (p := ⟨w5.heap.size, 0, none⟩) hbw.size _
    obtain ⟨np, hnp⟩ : ∃ np, w5.heap.size = np := ⟨_, rfl⟩
    rw [hNL] at HFin ⊢
    rw [hw6, hnp] at HFin
    rw [hnp] at hA6 hB7
    have HA6 := hidIn hA6
    have HB7 := hidIn hB7
    have HW6 := hidIn hw6
    have Hnp := hidIn hnp
    have z0 : w6.cell? ⟨np, 0, none⟩ = some nilQ := by
      rw [cell_of_row _ _ 0 _ _ _ hA6, ← hNL]
      rfl
    have zf := frozen_new hA6 0
    clear hbA hpA hca5 hbw hNL hw6 hA6 hB7 hnp
    refine wpAnyH_ready (rs := [6]) (by kernel_rfl) (by simp) ?_
    refine AllReadyH.cons (i := 6) rfl ?_ AllReadyH.nil
    go_simp
    intro K hK
    rw [HW6.out, Hnp.out]
    refine hK.out _ _ hx6 (fun _ => ?_)
    clear hK K
    refine wpAnyH_ready (rs := [7]) (by kernel_rfl) (by simp) ?_
    refine AllReadyH.cons (i := 7) rfl ?_ AllReadyH.nil
    go_simp
    intro K hK
    refine hK.out _ _ hx6 (fun _ => ?_)
    clear hK K
    refine wpAnyH_done (by kernel_rfl) ?_ _
    go_wp2_with fail
    go_returns
    exact ⟨⟨_, rfl, fun Z hZ => HFin.out Z hZ⟩, HB7.out⟩
end Go.Proofs.Ytkhfpcnmnnboeaa.Nt
namespace Go.Proofs.Ytkhfpcnmnnboeaa.Nt
open Go.RowKit Go.Proofs.Ytkhfpcnmnnboeaa.Fa

theorem eqI (d : Nat) (x y : Int) (w : World) : (Op.equalIn (d + 1) 3 (.int .i64 x) (.int .i64 y)).run Try.prog w = .ok (x == y) w := run_equalIn_int w d _ _ _ x y Try.underlying3
theorem eqS (d : Nat) (x y : ByteArray) (w : World) : (Op.equalIn (d + 1) 9 (.string x) (.string y)).run Try.prog w = .ok (x.toList == y.toList) w := run_equalIn_string w d _ x y Try.underlying9
theorem partFt {x0 x1 x2 : Value} (w : World) : (part 3 #[x0, x1, x2] 0).run Try.prog w = .ok x0 w ∧ (part 3 #[x0, x1, x2] 1).run Try.prog w = .ok x1 w ∧ (part 3 #[x0, x1, x2] 2).run Try.prog w = .ok x2 w := ⟨by kernel_rfl, by kernel_rfl, by kernel_rfl⟩
theorem FtFields : (Try.prog.fieldsOf 33).toList.map (fun f => (f.name == "_", f.type, f.offset)) = [(false, 3, 0), (false, 3, 1), (false, 3, 2)] := by kernel_rfl
theorem FtUnder : Try.prog.underlying 33 = some (.struct (Try.prog.fieldsOf 33)) := by kernel_rfl
theorem FtStood : Try.prog.stoodInHeld 33 = false := by kernel_rfl
theorem eq_Ft (a0 a1 a2 b0 b1 b2 : Int) (w : World) : (Op.equalIn 10000 33 (.agg #[.int .i64 a0, .int .i64 a1, .int .i64 a2]) (.agg #[.int .i64 b0, .int .i64 b1, .int .i64 b2])).run Try.prog w = .ok (a0 == b0 && a1 == b1 && a2 == b2) w := by
  rw [run_equalIn_struct w 9999 _ _ _ FtUnder FtStood]
  have hf := FtFields
  generalize (Try.prog.fieldsOf 33).toList = fs at hf
  obtain ⟨p0, p1, p2⟩ := @partFt (.int .i64 a0) (.int .i64 a1) (.int .i64 a2) w
  obtain ⟨q0, q1, q2⟩ := @partFt (.int .i64 b0) (.int .i64 b1) (.int .i64 b2) w
  obtain ⟨f0, r0, rfl, h0, hf⟩ := List.map_eq_cons_iff.1 hf
  obtain ⟨f1, r1, rfl, h1, hf⟩ := List.map_eq_cons_iff.1 hf
  obtain ⟨f2, r2, rfl, h2, hf⟩ := List.map_eq_cons_iff.1 hf
  obtain rfl := List.map_eq_nil_iff.1 hf
  simp only [Prod.mk.injEq] at h0
  obtain ⟨n0, t0, o0⟩ := h0
  simp only [Prod.mk.injEq] at h1
  obtain ⟨n1, t1, o1⟩ := h1
  simp only [Prod.mk.injEq] at h2
  obtain ⟨n2, t2, o2⟩ := h2
  rw [eqFields_cons 9999 _ _ f0 [f1, f2] (.int .i64 a0) (.int .i64 b0) (a0 == b0) w n0 (by rw [t0, o0]; exact p0) (by rw [t0, o0]; exact q0) (by rw [t0]; exact eqI 9998 a0 b0 w)]
  rw [eqFields_cons 9999 _ _ f1 [f2] (.int .i64 a1) (.int .i64 b1) (a1 == b1) w n1 (by rw [t1, o1]; exact p1) (by rw [t1, o1]; exact q1) (by rw [t1]; exact eqI 9998 a1 b1 w)]
  rw [eqFields_cons 9999 _ _ f2 [] (.int .i64 a2) (.int .i64 b2) (a2 == b2) w n2 (by rw [t2, o2]; exact p2) (by rw [t2, o2]; exact q2) (by rw [t2]; exact eqI 9998 a2 b2 w)]
  cases a0 == b0 <;> cases a1 == b1 <;> cases a2 == b2 <;> simp [Op.eqFields]
theorem partAj {x0 x1 : Value} (w : World) : (part 3 #[x0, x1] 0).run Try.prog w = .ok x0 w ∧ (part 3 #[x0, x1] 1).run Try.prog w = .ok x1 w := ⟨by kernel_rfl, by kernel_rfl⟩
theorem AjFields : (Try.prog.fieldsOf 68).toList.map (fun f => (f.name == "_", f.type, f.offset)) = [(false, 3, 0), (false, 3, 1)] := by kernel_rfl
theorem AjUnder : Try.prog.underlying 68 = some (.struct (Try.prog.fieldsOf 68)) := by kernel_rfl
theorem AjStood : Try.prog.stoodInHeld 68 = false := by kernel_rfl
theorem eq_Aj (a0 a1 b0 b1 : Int) (w : World) : (Op.equalIn 10000 68 (.agg #[.int .i64 a0, .int .i64 a1]) (.agg #[.int .i64 b0, .int .i64 b1])).run Try.prog w = .ok (a0 == b0 && a1 == b1) w := by
  rw [run_equalIn_struct w 9999 _ _ _ AjUnder AjStood]
  have hf := AjFields
  generalize (Try.prog.fieldsOf 68).toList = fs at hf
  obtain ⟨p0, p1⟩ := @partAj (.int .i64 a0) (.int .i64 a1) w
  obtain ⟨q0, q1⟩ := @partAj (.int .i64 b0) (.int .i64 b1) w
  obtain ⟨f0, r0, rfl, h0, hf⟩ := List.map_eq_cons_iff.1 hf
  obtain ⟨f1, r1, rfl, h1, hf⟩ := List.map_eq_cons_iff.1 hf
  obtain rfl := List.map_eq_nil_iff.1 hf
  simp only [Prod.mk.injEq] at h0
  obtain ⟨n0, t0, o0⟩ := h0
  simp only [Prod.mk.injEq] at h1
  obtain ⟨n1, t1, o1⟩ := h1
  rw [eqFields_cons 9999 _ _ f0 [f1] (.int .i64 a0) (.int .i64 b0) (a0 == b0) w n0 (by rw [t0, o0]; exact p0) (by rw [t0, o0]; exact q0) (by rw [t0]; exact eqI 9998 a0 b0 w)]
  rw [eqFields_cons 9999 _ _ f1 [] (.int .i64 a1) (.int .i64 b1) (a1 == b1) w n1 (by rw [t1, o1]; exact p1) (by rw [t1, o1]; exact q1) (by rw [t1]; exact eqI 9998 a1 b1 w)]
  cases a0 == b0 <;> cases a1 == b1 <;> simp [Op.eqFields]
theorem partEd {x0 x1 x2 : Value} (w : World) : (part 3 #[x0, x1, x2] 0).run Try.prog w = .ok x0 w ∧ (part 3 #[x0, x1, x2] 1).run Try.prog w = .ok x1 w ∧ (part 3 #[x0, x1, x2] 2).run Try.prog w = .ok x2 w := ⟨by kernel_rfl, by kernel_rfl, by kernel_rfl⟩
theorem EdFields : (Try.prog.fieldsOf 64).toList.map (fun f => (f.name == "_", f.type, f.offset)) = [(false, 3, 0), (false, 3, 1), (false, 3, 2)] := by kernel_rfl
theorem EdUnder : Try.prog.underlying 64 = some (.struct (Try.prog.fieldsOf 64)) := by kernel_rfl
theorem EdStood : Try.prog.stoodInHeld 64 = false := by kernel_rfl
theorem eq_Ed (a0 a1 a2 b0 b1 b2 : Int) (w : World) : (Op.equalIn 10000 64 (.agg #[.int .i64 a0, .int .i64 a1, .int .i64 a2]) (.agg #[.int .i64 b0, .int .i64 b1, .int .i64 b2])).run Try.prog w = .ok (a0 == b0 && a1 == b1 && a2 == b2) w := by
  rw [run_equalIn_struct w 9999 _ _ _ EdUnder EdStood]
  have hf := EdFields
  generalize (Try.prog.fieldsOf 64).toList = fs at hf
  obtain ⟨p0, p1, p2⟩ := @partEd (.int .i64 a0) (.int .i64 a1) (.int .i64 a2) w
  obtain ⟨q0, q1, q2⟩ := @partEd (.int .i64 b0) (.int .i64 b1) (.int .i64 b2) w
  obtain ⟨f0, r0, rfl, h0, hf⟩ := List.map_eq_cons_iff.1 hf
  obtain ⟨f1, r1, rfl, h1, hf⟩ := List.map_eq_cons_iff.1 hf
  obtain ⟨f2, r2, rfl, h2, hf⟩ := List.map_eq_cons_iff.1 hf
  obtain rfl := List.map_eq_nil_iff.1 hf
  simp only [Prod.mk.injEq] at h0
  obtain ⟨n0, t0, o0⟩ := h0
  simp only [Prod.mk.injEq] at h1
  obtain ⟨n1, t1, o1⟩ := h1
  simp only [Prod.mk.injEq] at h2
  obtain ⟨n2, t2, o2⟩ := h2
  rw [eqFields_cons 9999 _ _ f0 [f1, f2] (.int .i64 a0) (.int .i64 b0) (a0 == b0) w n0 (by rw [t0, o0]; exact p0) (by rw [t0, o0]; exact q0) (by rw [t0]; exact eqI 9998 a0 b0 w)]
  rw [eqFields_cons 9999 _ _ f1 [f2] (.int .i64 a1) (.int .i64 b1) (a1 == b1) w n1 (by rw [t1, o1]; exact p1) (by rw [t1, o1]; exact q1) (by rw [t1]; exact eqI 9998 a1 b1 w)]
  rw [eqFields_cons 9999 _ _ f2 [] (.int .i64 a2) (.int .i64 b2) (a2 == b2) w n2 (by rw [t2, o2]; exact p2) (by rw [t2, o2]; exact q2) (by rw [t2]; exact eqI 9998 a2 b2 w)]
  cases a0 == b0 <;> cases a1 == b1 <;> cases a2 == b2 <;> simp [Op.eqFields]
theorem partAr {x0 x1 x2 : Value} (w : World) : (part 3 #[x0, x1, x2] 0).run Try.prog w = .ok x0 w ∧ (part 3 #[x0, x1, x2] 1).run Try.prog w = .ok x1 w ∧ (part 9 #[x0, x1, x2] 2).run Try.prog w = .ok x2 w := ⟨by kernel_rfl, by kernel_rfl, by kernel_rfl⟩
theorem ArFields : (Try.prog.fieldsOf 30).toList.map (fun f => (f.name == "_", f.type, f.offset)) = [(false, 3, 0), (false, 3, 1), (false, 9, 2)] := by kernel_rfl
theorem ArUnder : Try.prog.underlying 30 = some (.struct (Try.prog.fieldsOf 30)) := by kernel_rfl
theorem ArStood : Try.prog.stoodInHeld 30 = false := by kernel_rfl
theorem eq_Ar (a0 a1 b0 b1 : Int) (a2 b2 : ByteArray) (w : World) : (Op.equalIn 10000 30 (.agg #[.int .i64 a0, .int .i64 a1, .string a2]) (.agg #[.int .i64 b0, .int .i64 b1, .string b2])).run Try.prog w = .ok (a0 == b0 && a1 == b1 && a2.toList == b2.toList) w := by
  rw [run_equalIn_struct w 9999 _ _ _ ArUnder ArStood]
  have hf := ArFields
  generalize (Try.prog.fieldsOf 30).toList = fs at hf
  obtain ⟨p0, p1, p2⟩ := @partAr (.int .i64 a0) (.int .i64 a1) (.string a2) w
  obtain ⟨q0, q1, q2⟩ := @partAr (.int .i64 b0) (.int .i64 b1) (.string b2) w
  obtain ⟨f0, r0, rfl, h0, hf⟩ := List.map_eq_cons_iff.1 hf
  obtain ⟨f1, r1, rfl, h1, hf⟩ := List.map_eq_cons_iff.1 hf
  obtain ⟨f2, r2, rfl, h2, hf⟩ := List.map_eq_cons_iff.1 hf
  obtain rfl := List.map_eq_nil_iff.1 hf
  simp only [Prod.mk.injEq] at h0
  obtain ⟨n0, t0, o0⟩ := h0
  simp only [Prod.mk.injEq] at h1
  obtain ⟨n1, t1, o1⟩ := h1
  simp only [Prod.mk.injEq] at h2
  obtain ⟨n2, t2, o2⟩ := h2
  rw [eqFields_cons 9999 _ _ f0 [f1, f2] (.int .i64 a0) (.int .i64 b0) (a0 == b0) w n0 (by rw [t0, o0]; exact p0) (by rw [t0, o0]; exact q0) (by rw [t0]; exact eqI 9998 a0 b0 w)]
  rw [eqFields_cons 9999 _ _ f1 [f2] (.int .i64 a1) (.int .i64 b1) (a1 == b1) w n1 (by rw [t1, o1]; exact p1) (by rw [t1, o1]; exact q1) (by rw [t1]; exact eqI 9998 a1 b1 w)]
  rw [eqFields_cons 9999 _ _ f2 [] (.string a2) (.string b2) (a2.toList == b2.toList) w n2 (by rw [t2, o2]; exact p2) (by rw [t2, o2]; exact q2) (by rw [t2]; exact eqS 9998 a2 b2 w)]
  cases a0 == b0 <;> cases a1 == b1 <;> cases a2.toList == b2.toList <;> simp [Op.eqFields]
theorem slAt_block {α : Type} {cs : α → List Value} {sz : Nat} (hc : ∀ x, (cs x).length = sz) {w : World} {b cap : Nat} {T : TypeId} {l : List α} (h : w.heap[b]? = some (.cells (fl cs l).toArray T)) (hl : l.length ≤ cap) (hm : cap ≤ 9223372036854775807) : SlAt cs sz w (.slice (some ⟨b, 0, none⟩) l.length cap) l := by
  refine ⟨_, cap, rfl, by omega, hl, fun _ => ⟨b, 0, rfl, block_lt h, fun j x hx i u hu => ?_⟩⟩
  have hi : i < sz := by have := (List.getElem?_eq_some_iff.1 hu).1; rwa [hc] at this
  rw [Nat.zero_add, cell_of_row w b _ _ T _ h, List.getElem?_toArray, fl_get hc l j i x hx hi]
  exact hu
/-- Is it just that message? -/
def oneB (l : List Ar) (a b : Int) (s : ByteArray) : Bool := match l with
  | [x] => x.1 == a && x.2.1 == b && x.2.2.toList == s.toList
  | _ => false
theorem oneB_len {l : List Ar} {a b : Int} {s : ByteArray} (h : l.length ≠ 1) : oneB l a b s = false := by
  match l with
  | [] => rfl
  | [x] => simp at h
  | x :: y :: l => rfl
set_option maxRecDepth 100000 in
theorem one_any {l : List Ar} {v : Value} {w : World} (h : SlAt arC 3 w v l) (a b : Int) (s : ByteArray) :
    Calls Try.prog 22 #[v, .int .i64 a, .int .i64 b, .string s] w fun e w' => e = .returned (.bool (oneB l a b s)) ∧ w' = w := by
  obtain ⟨aa, cap, rfl, hl, hcap, hat⟩ := h
  have hq := fun a0 a1 b0 b1 a2 b2 w => eq_Ar a0 a1 b0 b1 a2 b2 w
  by_cases h1 : l.length = 1
  · obtain ⟨x, rfl⟩ := List.length_eq_one_iff.1 h1
    obtain ⟨bk, o, rfl, hbk, hc⟩ := hat (by simp)
    have c0 := hc 0 x rfl 0 _ rfl
    have c1 := hc 0 x rfl 1 _ rfl
    have c2 := hc 0 x rfl 2 _ rfl
    obtain ⟨x0, x1, x2⟩ := x
    simp at c0 c1 c2
    have HE : Hid (oneB [(x0, x1, x2)] a b s = (x0 == a && x1 == b && x2.toList == s.toList)) := hidIn rfl
    rw [HE.out]
    clear hat hc h1 hl hcap
    simp only [List.length_cons, List.length_nil]
    go_enter Try.func22, Try.ntmps22
    go_wp2_with fail
    go_returns
    exact ⟨rfl, rfl⟩
  · rw [oneB_len h1]
    obtain ⟨n, hn⟩ : ∃ n, l.length = n := ⟨_, rfl⟩
    have h1i : ¬ (n : Int) = 1 := by omega
    have h1b : ((n : Int) == 1) = false := by simpa using h1i
    rw [hn]
    clear hat hl hcap h1 hn
    go_enter Try.func22, Try.ntmps22
    go_wp2_with fail
    go_returns
    exact ⟨rfl, rfl⟩
theorem NetZ.less {w : World} {Z Y : Nat → Prop} {np : Nat} {N : Nv} (h : NetZ w Z np N) (hY : ∀ j, Y j → Z j) : NetZ w Y np N := by
  obtain ⟨⟨D, S, h1, h2, h3⟩, h4⟩ := h
  exact ⟨⟨D, S, h1, fun j hj hy => h2 j hj (hY j hy), h3⟩, fun j hj => h4 j (hY j hj)⟩
def sendF (N : Nv) (a b : Int) (n : Nat) : Ft := if refE N a b n = 0 then fateN N a b else (0, 0, 0)
def sendZ (N : Nv) (a b : Int) (s : ByteArray) : Nv := if refE N a b s.size = 0 then sendN N a b s else N
def cutL (N : Nv) (a b : Int) : List Ar := if cutE N a b = 0 then goneN (cutN N a b true) else []
def cutZ (N : Nv) (a b : Int) : Nv := if cutE N a b = 0 then leftN (cutN N a b true) else N
def mendZ (N : Nv) (a b : Int) : Nv := if mendE N a b = 0 then cutN N a b false else N
def stopL (N : Nv) (r : Int) : List Ar := if stopE N r = 0 then goneN (stopN N r true) else []
def stopZ (N : Nv) (r : Int) : Nv := if stopE N r = 0 then leftN (stopN N r true) else N
def startZ (N : Nv) (r : Int) : Nv := if startE N r = 0 then stopN N r false else N
def nearZ (N : Nv) (r : Int) : List (Int × Int) := if hasN N.V r = true then nearL (eUp N) r else []
theorem NvOk.left {N : Nv} {k : Nat} (h : NvOk N k) : NvOk (leftN N) k :=
  ⟨h.v, h.vl, h.e, h.el, h.lt, h.p, h.q, h.a, h.now, fun b hb => h.l b (List.mem_filter.1 hb).1, Nat.le_trans (List.length_filter_le _ _) h.ll, h.r⟩
theorem NvOk.cut {N : Nv} {k : Nat} (h : NvOk N k) (a b : Int) (v : Bool) : NvOk (cutN N a b v) (k + 1) := by
  have h' := h.mono (Nat.le_succ k)
  refine ⟨h'.v, h'.vl, h'.e, h'.el, h'.lt, h'.p, ?_, h'.a, h'.now, h'.l, h'.ll, h'.r⟩
  have := h.q
  show (if v = true then N.q + 1 else N.q) ≤ _
  split <;> omega
theorem NvOk.tick {N : Nv} {k : Nat} (h : NvOk N k) : NvOk (tickN N) (k + 1) := by
  have h' := h.mono (Nat.le_succ k)
  have hr := Ca.due_rest N.L (N.now + 1)
  refine ⟨h'.v, h'.vl, h'.e, h'.el, h'.lt, h'.p, h'.q, h'.a, ?_, fun b hb => h.l b (by rw [← hr]; exact List.mem_append_right _ hb), ?_, h'.r⟩
  · have := h.now
    show 0 ≤ N.now + 1 ∧ N.now + 1 ≤ _
    omega
  · have h1 := congrArg List.length hr
    rw [List.length_append] at h1
    have := h.ll
    show (Ca.restT N.L (N.now + 1)).length ≤ _
    omega
theorem NvOk.sendZ {N : Nv} {k : Nat} (h : NvOk N k) (a b : Int) (s : ByteArray) : NvOk (sendZ N a b s) (k + 3) := by
  unfold Nt.sendZ
  by_cases hr : refE N a b s.size = 0
  · rw [if_pos hr]
    have hb := lkQ_bd h (refE_zero hr).1
    have h1 := h.ask a b
    have h2 := h1.put (x := (a, b, s)) ⟨hb.1, hb.2.1⟩ (fateN N a b).2.1
    have h3 := h2.put (x := (a, b, s)) ⟨hb.1, hb.2.1⟩ (fateN N a b).2.2
    unfold sendN
    split
    · exact h1.mono (by omega)
    · split
      · exact h2.mono (by omega)
      · exact h3
  · rw [if_neg hr]
    exact h.mono (by omega)
theorem NvOk.cutZ {N : Nv} {k : Nat} (h : NvOk N k) (a b : Int) : NvOk (cutZ N a b) (k + 1) := by
  unfold Nt.cutZ
  split
  · exact (h.cut a b true).left
  · exact h.mono (by omega)
theorem NvOk.mendZ {N : Nv} {k : Nat} (h : NvOk N k) (a b : Int) : NvOk (mendZ N a b) (k + 1) := by
  unfold Nt.mendZ
  split
  · exact h.cut a b false
  · exact h.mono (by omega)
theorem NvOk.stopZ {N : Nv} {k : Nat} (h : NvOk N k) (r : Int) : NvOk (stopZ N r) k := by
  unfold Nt.stopZ
  split
  · exact (h.stop r true).left
  · exact h
theorem NvOk.startZ {N : Nv} {k : Nat} (h : NvOk N k) (r : Int) : NvOk (startZ N r) k := by
  unfold Nt.startZ
  split
  · exact h.stop r false
  · exact h
theorem zsend {w : World} {Z : Nat → Prop} {np k : Nat} {N : Nv} (h : NetZ w Z np N) (hk : NvOk N k) (hk9 : k ≤ 20000) (a b : Int) (s : ByteArray) :
    Calls Try.prog 10 #[pp np, .int .i64 a, .int .i64 b, .string s] w fun e w' => e = .returned (.tuple #[ftV (sendF N a b s.size), .int .i64 (refE N a b s.size)]) ∧ NetZ w' Z np (sendZ N a b s) ∧ Fr (fun j => ¬ Z j) w w' := by
  obtain ⟨⟨D, S, h1, h2, h3⟩, h4⟩ := h
  unfold sendF sendZ
  by_cases hr : refE N a b s.size = 0
  · rw [if_pos hr, if_pos hr, hr]
    refine (send_ok h1 h3 hk hk9 a b s hr).mono ?_
    rintro e w' ⟨rfl, hres⟩
    exact ⟨rfl, NetZ.res h1 h2 h4 hres⟩
  · rw [if_neg hr, if_neg hr]
    refine (send_no h1 hk a b s hr).mono ?_
    rintro e w' ⟨rfl, hb⟩
    exact ⟨rfl, NetZ.below ⟨⟨D, S, h1, h2, h3⟩, h4⟩ hb, Fr.of_below hb⟩
theorem ztick {w : World} {Z : Nat → Prop} {np k : Nat} {N : Nv} (h : NetZ w Z np N) (hk : NvOk N k) (hk9 : k ≤ 20000) :
    Calls Try.prog 16 #[pp np] w fun e w' => (∃ v, e = .returned v ∧ w'.ownsRow w.heap.size 30 3 v (comeN N).length (fl arC (comeN N)) ∧ NetZ w' (fun j => Z j ∨ v.ownBlock = some j) np (tickN N)) ∧ Fr (fun j => ¬ Z j) w w' := by
  obtain ⟨⟨D, S, h1, h2, h3⟩, h4⟩ := h
  refine (tick_any h1 h3 hk (by omega)).mono ?_
  rintro e w' ⟨⟨v, rfl, hrow⟩, hres⟩
  have := NetZ.res0 h1 h3 h2 h4 hres (fun j hj => hrow.lt j hj)
  exact ⟨⟨v, rfl, hrow, this.1⟩, this.2⟩
theorem zcut {w : World} {Z : Nat → Prop} {np k : Nat} {N : Nv} (h : NetZ w Z np N) (hk : NvOk N k) (hk9 : k ≤ 20000) (a b : Int) :
    Calls Try.prog 12 #[pp np, .int .i64 a, .int .i64 b] w fun e w' => (∃ v, e = .returned (.tuple #[v, .int .i64 (cutE N a b)]) ∧ w'.ownsRow w.heap.size 30 3 v (cutL N a b).length (fl arC (cutL N a b)) ∧ NetZ w' (fun j => Z j ∨ v.ownBlock = some j) np (cutZ N a b)) ∧ Fr (fun j => ¬ Z j) w w' := by
  obtain ⟨⟨D, S, h1, h2, h3⟩, h4⟩ := h
  unfold cutL cutZ
  by_cases hr : cutE N a b = 0
  · rw [if_pos hr, if_pos hr, hr]
    refine (cut_ok h1 h3 hk hk9 a b hr).mono ?_
    rintro e w' ⟨⟨v, rfl, hrow⟩, hres⟩
    have := NetZ.res0 h1 h3 h2 h4 hres (fun j hj => hrow.lt j hj)
    exact ⟨⟨v, rfl, hrow, this.1⟩, this.2⟩
  · rw [if_neg hr, if_neg hr]
    refine (cut_no h1 hk a b hr).mono ?_
    rintro e w' ⟨rfl, hb⟩
    exact ⟨⟨_, rfl, World.ownsRow_nil _ _ _ _, (NetZ.below ⟨⟨D, S, h1, h2, h3⟩, h4⟩ hb).less (fun j hj => hj.elim id (fun hj => by simp [Value.ownBlock] at hj))⟩, Fr.of_below hb⟩
theorem zmend {w : World} {Z : Nat → Prop} {np k : Nat} {N : Nv} (h : NetZ w Z np N) (hk : NvOk N k) (a b : Int) :
    Calls Try.prog 13 #[pp np, .int .i64 a, .int .i64 b] w fun e w' => e = .returned (.int .i64 (mendE N a b)) ∧ NetZ w' Z np (mendZ N a b) ∧ Fr (fun j => ¬ Z j) w w' := by
  obtain ⟨⟨D, S, h1, h2, h3⟩, h4⟩ := h
  unfold mendZ
  by_cases hr : mendE N a b = 0
  · rw [if_pos hr, hr]
    refine (mend_ok h1 h3 hk a b hr).mono ?_
    rintro e w' ⟨rfl, hres⟩
    exact ⟨rfl, NetZ.res h1 h2 h4 hres⟩
  · rw [if_neg hr]
    refine (mend_no h1 hk a b hr).mono ?_
    rintro e w' ⟨rfl, hb⟩
    exact ⟨rfl, NetZ.below ⟨⟨D, S, h1, h2, h3⟩, h4⟩ hb, Fr.of_below hb⟩
theorem zstop {w : World} {Z : Nat → Prop} {np k : Nat} {N : Nv} (h : NetZ w Z np N) (hk : NvOk N k) (hk9 : k ≤ 20000) (r : Int) :
    Calls Try.prog 14 #[pp np, .int .i64 r] w fun e w' => (∃ v, e = .returned (.tuple #[v, .int .i64 (stopE N r)]) ∧ w'.ownsRow w.heap.size 30 3 v (stopL N r).length (fl arC (stopL N r)) ∧ NetZ w' (fun j => Z j ∨ v.ownBlock = some j) np (stopZ N r)) ∧ Fr (fun j => ¬ Z j) w w' := by
  obtain ⟨⟨D, S, h1, h2, h3⟩, h4⟩ := h
  unfold stopL stopZ
  by_cases hr : stopE N r = 0
  · rw [if_pos hr, if_pos hr, hr]
    refine (stop_ok h1 h3 hk hk9 r hr).mono ?_
    rintro e w' ⟨⟨v, rfl, hrow⟩, hres⟩
    have := NetZ.res0 h1 h3 h2 h4 hres (fun j hj => hrow.lt j hj)
    exact ⟨⟨v, rfl, hrow, this.1⟩, this.2⟩
  · rw [if_neg hr, if_neg hr]
    refine (stop_no h1 hk r hr).mono ?_
    rintro e w' ⟨rfl, rfl⟩
    exact ⟨⟨_, rfl, World.ownsRow_nil _ _ _ _, NetZ.less ⟨⟨D, S, h1, h2, h3⟩, h4⟩ (fun j hj => hj.elim id (fun hj => by simp [Value.ownBlock] at hj))⟩, Fr.refl _ _⟩
theorem zstart {w : World} {Z : Nat → Prop} {np k : Nat} {N : Nv} (h : NetZ w Z np N) (hk : NvOk N k) (r : Int) :
    Calls Try.prog 15 #[pp np, .int .i64 r] w fun e w' => e = .returned (.int .i64 (startE N r)) ∧ NetZ w' Z np (startZ N r) ∧ Fr (fun j => ¬ Z j) w w' := by
  obtain ⟨⟨D, S, h1, h2, h3⟩, h4⟩ := h
  unfold startZ
  by_cases hr : startE N r = 0
  · rw [if_pos hr, hr]
    refine (start_ok h1 h3 hk r hr).mono ?_
    rintro e w' ⟨rfl, hres⟩
    exact ⟨rfl, NetZ.res h1 h2 h4 hres⟩
  · rw [if_neg hr]
    refine (start_no h1 hk r hr).mono ?_
    rintro e w' ⟨rfl, rfl⟩
    exact ⟨rfl, ⟨⟨D, S, h1, h2, h3⟩, h4⟩, Fr.refl _ _⟩
theorem zup {w : World} {Z : Nat → Prop} {np k : Nat} {N : Nv} (h : NetZ w Z np N) (hk : NvOk N k) (a b : Int) :
    Calls Try.prog 11 #[pp np, .int .i64 a, .int .i64 b] w fun e w' => e = .returned (.bool (lkQ N a b && upQ N a b)) ∧ NetZ w' Z np N ∧ Below w.heap.size w w' := by
  obtain ⟨⟨D, S, h1, h2, h3⟩, h4⟩ := h
  refine (up_any h1 hk a b).mono ?_
  rintro e w' ⟨rfl, hb⟩
  exact ⟨rfl, NetZ.below ⟨⟨D, S, h1, h2, h3⟩, h4⟩ hb, hb⟩
theorem znow {w : World} {Z : Nat → Prop} {np : Nat} {N : Nv} (h : NetZ w Z np N) : Calls Try.prog 18 #[pp np] w fun e w' => e = .returned (.int .u64 N.now) ∧ w' = w := by
  obtain ⟨⟨D, S, h1, h2, h3⟩, h4⟩ := h
  exact now_any h1
theorem zflying {w : World} {Z : Nat → Prop} {np : Nat} {N : Nv} (h : NetZ w Z np N) : Calls Try.prog 17 #[pp np] w fun e w' => e = .returned (.int .i64 N.L.length) ∧ w' = w := by
  obtain ⟨⟨D, S, h1, h2, h3⟩, h4⟩ := h
  exact flying_any h1
theorem znear {w : World} {Z : Nat → Prop} {np k : Nat} {N : Nv} (h : NetZ w Z np N) (hk : NvOk N k) (r : Int) :
    Calls Try.prog 21 #[pp np, .int .i64 r] w fun e w' => (∃ v, e = .returned (.tuple #[v, .int .i64 (noRt N r)]) ∧ w'.ownsRow w.heap.size 68 2 v (nearZ N r).length (fl ac (nearZ N r))) ∧ NetZ w' Z np N ∧ Below w.heap.size w w' := by
  obtain ⟨⟨D, S, h1, h2, h3⟩, h4⟩ := h
  unfold nearZ
  by_cases hr : hasN N.V r = true
  · rw [if_pos hr, noRt_zero hr]
    refine (near_any h1 hk r hr).mono ?_
    rintro e w' ⟨h5, hb⟩
    exact ⟨h5, NetZ.below ⟨⟨D, S, h1, h2, h3⟩, h4⟩ hb, hb⟩
  · have hf : hasN N.V r = false := by simpa using hr
    rw [if_neg hr, noRt_two hf]
    refine (near_no h1 r hf).mono ?_
    rintro e w' ⟨rfl, rfl⟩
    exact ⟨⟨_, rfl, World.ownsRow_nil _ _ _ _⟩, ⟨⟨D, S, h1, h2, h3⟩, h4⟩, Below.refl _ _⟩
theorem zgraph {w : World} {Z : Nat → Prop} {np k : Nat} {N : Nv} (h : NetZ w Z np N) (hk : NvOk N k) :
    Calls Try.prog 20 #[pp np] w fun e w' => (∃ v u, e = .returned (.tuple #[grV v u, .int .i64 0]) ∧ w'.ownsRow w.heap.size 3 1 v (runL N).length (fl ic (runL N)) ∧ w'.ownsRow w.heap.size 64 3 u (eUp N).length (fl ec (eUp N))) ∧ NetZ w' Z np N ∧ Below w.heap.size w w' := by
  obtain ⟨⟨D, S, h1, h2, h3⟩, h4⟩ := h
  refine (graph_any h1 hk).mono ?_
  rintro e w' ⟨h5, hb⟩
  exact ⟨h5, NetZ.below ⟨⟨D, S, h1, h2, h3⟩, h4⟩ hb, hb⟩
end Go.Proofs.Ytkhfpcnmnnboeaa.Nt
namespace Go.Proofs.Ytkhfpcnmnnboeaa.Nt
open Go.RowKit Go.Proofs.Ytkhfpcnmnnboeaa.Fa

def lk3 : List Ed := [(1, 2, 5), (2, 3, 1)]
/-- Three routers in a row. -/
def n3 (R : List Ru) (lt : Int) : Nv := newN [1, 2, 3] lk3 R lt
theorem of3 : ofC [1, 2, 3] lk3 = 0 := by kernel_rfl
theorem of3N : ofN [1, 2, 3] lk3 = [1, 2, 3] := by kernel_rfl
theorem of3E : ofE [1, 2, 3] lk3 = [(1, 2, 5), (2, 1, 5), (2, 3, 1), (3, 2, 1)] := by kernel_rfl
theorem n3_ok {R : List Ru} {lt : Int} (hl : 1 ≤ lt ∧ lt ≤ 64) (hc : chkR R = (0, 0)) : NvOk (n3 R lt) 0 := new_nvOk of3 hl (chk_ok hc).1
theorem fr_low {B : Nat} {w w' : World} (hF : Fr (fun j => ¬ j < B) w w') (hB : B ≤ w.heap.size) : Below B w w' := hF.below hB (fun _ hk => Nat.le_of_not_lt hk)
set_option maxRecDepth 100000 in
theorem three_ok {w : World} {R : List Ru} {lt : Int} {r : Value} (hr : SlAt ruC 5 w r R) (hl : 1 ≤ lt ∧ lt ≤ 64) (hc : chkR R = (0, 0)) :
    Calls Try.prog 8 #[.int .i64 lt, r] w fun e w' => (∃ np, e = .returned (pp np) ∧ ∀ Z : Nat → Prop, (∀ j, Z j → j < w.heap.size) → NetZ w' Z np (n3 R lt)) ∧ Below w.heap.size w w' := by
  obtain ⟨W1, hW1⟩ : ∃ W1, (w.alloc (.cells #[.int .i64 1, .int .i64 2, .int .i64 3] 3)).alloc (.cells #[.int .i64 1, .int .i64 2, .int .i64 5, .int .i64 2, .int .i64 3, .int .i64 1] 52) = W1 := ⟨_, rfl⟩
  have b1 : Below w.heap.size w W1 := by rw [← hW1]; exact ((Below.refl _ w).alloc (Nat.le_refl _) _).alloc (by simp) _
  have hA : W1.heap[w.heap.size]? = some (.cells #[.int .i64 1, .int .i64 2, .int .i64 3] 3) := by rw [← hW1, Below.heap_alloc _ _ _ (by simp)]; exact heap_alloc_last w _
  have hB : W1.heap[w.heap.size + 1]? = some (.cells #[.int .i64 1, .int .i64 2, .int .i64 5, .int .i64 2, .int .i64 3, .int .i64 1] 52) := by
    rw [← hW1]
    have := heap_alloc_last (w.alloc (.cells #[.int .i64 1, .int .i64 2, .int .i64 3] 3)) (.cells #[.int .i64 1, .int .i64 2, .int .i64 5, .int .i64 2, .int .i64 3, .int .i64 1] 52)
    rwa [World.size_alloc] at this
  have s1 := slAt_block (cs := ic) (sz := 1) (l := [1, 2, 3]) (cap := 3) (fun _ => rfl) hA (by decide) (by omega)
  have s2 := slAt_block (cs := ec) (sz := 3) (l := lk3) (cap := 2) (fun _ => rfl) hB (by decide) (by omega)
  have HN := hidIn (new_ok s1 s2 (hr.keep b1 (Nat.le_refl _)) of3 hl hc)
  obtain ⟨ra, rc, rfl, _⟩ := hr
  have HB := hidIn b1
  have HW := hidIn hW1
  clear b1 hA hB s1 s2 hW1 hc
  go_enter Try.func8, Try.ntmps8
  go_wp2_with fail
  rw [HW.out]
  refine HN.out.mono ?_
  rintro e w2 ⟨⟨np, rfl, hZ⟩, hb2⟩
  have HZ := hidIn hZ
  have HB2 := hidIn (HB.out.trans (hb2.mono HB.out.size))
  clear hZ hb2 HN HW
  go_wp2_with fail
  go_returns
  exact ⟨⟨_, rfl, fun Z hZ => HZ.out Z (fun j hj => Nat.lt_of_lt_of_le (hZ j hj) HB.out.size)⟩, HB2.out⟩
/-- What works makes. -/
def k0 : Nv := n3 [] 2
def k1 : Nv := sendZ k0 1 2 ⟨#[97]⟩
def k2 : Nv := tickN k1
def k3 : Nv := tickN k2
theorem k0_facts : refE k0 1 2 (⟨#[97]⟩ : ByteArray).size = 0 ∧ sendF k0 1 2 (⟨#[97]⟩ : ByteArray).size = (1, 0, 0) := ⟨by kernel_rfl, by kernel_rfl⟩
theorem k1_facts : k1.L.length = 1 ∧ comeN k1 = [] := ⟨by kernel_rfl, by kernel_rfl⟩
theorem k2_facts : comeN k2 = [(1, 2, ⟨#[97]⟩)] ∧ k3.L.length = 0 ∧ k3.now = 2 := ⟨by kernel_rfl, by kernel_rfl, by kernel_rfl⟩
set_option maxRecDepth 100000 in
set_option maxHeartbeats 1000000 in
theorem nworks_any (w : World) : Calls Try.prog 7 #[] w fun e w' => e = .returned (.bool true) ∧ Below w.heap.size w w' := by
  have H3 := hidIn (three_ok (w := w) (R := []) (lt := 2) (r := .slice none 0 0) ⟨none, 0, rfl, by simp, Nat.le_refl _, fun h => absurd h (by simp)⟩ (by omega) (by decide))
  have ok0 : NvOk k0 0 := n3_ok (by omega) (by decide)
  have HS := hidIn (fun w1 np (h : NetZ w1 (fun j => j < w.heap.size) np k0) => by
    have := zsend h ok0 (by omega) 1 2 ⟨#[97]⟩
    rw [k0_facts.1, k0_facts.2] at this
    exact this)
  have ok1 : NvOk k1 3 := ok0.sendZ 1 2 _
  have HF1 := hidIn (fun w1 np (h : NetZ w1 (fun j => j < w.heap.size) np k1) => by
    have := zflying h
    rw [k1_facts.1] at this
    exact this)
  have HT1 := hidIn (fun w1 np (h : NetZ w1 (fun j => j < w.heap.size) np k1) => by
    have := ztick h ok1 (by omega)
    rw [k1_facts.2] at this
    exact this)
  have ok2 : NvOk k2 4 := ok1.tick
  have HT2 := hidIn (fun w1 np (h : NetZ w1 (fun j => j < w.heap.size) np k2) => by
    have := ztick h ok2 (by omega)
    rw [k2_facts.1] at this
    exact this)
  have HF3 := hidIn (fun w1 np (h : NetZ w1 (fun j => j < w.heap.size) np k3) => by
    have := zflying h
    rw [k2_facts.2.1] at this
    exact this)
  have HN3 := hidIn (fun w1 np (h : NetZ w1 (fun j => j < w.heap.size) np k3) => by
    have := znow h
    rw [k2_facts.2.2] at this
    exact this)
  have hq := fun a0 a1 a2 b0 b1 b2 w => eq_Ft a0 a1 a2 b0 b1 b2 w
  go_enter Try.func7, Try.ntmps7
  go_wp2_with fail
  refine H3.out.mono ?_
  rintro e w1 ⟨⟨np, rfl, hZ⟩, hb1⟩
  have HZ1 := hidIn (hZ (fun j => j < w.heap.size) (fun j hj => hj))
  have HB1 := hidIn hb1
  have HS1 := hidIn (HS.out w1 np HZ1.out)
  clear hZ hb1 H3 HS
  go_wp2_with fail
  refine HS1.out.mono ?_
  rintro e w2 ⟨rfl, hz2, hf2⟩
  have HZ2 : Hid (NetZ w2 (fun j => j < w.heap.size) np k1) := hidIn hz2
  have HB2 := hidIn (HB1.out.trans (fr_low hf2 HB1.out.size))
  clear hz2 hf2 HS1 HZ1 HB1
  obtain ⟨W3, hW3⟩ : ∃ W3, w2.alloc (.cells #[.int .i64 1, .int .i64 0, .int .i64 0] 33) = W3 := ⟨_, rfl⟩
  have b3 : Below w2.heap.size w2 W3 := by rw [← hW3]; exact (Below.refl _ w2).alloc (Nat.le_refl _) _
  have hX : W3.heap[w2.heap.size]? = some (.cells #[.int .i64 1, .int .i64 0, .int .i64 0] 33) := by rw [← hW3]; exact heap_alloc_last w2 _
  have x0 := cell_of_row _ _ 0 _ _ _ hX
  have x1 := cell_of_row _ _ 1 _ _ _ hX
  have x2 := cell_of_row _ _ 2 _ _ _ hX
  simp at x0 x1 x2
  have HZ3 := hidIn (HZ2.out.below b3)
  have HB3 := hidIn (HB2.out.trans (b3.mono HB2.out.size))
  have HFl := hidIn (HF1.out W3 np HZ3.out)
  have HTk := hidIn (HT1.out W3 np HZ3.out)
  have HW3 := hidIn hW3
  clear b3 hX hW3 HZ2 HB2 HF1 HT1
  go_upto_region 5 with fail
  rw [HW3.out]
  go_wp2_with (go_at_call 17; refine HFl.out.mono ?_; rintro e w9 ⟨rfl, hw9⟩; rw [hw9]; clear hw9 w9)
  refine HTk.out.mono ?_
  rintro e w4 ⟨⟨v, rfl, hrow, hz4⟩, hf4⟩
  have HZ4 : Hid (NetZ w4 (fun j => j < w.heap.size) np k2) := hidIn (hz4.less (fun j hj => .inl hj))
  have HB4 := hidIn (HB3.out.trans (fr_low hf4 HB3.out.size))
  have HTk2 := hidIn (HT2.out w4 np HZ4.out)
  obtain ⟨va, vc, rfl⟩ := row_shape hrow
  clear hrow hz4 hf4 HTk HT2 x0 x1 x2
  go_wp2_with fail
  refine HTk2.out.mono ?_
  rintro e w5 ⟨⟨v, rfl, hrow, hz5⟩, hf5⟩
  have HZ5 : Hid (NetZ w5 (fun j => j < w.heap.size) np k3) := hidIn (hz5.less (fun j hj => .inl hj))
  have HB5 := hidIn (HB4.out.trans (fr_low hf5 HB4.out.size))
  have HO := hidIn (one_any (slAt_of_row (cs := arC) (fun _ => rfl) hrow rfl) 1 2 ⟨#[97]⟩)
  have HE : Hid (oneB [(1, 2, ⟨#[97]⟩)] 1 2 ⟨#[97]⟩ = true) := hidIn (by simp [oneB])
  rw [HE.out] at HO
  have HFl3 := hidIn (HF3.out w5 np HZ5.out)
  have HNw3 := hidIn (HN3.out w5 np HZ5.out)
  obtain ⟨va, vc, rfl⟩ := row_shape hrow
  clear hrow hz5 hf5 HTk2 HF3 HN3
  go_wp2_with (first
    | (go_at_call 22; refine HO.out.mono ?_; rintro e w9 ⟨rfl, hw9⟩; rw [hw9]; clear hw9 w9)
    | (go_at_call 17; refine HFl3.out.mono ?_; rintro e w9 ⟨rfl, hw9⟩; rw [hw9]; clear hw9 w9)
    | (go_at_call 18; refine HNw3.out.mono ?_; rintro e w9 ⟨rfl, hw9⟩; rw [hw9]; clear hw9 w9))
  go_returns
  exact ⟨rfl, HB5.out⟩
end Go.Proofs.Ytkhfpcnmnnboeaa.Nt
namespace Go.Proofs.Ytkhfpcnmnnboeaa.Nt
open Go.RowKit Go.Proofs.Ytkhfpcnmnnboeaa.Fa

/-- The law's links, by the bits of its set. -/
def prs (j : Nat) : Ed := match j with
  | 0 => (2, 1, 3)
  | 1 => (3, 1, 4)
  | 2 => (3, 2, 5)
  | 3 => (4, 1, 5)
  | 4 => (4, 2, 6)
  | _ => (4, 3, 7)
def lsT (s b : Nat) : List Ed := ((List.range b).filter fun j => s.testBit j).map prs
theorem lsT_yes {s b : Nat} (h : s.testBit b = true) : lsT s (b + 1) = lsT s b ++ [prs b] := by simp [lsT, List.range_succ, List.filter_append, h]
theorem lsT_no {s b : Nat} (h : s.testBit b = false) : lsT s (b + 1) = lsT s b := by simp [lsT, List.range_succ, List.filter_append, h]
theorem lsT_len (s b : Nat) : (lsT s b).length ≤ b := by
  unfold lsT
  rw [List.length_map]
  exact Nat.le_trans (List.length_filter_le _ _) (by simp)
theorem lsT_mod (s : Nat) : lsT s 6 = lsT (s % 64) 6 := by
  unfold lsT
  congr 1
  apply List.filter_congr
  intro j hj
  rw [List.mem_range] at hj
  rw [show (64 : Nat) = 2 ^ 6 from rfl, Nat.testBit_mod_two_pow, decide_eq_true hj, Bool.true_and]
/-- What Of answers there. -/
def okM (s : Nat) : Bool := (ofC [1, 2, 3, 4] (lsT s 6) == 0) && ((ofN [1, 2, 3, 4] (lsT s 6) == [1, 2, 3, 4]) && (((ofE [1, 2, 3, 4] (lsT s 6)).length == 2 * (lsT s 6).length) && ((ofE [1, 2, 3, 4] (lsT s 6)).all fun e => (ofE [1, 2, 3, 4] (lsT s 6)).any fun f => decide (f.1 = e.2.1) && decide (f.2.1 = e.1))))
theorem okM_all : ((List.range 64).all okM) = true := by kernel_rfl
theorem okM_any (s : Nat) : ofC [1, 2, 3, 4] (lsT s 6) = 0 ∧ ofN [1, 2, 3, 4] (lsT s 6) = [1, 2, 3, 4] ∧ (ofE [1, 2, 3, 4] (lsT s 6)).length = 2 * (lsT s 6).length ∧ ∀ a b, lkQ (newN [1, 2, 3, 4] (lsT s 6) [] 1) a b = true → lkQ (newN [1, 2, 3, 4] (lsT s 6) [] 1) b a = true := by
  have h := List.all_eq_true.1 okM_all (s % 64) (List.mem_range.2 (Nat.mod_lt _ (by omega)))
  unfold okM at h
  rw [← lsT_mod] at h
  simp only [Bool.and_eq_true, beq_iff_eq] at h
  obtain ⟨h1, h2, h3, h4⟩ := h
  refine ⟨h1, h2, h3, fun a b hab => ?_⟩
  rw [List.all_eq_true] at h4
  unfold lkQ at hab ⊢
  rw [List.any_eq_true] at hab
  obtain ⟨e, he, h5⟩ := hab
  simp at h5
  obtain ⟨rfl, rfl⟩ := h5
  exact h4 e he
end Go.Proofs.Ytkhfpcnmnnboeaa.Nt
namespace Go.Proofs.Ytkhfpcnmnnboeaa.Nt
open Go.RowKit Go.Proofs.Ytkhfpcnmnnboeaa.Fa

/-- Nothing is down. -/
def Clr (M : Nv) : Prop := (∀ k, M.C k = false) ∧ ∀ i, M.st i = false
theorem Clr.up {M : Nv} (h : Clr M) (a b : Int) : upQ M a b = true := by
  unfold upQ cutQ
  rw [h.1, h.2, h.2]
  rfl
theorem Clr.edges {M : Nv} (h : Clr M) : eUp M = M.E := by
  unfold eUp
  exact List.filter_eq_self.2 fun e _ => h.up e.1 e.2.1
theorem Clr.run {M : Nv} (h : Clr M) : runL M = M.V := by
  unfold runL
  exact List.filter_eq_self.2 fun e _ => by rw [h.2]; rfl
theorem cutE_clr {M : Nv} (h : Clr M) (x y : Int) : cutE M x y = if lkQ M x y = true then 0 else 2 := by
  unfold cutE cutQ
  rw [h.1]
  rfl
theorem stopE_up {M : Nv} {x : Int} (hx : hasN M.V x = true) (h : M.st x.toNat = false) : stopE M x = 0 := by
  unfold stopE
  rw [hx, h]
  rfl
theorem startE_dn {M : Nv} {x : Int} (hx : hasN M.V x = true) (h : M.st x.toNat = true) : startE M x = 0 := by
  unfold startE
  rw [hx, h]
  rfl
theorem near_none {M : Nv} {x : Int} (hx : hasN M.V x = true) (h : M.st x.toNat = true) : nearZ M x = [] := by
  unfold nearZ
  rw [if_pos hx]
  unfold nearL
  rw [show (eUp M).filter (fun e => decide (e.1 = x)) = [] from by
    rw [List.filter_eq_nil_iff]
    intro e he
    have h1 := (List.mem_filter.1 he).2
    unfold upQ at h1
    intro h2
    have h3 : e.1 = x := by simpa using h2
    rw [h3, h] at h1
    simp at h1]
  rfl
/-- The law's net, step by step. -/
structure MdOk (N0 : Nv) (x y : Int) (N1 N2 N3 N4 : Nv) : Prop where
  u0 : (lkQ N0 x y && upQ N0 x y) = lkQ N0 x y
  c : cutE N0 x y = if lkQ N0 x y = true then 0 else 2
  n1 : cutZ N0 x y = N1
  u1 : (lkQ N1 x y && upQ N1 x y) = false
  s : stopE N1 x = 0
  n2 : stopZ N1 x = N2
  r : noRt N2 x = 0
  nr : nearZ N2 x = []
  st : startE N2 x = 0
  n3 : startZ N2 x = N3
  m : lkQ N0 x y = true → mendE N3 y x = 0
  n4 : lkQ N0 x y = true → mendZ N3 y x = N4
  n4' : lkQ N0 x y = false → N3 = N4
  e4 : eUp N4 = N0.E
  v4 : runL N4 = N0.V
  u4 : (lkQ N4 x y && upQ N4 x y) = lkQ N0 x y
theorem md_ok {N0 : Nv} (h : Clr N0) {x y : Int} (hx : hasN N0.V x = true) (hs : lkQ N0 x y = true → lkQ N0 y x = true) : ∃ N1 N2 N3 N4, MdOk N0 x y N1 N2 N3 N4 := by
  have hst : ∀ st : Nat → Bool, (∀ i, st i = false) → ∀ i, setS (setS st x.toNat true) x.toNat false i = false := fun st h0 i => by
    unfold setS
    by_cases hi : i = x.toNat
    · rw [if_pos hi]
    · rw [if_neg hi, if_neg hi]; exact h0 i
  have hsx : ∀ st : Nat → Bool, setS st x.toNat true x.toNat = true := fun st => by unfold setS; rw [if_pos rfl]
  cases hq : lkQ N0 x y
  · have e1 : cutE N0 x y = 2 := by rw [cutE_clr h, hq]; rfl
    have n1 : cutZ N0 x y = N0 := by unfold cutZ; rw [e1, if_neg (by omega)]
    have e2 : stopE N0 x = 0 := stopE_up hx (h.2 _)
    have n2 : stopZ N0 x = leftN (stopN N0 x true) := by unfold stopZ; rw [e2, if_pos rfl]
    have e3 : startE (leftN (stopN N0 x true)) x = 0 := startE_dn hx (hsx _)
    have n3 : startZ (leftN (stopN N0 x true)) x = stopN (leftN (stopN N0 x true)) x false := by unfold startZ; rw [e3, if_pos rfl]
    have hc : Clr (stopN (leftN (stopN N0 x true)) x false) := ⟨h.1, hst _ h.2⟩
    exact ⟨N0, _, _, _, by rw [hq]; rfl, by rw [e1, hq]; rfl, n1, by rw [hq]; rfl, e2, n2, noRt_zero hx, near_none hx (hsx _), e3, n3, fun h1 => (by rw [hq] at h1; cases h1), fun h1 => (by rw [hq] at h1; cases h1), fun _ => rfl, hc.edges, hc.run, by
      rw [show lkQ (stopN (leftN (stopN N0 x true)) x false) x y = lkQ N0 x y from rfl, hq]; rfl⟩
  · have e1 : cutE N0 x y = 0 := by rw [cutE_clr h, hq]; rfl
    have n1 : cutZ N0 x y = leftN (cutN N0 x y true) := by unfold cutZ; rw [e1, if_pos rfl]
    have u1 : upQ (leftN (cutN N0 x y true)) x y = false := by
      show (!setC N0.C (nm x y) true (nm x y) && _) = false
      rw [setC_same]
      rfl
    have e2 : stopE (leftN (cutN N0 x y true)) x = 0 := stopE_up hx (h.2 _)
    obtain ⟨N1, hN1⟩ : ∃ N1, leftN (cutN N0 x y true) = N1 := ⟨_, rfl⟩
    have hE1 : N1.E = N0.E := by rw [← hN1]; rfl
    have hV1 : N1.V = N0.V := by rw [← hN1]; rfl
    have hS1 : N1.st = N0.st := by rw [← hN1]; rfl
    have hC1 : N1.C = setC N0.C (nm x y) true := by rw [← hN1]; rfl
    rw [hN1] at n1 u1 e2
    have n2 : stopZ N1 x = leftN (stopN N1 x true) := by unfold stopZ; rw [e2, if_pos rfl]
    have hx1 : hasN N1.V x = true := by rw [hV1]; exact hx
    have e3 : startE (leftN (stopN N1 x true)) x = 0 := startE_dn hx1 (hsx _)
    have n3 : startZ (leftN (stopN N1 x true)) x = stopN (leftN (stopN N1 x true)) x false := by unfold startZ; rw [e3, if_pos rfl]
    obtain ⟨N3, hN3⟩ : ∃ N3, stopN (leftN (stopN N1 x true)) x false = N3 := ⟨_, rfl⟩
    have hE3 : N3.E = N0.E := by rw [← hN3, ← hE1]; rfl
    have hV3 : N3.V = N0.V := by rw [← hN3, ← hV1]; rfl
    have hC3 : N3.C = setC N0.C (nm x y) true := by rw [← hN3, ← hC1]; rfl
    have hS3 : ∀ i, N3.st i = false := by rw [← hN3]; exact hst _ (by rw [hS1]; exact h.2)
    rw [hN3] at n3
    have lk3 : ∀ a b, lkQ N3 a b = lkQ N0 a b := fun a b => by unfold lkQ; rw [hE3]
    have e4 : mendE N3 y x = 0 := by
      unfold mendE cutQ
      rw [lk3, hs hq, hC3, nm_swap y x, setC_same]
      rfl
    have n4 : mendZ N3 y x = cutN N3 y x false := by unfold mendZ; rw [e4, if_pos rfl]
    have hc : Clr (cutN N3 y x false) := by
      refine ⟨fun k => ?_, hS3⟩
      show setC N3.C (nm y x) false k = false
      rw [hC3, nm_swap y x]
      by_cases hk : k = nm x y
      · rw [hk, setC_same]
      · rw [setC_other _ _ hk, setC_other _ _ hk]; exact h.1 k
    refine ⟨N1, _, _, _, by rw [h.up, hq]; rfl, by rw [e1, hq]; rfl, n1, by rw [u1]; simp, e2, n2, noRt_zero hx1, near_none hx1 (hsx _), e3, n3, fun _ => e4, fun _ => n4, fun h1 => (by rw [hq] at h1; cases h1), ?_, ?_, ?_⟩
    · rw [hc.edges]; exact hE3
    · rw [hc.run]; exact hV3
    · rw [hc.up, show lkQ (cutN N3 y x false) x y = lkQ N3 x y from rfl, lk3, hq]; rfl
end Go.Proofs.Ytkhfpcnmnnboeaa.Nt
namespace Go.Proofs.Ytkhfpcnmnnboeaa.Nt
open Go.RowKit Go.Proofs.Ytkhfpcnmnnboeaa.Fa

theorem bit_test8 (t k : Nat) (ht : t < 256) : (bits .and .u8 ((t : Int) / 2 ^ k) 1 == 1) = t.testBit k := by
  have hd : t / 2 ^ k < 256 := Nat.lt_of_le_of_lt (Nat.div_le_self _ _) ht
  have e : ((t : Int) / 2 ^ k) = ((t / 2 ^ k : Nat) : Int) := by simp
  have := u8_and_nat (t / 2 ^ k) 1 hd (by decide)
  rw [show ((1 : Nat) : Int) = 1 from rfl] at this
  rw [e, this, Nat.and_one_is_mod, Nat.testBit_eq_decide_div_mod_eq, Bool.eq_iff_iff]
  simp only [beq_iff_eq, decide_eq_true_eq]
  omega
def tri (i : Nat) : Nat := match i with
  | 2 => 0
  | 3 => 1
  | 4 => 3
  | 5 => 6
  | _ => 0
theorem tri_next {i : Nat} (h1 : 1 ≤ i) (h4 : i ≤ 4) : tri i + (i - 1) = tri (i + 1) := by
  rcases (show i = 1 ∨ i = 2 ∨ i = 3 ∨ i = 4 from by omega) with rfl | rfl | rfl | rfl <;> rfl
theorem prs_tri {i k : Nat} (hk : 1 ≤ k) (hi : k < i) (h4 : i ≤ 4) : prs (tri i + (k - 1)) = ((i : Int), (k : Int), (i : Int) + (k : Int)) ∧ tri i + (k - 1) < 6 := by
  rcases (show (i = 2 ∧ k = 1) ∨ (i = 3 ∧ k = 1) ∨ (i = 3 ∧ k = 2) ∨ (i = 4 ∧ k = 1) ∨ (i = 4 ∧ k = 2) ∨ (i = 4 ∧ k = 3) from by omega) with ⟨rfl, rfl⟩ | ⟨rfl, rfl⟩ | ⟨rfl, rfl⟩ | ⟨rfl, rfl⟩ | ⟨rfl, rfl⟩ | ⟨rfl, rfl⟩ <;> exact ⟨rfl, by decide⟩
theorem infoLink : (Try.prog.info? 52).map (fun i => (i.zero, i.size, i.bytes)) = some (some (.agg #[.int .i64 0, .int .i64 0, .int .i64 0]), 3, 24) := by kernel_rfl
theorem append_link {W : World} {base k : Nat} {u : Value} {l : List Ed} (hr : W.ownsRow base 52 3 u k (fl ec l)) (x : Ed) (hk : (k + 1) * 24 ≤ 140737488355328) (hbase : base ≤ W.heap.size) :
    ∃ g cap w6, (Builtin.append_ #[50, 50] 50 #[u, .slice (some ⟨W.heap.size, 0, none⟩) 1 1]).run Try.prog (W.alloc (.cells (ec x).toArray 52)) = .ok (.slice (some ⟨g, 0, none⟩) (k + 1) cap) w6 ∧
      w6.ownsRow base 52 3 (.slice (some ⟨g, 0, none⟩) (k + 1) cap) (k + 1) (fl ec (l ++ [x])) ∧ (u.ownBlock = some g ∨ g = W.heap.size + 1) ∧ W.grownBy w6 u.ownBlock ∧ Below base W w6 :=
  append_one (P := Try.prog) (cs := ec) (T := 50) (fun _ => rfl) (fun _ => by simp [Value.oneCell']) Try.underlying50 infoLink rfl (by decide) hr x hk (by unfold maxLen; omega) hbase
/-- What the law's comparison reads. -/
structure CmR (gb hb : Nat) (ea eb : Value) (k1 k2 p1 p2 : Nat) (x0 x1 x2 : Int) (wq : World) : Prop where
  a : wq.cell? ⟨gb, 1, none⟩ = some ea
  b : wq.cell? ⟨hb, 1, none⟩ = some eb
  c0 : wq.cell? ⟨k1, p1, none⟩ = some (.int .i64 x0)
  c1 : wq.cell? ⟨k1, p1 + 1, none⟩ = some (.int .i64 x1)
  c2 : wq.cell? ⟨k1, p1 + 2, none⟩ = some (.int .i64 x2)
  d0 : wq.cell? ⟨k2, p2, none⟩ = some (.int .i64 x0)
  d1 : wq.cell? ⟨k2, p2 + 1, none⟩ = some (.int .i64 x1)
  d2 : wq.cell? ⟨k2, p2 + 2, none⟩ = some (.int .i64 x2)
set_option maxRecDepth 100000 in
set_option maxHeartbeats 8000000 in
theorem netMends_any (s a b : Nat) (hs : s < 256) (ha : a < 256) (hb : b < 256) (w : World) :
    Calls Try.prog 5 #[.int .u8 s, .int .u8 a, .int .u8 b] w fun e w' => e = .returned (.bool true) ∧ Below w.heap.size w w' := by
  have HW := hidIn (nworks_any w)
  go_enter Try.func5, Try.ntmps5
  go_wp2_with fail
  refine HW.out.mono ?_
  rintro e w1 ⟨rfl, hb1⟩
  have HB1 := hidIn hb1
  clear hb1 HW
  go_wp2_with fail
  go_loopw [7, 8, 9] (fun lv bv iv wr => ∃ (i : Nat), 1 ≤ i ∧ i ≤ 5 ∧ iv = .int .i64 i ∧ bv = .int .i64 (tri i) ∧ (∃ ad c, lv = .slice ad (lsT s (tri i)).length c) ∧ Hid (wr.ownsRow w.heap.size 52 3 lv (lsT s (tri i)).length (fl ec (lsT s (tri i))) ∧ Below w.heap.size w wr)) (fun _ _ iv _ => 5 - (intOf iv).toNat)
  case atStart => exact ⟨1, by omega, by omega, rfl, rfl, ⟨none, 0, rfl⟩, hidIn ⟨World.ownsRow_nil _ _ _ _, HB1.out⟩⟩
  case round =>
    obtain ⟨i, hi1, hi5, rfl, rfl, ⟨la, lc, rfl⟩, HR⟩ := hrel
    by_cases hi4 : i ≤ 4
    · have hii : (i : Int) ≤ 4 := by omega
      obtain ⟨r1, r2⟩ := HR.out
      have R1 := hidIn r1
      have R2 := hidIn r2
      clear r1 r2 HR
      go_wp2_with fail
      go_loopw [7, 8, 10] (fun lv bv kv wr => ∃ (k : Nat), 1 ≤ k ∧ k ≤ i ∧ kv = .int .i64 k ∧ bv = .int .i64 ((tri i + (k - 1) : Nat) : Int) ∧ (∃ ad c, lv = .slice ad (lsT s (tri i + (k - 1))).length c) ∧ Hid (wr.ownsRow w.heap.size 52 3 lv (lsT s (tri i + (k - 1))).length (fl ec (lsT s (tri i + (k - 1)))) ∧ Below w.heap.size w wr)) (fun _ _ kv _ => i - (intOf kv).toNat)
      case atStart => exact ⟨1, by omega, by omega, rfl, rfl, ⟨la, lc, rfl⟩, hidIn ⟨R1.out, R2.out⟩⟩
      case round =>
        obtain ⟨k, hk1, hki, rfl, rfl, ⟨ka, kc, rfl⟩, HK⟩ := hrel
        obtain ⟨r1, r2⟩ := HK.out
        clear HK
        by_cases hlt : k < i
        · have hkii : (k : Int) < (i : Int) := by omega
          obtain ⟨hp, hb6⟩ := prs_tri hk1 hlt hi4
          obtain ⟨b, hbb⟩ : ∃ b, tri i + (k - 1) = b := ⟨_, rfl⟩
          have hbn : tri i + (k + 1 - 1) = b + 1 := by omega
          rw [hbb] at hp hb6 r1 ⊢
          have Hbn := hidIn hbn
          have R3 := hidIn r1
          have R4 := hidIn r2
          have hlen := lsT_len s b
          clear hbb hbn r1 r2
          have hbt := bit_test8 s b hs
          have hw : ∀ z : Int, 0 ≤ z ∧ z ≤ 1000 → IntKind.i64.wrap z = z := fun z h => wrap_i (by omega)
          cases htb : s.testBit b
          · rw [htb] at hbt
            have Hn := hidIn (lsT_no htb)
            clear htb hp
            go_wp2_with fail
            go_roundw
            case rel => exact ⟨k + 1, by omega, by omega, by go_num, by rw [Hbn.out]; go_num, ⟨_, _, by rw [Hbn.out, Hn.out]⟩, hidIn ⟨by rw [Hbn.out, Hn.out]; exact R3.out, R4.out⟩⟩
            case measure => simp [intOf]; omega
          · rw [htb] at hbt
            have hy := lsT_yes htb
            rw [hp] at hy
            obtain ⟨g6, cap6, w6, hrun, hown, hlie, hgr, hb9⟩ := append_link R3.out ((i : Int), (k : Int), (i : Int) + (k : Int)) (by omega) R4.out.size
            rw [← hy] at hown
            have Hl2 : Hid ((lsT s (b + 1)).length = (lsT s b).length + 1) := hidIn (by rw [hy, List.length_append]; rfl)
            have HRun := hidIn hrun
            have HO := hidIn hown
            have HB6 := hidIn (R4.out.trans (hb9.mono (Nat.le_refl _)))
            have hik : (i : Int) + (k : Int) ≤ 100 := by omega
            clear hrun hown hlie hgr hb9 hy htb hp
            go_wp2_with (refine l_append rfl _ _ 50 rfl HRun.out ?_)
            go_roundw
            case rel => exact ⟨k + 1, by omega, by omega, by go_num, by rw [Hbn.out]; go_num, ⟨_, _, by rw [Hbn.out, Hl2.out]⟩, hidIn ⟨by rw [Hbn.out, Hl2.out]; exact HO.out, HB6.out⟩⟩
            case measure => simp [intOf]; omega
        · have hke : k = i := by omega
          have hkii : ¬ (k : Int) < (i : Int) := by omega
          have ht := tri_next hi1 hi4
          rw [hke] at r1 ⊢
          rw [ht] at r1 ⊢
          have R3 := hidIn r1
          have R4 := hidIn r2
          clear r1 r2 ht
          go_wp2_with fail
          go_roundw
          case rel => exact ⟨i + 1, by omega, by omega, by go_num, rfl, ⟨_, _, rfl⟩, hidIn ⟨R3.out, R4.out⟩⟩
          case measure => simp [intOf]; omega
    · have hie : i = 5 := by omega
      subst hie
      obtain ⟨r1, r2⟩ := HR.out
      have R1 := hidIn r1
      have R2 := hidIn r2
      clear r1 r2 HR
      rw [show tri 5 = 6 from rfl] at R1 ⊢
      obtain ⟨f1, f2, f3, f4⟩ := okM_any s
      obtain ⟨Ls, hLs⟩ : ∃ l, lsT s 6 = l := ⟨_, rfl⟩
      have hLl : Ls.length ≤ 6 := by rw [← hLs]; exact lsT_len s 6
      rw [hLs] at R1 f1 f2 f3 f4 ⊢
      obtain ⟨W1, hW1⟩ : ∃ W1, wr.alloc (.cells #[.int .i64 1, .int .i64 2, .int .i64 3, .int .i64 4] 3) = W1 := ⟨_, rfl⟩
      have b1 : Below wr.heap.size wr W1 := by rw [← hW1]; exact (Below.refl _ wr).alloc (Nat.le_refl _) _
      have hA : W1.heap[wr.heap.size]? = some (.cells #[.int .i64 1, .int .i64 2, .int .i64 3, .int .i64 4] 3) := by rw [← hW1]; exact heap_alloc_last wr _
      have s1 := slAt_block (cs := ic) (sz := 1) (l := [1, 2, 3, 4]) (cap := 4) (fun _ => rfl) hA (by decide) (by omega)
      have s2 := slAt_of_row (cs := ec) (fun _ => rfl) (row_below R1.out b1 (Nat.le_refl _)) rfl
      have s3 : SlAt ruC 5 W1 (.slice none 0 0) [] := ⟨none, 0, rfl, by simp, Nat.le_refl _, fun h => absurd h (by simp)⟩
      have HN := hidIn (new_ok (lt := 1) s1 s2 s3 f1 (by omega) (by decide))
      obtain ⟨N0, hN0⟩ : ∃ N, newN [1, 2, 3, 4] Ls [] 1 = N := ⟨_, rfl⟩
      have hclr : Clr N0 := by rw [← hN0]; exact ⟨fun _ => rfl, fun _ => rfl⟩
      have hnv : NvOk N0 0 := by rw [← hN0]; exact new_nvOk f1 (by omega) ⟨by simp, by simp, by simp⟩
      have hV0 : N0.V = [1, 2, 3, 4] := by rw [← hN0]; exact f2
      have hE0 : N0.E.length = 2 * Ls.length := by rw [← hN0]; exact f3
      rw [hN0] at HN f4
      obtain ⟨m, hm⟩ : ∃ m, Ls.length = m := ⟨_, rfl⟩
      rw [hm] at hE0 hLl s2 HN ⊢
      have Hn := hidIn hE0
      have hn := hE0
      have HV0 := hidIn hV0
      have HB2 := hidIn (R2.out.trans (b1.mono R2.out.size))
      have HW1 := hidIn hW1
      clear hW1 b1 hA s1 s2 s3 f1 f2 f3 hN0 hLs hE0 hn hm R1
      go_wp2_with fail
      rw [HW1.out]
      clear HW1
      refine HN.out.mono ?_
      rintro e w2 ⟨⟨np, rfl, hZ⟩, hb2⟩
      have HZ2 := hidIn (hZ (fun j => j < W1.heap.size) (fun j hj => hj))
      have HB3 := hidIn (HB2.out.trans (hb2.mono HB2.out.size))
      have hs12 := hb2.size
      have HG := hidIn (zgraph HZ2.out hnv)
      rw [hclr.run, hclr.edges, hV0, Hn.out] at HG
      clear hZ hb2 HN
      go_wp2_with fail
      refine HG.out.mono ?_
      rintro e w3 ⟨⟨v, u, rfl, hrv, hru⟩, hz3, hb3⟩
      obtain ⟨va, vc, rfl⟩ := row_shape hrv
      obtain ⟨ua, uc, rfl⟩ := row_shape hru
      obtain ⟨W4, hW4⟩ : ∃ W4, w3.alloc (.cells #[.slice va 4 vc, .slice ua (2 * m) uc] 57) = W4 := ⟨_, rfl⟩
      have b4 : Below w3.heap.size w3 W4 := by rw [← hW4]; exact (Below.refl _ w3).alloc (Nat.le_refl _) _
      have hG4 : W4.heap[w3.heap.size]? = some (.cells #[.slice va 4 vc, .slice ua (2 * m) uc] 57) := by rw [← hW4]; exact heap_alloc_last w3 _
      have hb34 := hb3.trans (b4.mono hb3.size)
      have HZ4 : Hid (NetZ W4 (fun j => j < W1.heap.size ∨ (w2.heap.size ≤ j ∧ j < W4.heap.size)) np N0) := hidIn (HZ2.out.more hb34 (fun j hj => hj))
      have HU4 := hidIn (row_below hru b4 (Nat.le_refl _))
      have HG4 := hidIn hG4
      have HB4 := hidIn (HB3.out.trans (hb34.mono HB3.out.size))
      have hs23 := hb3.size
      have HW4 := hidIn hW4
      clear hrv hru hz3 hb3 b4 hG4 hb34 hW4 HG HZ2
      go_upto_region 18 with fail
      rw [HW4.out]
      clear HW4
      obtain ⟨x, hx⟩ : ∃ x, 1 + a % 4 = x := ⟨_, rfl⟩
      obtain ⟨y, hy⟩ : ∃ y, 1 + b % 4 = y := ⟨_, rfl⟩
      have hx4 : 1 ≤ x ∧ x ≤ 4 := by omega
      have hxi : (1 : Int) + (a : Int) % 4 = (x : Int) := by omega
      have hyi : (1 : Int) + (b : Int) % 4 = (y : Int) := by omega
      have hxV : hasN N0.V (x : Int) = true := by
        rw [hV0, hasN_iff]
        rcases (show x = 1 ∨ x = 2 ∨ x = 3 ∨ x = 4 from by omega) with rfl | rfl | rfl | rfl <;> simp
      obtain ⟨N1, N2, N3, N4, hM⟩ := md_ok hclr (x := (x : Int)) (y := (y : Int)) hxV (f4 x y)
      have HM := hidIn hM
      have hk1 : NvOk N1 1 := by rw [← hM.n1]; exact hnv.cutZ _ _
      have hk2 : NvOk N2 1 := by rw [← hM.n2]; exact hk1.stopZ _
      have hk3 : NvOk N3 1 := by rw [← hM.n3]; exact hk2.startZ _
      obtain ⟨Z, hZe⟩ : ∃ Z : Nat → Prop, (fun j => j < W1.heap.size ∨ (w2.heap.size ≤ j ∧ j < W4.heap.size)) = Z := ⟨_, rfl⟩
      rw [hZe] at HZ4
      have HZe := hidIn hZe
      have hZw : Hid (∀ j, j < w.heap.size → Z j) := hidIn (fun j hj => by rw [← hZe]; have := HB2.out.size; exact Or.inl (by omega))
      obtain ⟨gb, hgb⟩ : ∃ gb, w3.heap.size = gb := ⟨_, rfl⟩
      rw [hgb] at HG4 hs23
      have hZg : Hid (Z gb) := hidIn (by rw [← hZe]; exact Or.inr ⟨hs23, block_lt HG4.out⟩)
      have hZu : Hid (∀ j, (Value.slice ua (2 * m) uc).ownBlock = some j → Z j) := hidIn (fun j hj => by rw [← hZe]; have := HU4.out.lt j hj; exact Or.inr this)
      obtain ⟨q, hq⟩ : ∃ q, lkQ N0 (x : Int) (y : Int) = q := ⟨_, rfl⟩
      have HU1 := zup HZ4.out hnv (x : Int) (y : Int)
      rw [hM.u0, hq] at HU1
      have HU1 := hidIn HU1
      have Hgb := hidIn hgb
      clear hx hy hclr hV0 f4 hM hZe hgb
      go_upto_region 19 with fail
      rw [Hgb.out]
      go_wp2_with fail
      refine HU1.out.mono ?_
      rintro e w5 ⟨rfl, hz5, hb5⟩
      have HB5 := hidIn (HB4.out.trans (hb5.mono HB4.out.size))
      have HG5 := hidIn ((hb5.block gb (block_lt HG4.out)).trans HG4.out)
      have HU5 := hidIn (row_below HU4.out hb5 (Nat.le_refl _))
      obtain ⟨c, hc⟩ : ∃ c : Int, (if q = true then 0 else 2) = c := ⟨_, rfl⟩
      have HCt := hidIn (by
        have := zcut hz5 hnv (by omega) (x : Int) (y : Int)
        rw [HM.out.c, HM.out.n1, hq, hc] at this
        exact this)
      have Hc := hidIn hc
      clear hc
      clear hz5 hb5 HU1 HB4 HU4 HG4 HZ4
      go_wp2_with fail
      refine HCt.out.mono ?_
      rintro e w6 ⟨⟨v6, rfl, hr6, hz6⟩, hf6⟩
      have HB6 := hidIn (HB5.out.trans (hf6.below HB5.out.size (fun k hk => Nat.le_of_not_lt (fun h => hk (hZw.out k h)))))
      have HG6 := hidIn ((hf6.block gb (block_lt HG5.out) (fun h => h hZg.out)).trans HG5.out)
      have HU6 := hidIn (row_fr HU5.out hf6 (fun j hj h => h (hZu.out j hj)))
      have hz6' := hz6.less (Y := Z) (fun j hj => .inl hj)
      obtain ⟨va6, vc6, rfl⟩ := row_shape hr6
      have HUp2 := hidIn (by
        have := zup hz6' hk1 (x : Int) (y : Int)
        rw [HM.out.u1] at this
        exact this)
      clear hr6 hz6 hz6' hf6 HCt HB5 HG5 HU5
      go_wp2_with fail
      refine HUp2.out.mono ?_
      rintro e w7 ⟨rfl, hz7, hb7⟩
      have HB7 := hidIn (HB6.out.trans (hb7.mono HB6.out.size))
      have HG7 := hidIn ((hb7.block gb (block_lt HG6.out)).trans HG6.out)
      have HU7 := hidIn (row_below HU6.out hb7 (Nat.le_refl _))
      have HSt := hidIn (by
        have := zstop hz7 hk1 (by omega) (x : Int)
        rw [HM.out.s, HM.out.n2] at this
        exact this)
      clear hz7 hb7 HUp2 HB6 HG6 HU6
      go_wp2_with fail
      refine HSt.out.mono ?_
      rintro e w8 ⟨⟨v8, rfl, hr8, hz8⟩, hf8⟩
      have HB8 := hidIn (HB7.out.trans (hf8.below HB7.out.size (fun k hk => Nat.le_of_not_lt (fun h => hk (hZw.out k h)))))
      have HG8 := hidIn ((hf8.block gb (block_lt HG7.out) (fun h => h hZg.out)).trans HG7.out)
      have HU8 := hidIn (row_fr HU7.out hf8 (fun j hj h => h (hZu.out j hj)))
      have hz8' := hz8.less (Y := Z) (fun j hj => .inl hj)
      obtain ⟨va8, vc8, rfl⟩ := row_shape hr8
      have HNr := hidIn (by
        have := znear hz8' hk2 (x : Int)
        rw [HM.out.r, HM.out.nr] at this
        exact this)
      clear hr8 hz8 hz8' hf8 HSt HB7 HG7 HU7
      go_wp2_with fail
      refine HNr.out.mono ?_
      rintro e w9 ⟨⟨v9, rfl, hr9⟩, hz9, hb9⟩
      have HB9 := hidIn (HB8.out.trans (hb9.mono HB8.out.size))
      have HG9 := hidIn ((hb9.block gb (block_lt HG8.out)).trans HG8.out)
      have HU9 := hidIn (row_below HU8.out hb9 (Nat.le_refl _))
      obtain ⟨va9, vc9, rfl⟩ := row_shape hr9
      have HSa := hidIn (by
        have := zstart hz9 hk2 (x : Int)
        rw [HM.out.st, HM.out.n3] at this
        exact this)
      clear hr9 hz9 hb9 HNr HB8 HG8 HU8
      go_wp2_with fail
      refine HSa.out.mono ?_
      rintro e w10 ⟨rfl, hz10, hf10⟩
      have HB10 := hidIn (HB9.out.trans (hf10.below HB9.out.size (fun k hk => Nat.le_of_not_lt (fun h => hk (hZw.out k h)))))
      have HG10 := hidIn ((hf10.block gb (block_lt HG9.out) (fun h => h hZg.out)).trans HG9.out)
      have HU10 := hidIn (row_fr HU9.out hf10 (fun j hj h => h (hZu.out j hj)))
      have HZ10 := hidIn hz10
      clear hz10 hf10 HSa HB9 HG9 HU9
      have HqE := hidIn hq
      clear hq
      have hcq : (q = false ∧ c = 2) ∨ (q = true ∧ c = 0) := by
        have := Hc.out
        cases q
        · exact .inl ⟨rfl, this.symm⟩
        · exact .inr ⟨rfl, this.symm⟩
      rcases hcq with ⟨rfl, rfl⟩ | ⟨rfl, rfl⟩
      · have hk4 : NvOk N4 2 := by rw [← HM.out.n4' HqE.out]; exact hk3.mono (by omega)
        rw [HM.out.n4' HqE.out] at HZ10
        have HGr := hidIn (by
          have := zgraph HZ10.out hk4
          rw [HM.out.v4, HM.out.e4, HV0.out, Hn.out] at this
          exact this)
        go_upto_region 29 with fail
        go_wp2_with fail
        refine HGr.out.mono ?_
        rintro e w12 ⟨⟨v2, u2, rfl, hrv, hru⟩, hz12, hb12⟩
        obtain ⟨vb, vd, rfl⟩ := row_shape hrv
        obtain ⟨ub, ud, rfl⟩ := row_shape hru
        obtain ⟨W13, hW13⟩ : ∃ W13, w12.alloc (.cells #[.slice vb 4 vd, .slice ub (2 * m) ud] 57) = W13 := ⟨_, rfl⟩
        have b13 : Below w12.heap.size w12 W13 := by rw [← hW13]; exact (Below.refl _ w12).alloc (Nat.le_refl _) _
        have hG13 : W13.heap[w12.heap.size]? = some (.cells #[.slice vb 4 vd, .slice ub (2 * m) ud] 57) := by rw [← hW13]; exact heap_alloc_last w12 _
        have hbA := hb12.trans (b13.mono hb12.size)
        have hUa := slAt_of_row (cs := ec) (fun _ => rfl) (row_below HU10.out hbA (Nat.le_refl _)) Hn.out
        have hUb := slAt_of_row (cs := ec) (fun _ => rfl) (row_below hru b13 (Nat.le_refl _)) Hn.out
        have hGa := (hbA.block gb (block_lt HG10.out)).trans HG10.out
        have HZ13 := hidIn (hz12.below b13)
        have HB13 := hidIn (HB10.out.trans (hbA.mono HB10.out.size))
        obtain ⟨hb2, hhb2⟩ : ∃ b, w12.heap.size = b := ⟨_, rfl⟩
        rw [hhb2] at hG13
        have Hhb := hidIn hhb2
        have HGa := hidIn hGa
        have HGb := hidIn hG13
        have HUa := hidIn hUa
        have HUb := hidIn hUb
        have HW13 := hidIn hW13
        clear hrv hru hz12 hb12 b13 hG13 hbA hUa hUb hGa hW13 hhb2 HGr
        go_upto_region 30 with fail
        rw [HW13.out, Hhb.out]
        have g0 := cell_of_row _ _ 0 _ _ _ HGa.out
        have g1 := cell_of_row _ _ 1 _ _ _ HGa.out
        have h0 := cell_of_row _ _ 0 _ _ _ HGb.out
        have h1 := cell_of_row _ _ 1 _ _ _ HGb.out
        simp at g0 g1 h0 h1
        have hw2 : IntKind.i64.wrap (2 * (m : Int)) = 2 * (m : Int) := wrap_i (by omega)
        go_wp2_with fail
        go_loopw [27] (fun iv wr => ∃ j : Nat, j ≤ 2 * m ∧ iv = .int .i64 j ∧ Hid (Below W13.heap.size W13 wr)) (fun iv _ => 2 * m - (intOf iv).toNat)
        case atStart => exact ⟨0, Nat.zero_le _, rfl, hidIn (Below.refl _ _)⟩
        case round =>
          obtain ⟨j, hj, rfl, HL⟩ := hrel
          have hGb2 := (HL.out.block _ (block_lt HGb.out)).trans HGb.out
          have hGa2 := (HL.out.block _ (block_lt HGa.out)).trans HGa.out
          have h1 := cell_of_row _ _ 1 _ _ _ hGb2
          simp at h1
          by_cases hlt : j < 2 * m
          · have hji : (j : Int) < 2 * (m : Int) := by omega
            have hj9 : (j : Int) < 100 := by omega
            obtain ⟨a1, c1, e1, _, _, hc1⟩ := (HUa.out.keep HL.out (Nat.le_refl _)).eds
            obtain ⟨a2, c2, e2, _, _, hc2⟩ := (HUb.out.keep HL.out (Nat.le_refl _)).eds
            rw [Hn.out] at e1 e2 hc1 hc2
            simp only [Value.slice.injEq] at e1 e2
            obtain ⟨rfl, _, rfl⟩ := e1
            obtain ⟨rfl, _, rfl⟩ := e2
            obtain ⟨k1, o1, rfl, hk1, hc1⟩ := hc1 (by omega)
            obtain ⟨k2, o2, rfl, hk2, hc2⟩ := hc2 (by omega)
            obtain ⟨⟨x0, x1, x2⟩, hxe⟩ : ∃ z, N0.E[j]? = some z := ⟨N0.E[j]'(by rw [Hn.out]; exact hlt), List.getElem?_eq_getElem _⟩
            have HS : Hid (∀ wq, Below wr.heap.size wr wq → CmR gb hb2 (.slice (some ⟨k1, o1, none⟩) (2 * m) uc) (.slice (some ⟨k2, o2, none⟩) (2 * m) ud) k1 k2 (o1 + j * 3) (o2 + j * 3) x0 x1 x2 wq) := hidIn (fun wq hq => by
              have hA := (hq.block _ (block_lt hGa2)).trans hGa2
              have hB := (hq.block _ (block_lt hGb2)).trans hGb2
              obtain ⟨p0, p1, p2⟩ := hc1 j _ hxe
              obtain ⟨r0, r1, r2⟩ := hc2 j _ hxe
              exact ⟨cell_of_row _ _ 1 _ _ _ hA, cell_of_row _ _ 1 _ _ _ hB, (hq.cell (p := ⟨k1, _, none⟩) hk1).trans p0, (hq.cell (p := ⟨k1, _, none⟩) hk1).trans p1, (hq.cell (p := ⟨k1, _, none⟩) hk1).trans p2, (hq.cell (p := ⟨k2, _, none⟩) hk2).trans r0, (hq.cell (p := ⟨k2, _, none⟩) hk2).trans r1, (hq.cell (p := ⟨k2, _, none⟩) hk2).trans r2⟩)
            have hq3 := fun a0 a1 a2 b0 b1 b2 w => eq_Ed a0 a1 a2 b0 b1 b2 w
            clear hc1 hc2 hxe hGa2 hGb2 hk1 hk2
            go_upto_region 35 with fail
            refine wp_region_held_drew (S := fun wx => Below wr.heap.size wr wx) (by kernel_rfl) ((Below.refl _ wr).drew) (fun hHeld => ?_)
            have hd0 : Below wr.heap.size wr wr.drew := hHeld
            clear hHeld h1
            refine wpAnyH_take (i := 0) (v := .pointer (some ⟨hb2, 1, none⟩)) rfl (by kernel_rfl) (by kernel_rfl) (by kernel_rfl) (fun _ _ _ h => h) (Or.inl ⟨by kernel_rfl, fun _ _ => by kernel_rfl⟩) (by assumption) ?_
            refine wpAnyH_take (i := 1) (v := .slice (some ⟨k2, o2, none⟩) (2 * m) ud) rfl (by kernel_rfl) (by kernel_rfl) (by kernel_rfl) (fun _ _ _ h => h) (Or.inl ⟨by kernel_rfl, fun wq hSw => by
                obtain ⟨s0, s1, s2, s3, s4, s5, s6, s7⟩ := HS.out wq hSw
                go_simp⟩) (by assumption) ?_
            refine wpAnyH_take (i := 2) (v := .int .i64 j) rfl (by kernel_rfl) (by kernel_rfl) (by kernel_rfl) (fun _ _ _ h => h) (Or.inl ⟨by kernel_rfl, fun _ _ => by kernel_rfl⟩) (by assumption) ?_
            refine wpAnyH_take (i := 3) (v := .pointer (some ⟨k2, o2 + j * 3, none⟩)) rfl (by kernel_rfl) (by kernel_rfl) (by kernel_rfl) (fun _ _ _ h => h) (Or.inl ⟨by kernel_rfl, fun wq hSw => by
                skip
                go_simp⟩) (by assumption) ?_
            refine wpAnyH_take (i := 4) (v := .agg #[.int .i64 x0, .int .i64 x1, .int .i64 x2]) rfl (by kernel_rfl) (by kernel_rfl) (by kernel_rfl) (fun _ _ _ h => h) (Or.inl ⟨by kernel_rfl, fun wq hSw => by
                obtain ⟨s0, s1, s2, s3, s4, s5, s6, s7⟩ := HS.out wq hSw
                go_simp⟩) (by assumption) ?_
            refine wpAnyH_take (i := 5) (v := .pointer (some ⟨gb, 1, none⟩)) rfl (by kernel_rfl) (by kernel_rfl) (by kernel_rfl) (fun _ _ _ h => h) (Or.inl ⟨by kernel_rfl, fun _ _ => by kernel_rfl⟩) (by assumption) ?_
            refine wpAnyH_take (i := 6) (v := .slice (some ⟨k1, o1, none⟩) (2 * m) uc) rfl (by kernel_rfl) (by kernel_rfl) (by kernel_rfl) (fun _ _ _ h => h) (Or.inl ⟨by kernel_rfl, fun wq hSw => by
                obtain ⟨s0, s1, s2, s3, s4, s5, s6, s7⟩ := HS.out wq hSw
                go_simp⟩) (by assumption) ?_
            refine wpAnyH_take (i := 7) (v := .int .i64 j) rfl (by kernel_rfl) (by kernel_rfl) (by kernel_rfl) (fun _ _ _ h => h) (Or.inl ⟨by kernel_rfl, fun _ _ => by kernel_rfl⟩) (by assumption) ?_
            refine wpAnyH_take (i := 8) (v := .pointer (some ⟨k1, o1 + j * 3, none⟩)) rfl (by kernel_rfl) (by kernel_rfl) (by kernel_rfl) (fun _ _ _ h => h) (Or.inl ⟨by kernel_rfl, fun wq hSw => by
                skip
                go_simp⟩) (by assumption) ?_
            refine wpAnyH_take (i := 9) (v := .agg #[.int .i64 x0, .int .i64 x1, .int .i64 x2]) rfl (by kernel_rfl) (by kernel_rfl) (by kernel_rfl) (fun _ _ _ h => h) (Or.inl ⟨by kernel_rfl, fun wq hSw => by
                obtain ⟨s0, s1, s2, s3, s4, s5, s6, s7⟩ := HS.out wq hSw
                go_simp⟩) (by assumption) ?_
            refine wpAnyH_ready (rs := [10]) (by kernel_rfl) (by simp) ?_
            refine AllReadyH.cons (i := 10) rfl ?_ AllReadyH.nil
            go_simp
            intro K hK
            refine hK.out _ _ hd0 (fun _ => ?_)
            clear hK K
            refine wpAnyH_done (by kernel_rfl) ?_ _
            have HLd := hidIn (HL.out.trans (hd0.mono HL.out.size))
            clear hq3 hd0 HS
            go_wp2_with fail
            go_roundw
            case rel => exact ⟨j + 1, by omega, by go_num, HLd⟩
            case measure => simp [intOf]; omega
          · have hje : j = 2 * m := by omega
            have hji : ¬ (j : Int) < 2 * (m : Int) := by omega
            have HUp3 := hidIn (by
              have := zup (HZ13.out.below HL.out) hk4 (x : Int) (y : Int)
              rw [HM.out.u4, HqE.out] at this
              exact this)
            have HB14 := hidIn (HB13.out.trans (HL.out.mono HB13.out.size))
            clear hGa2 hGb2 hje
            go_wp2_with fail
            refine HUp3.out.mono ?_
            rintro e w15 ⟨rfl, _, hb15⟩
            have HB15 := hidIn (HB14.out.trans (hb15.mono HB14.out.size))
            clear hb15 HUp3
            go_wp2_with fail
            go_returns
            exact ⟨rfl, HB15.out⟩
      · have hk4 : NvOk N4 2 := by rw [← HM.out.n4 HqE.out]; exact hk3.mendZ _ _
        have HMd := hidIn (by
          have := zmend HZ10.out hk3 (y : Int) (x : Int)
          rw [HM.out.m HqE.out, HM.out.n4 HqE.out] at this
          exact this)
        go_upto_region 27 with fail
        go_wp2_with fail
        refine HMd.out.mono ?_
        rintro e w11 ⟨rfl, hz11, hf11⟩
        have HB11 := hidIn (HB10.out.trans (hf11.below HB10.out.size (fun k hk => Nat.le_of_not_lt (fun h => hk (hZw.out k h)))))
        have HG11 := hidIn ((hf11.block gb (block_lt HG10.out) (fun h => h hZg.out)).trans HG10.out)
        have HU11 := hidIn (row_fr HU10.out hf11 (fun j hj h => h (hZu.out j hj)))
        have HZ11 := hidIn hz11
        clear hz11 hf11 HMd HB10 HG10 HU10 HZ10
        have HGr := hidIn (by
          have := zgraph HZ11.out hk4
          rw [HM.out.v4, HM.out.e4, HV0.out, Hn.out] at this
          exact this)
        go_upto_region 29 with fail
        go_wp2_with fail
        refine HGr.out.mono ?_
        rintro e w12 ⟨⟨v2, u2, rfl, hrv, hru⟩, hz12, hb12⟩
        obtain ⟨vb, vd, rfl⟩ := row_shape hrv
        obtain ⟨ub, ud, rfl⟩ := row_shape hru
        obtain ⟨W13, hW13⟩ : ∃ W13, w12.alloc (.cells #[.slice vb 4 vd, .slice ub (2 * m) ud] 57) = W13 := ⟨_, rfl⟩
        have b13 : Below w12.heap.size w12 W13 := by rw [← hW13]; exact (Below.refl _ w12).alloc (Nat.le_refl _) _
        have hG13 : W13.heap[w12.heap.size]? = some (.cells #[.slice vb 4 vd, .slice ub (2 * m) ud] 57) := by rw [← hW13]; exact heap_alloc_last w12 _
        have hbA := hb12.trans (b13.mono hb12.size)
        have hUa := slAt_of_row (cs := ec) (fun _ => rfl) (row_below HU11.out hbA (Nat.le_refl _)) Hn.out
        have hUb := slAt_of_row (cs := ec) (fun _ => rfl) (row_below hru b13 (Nat.le_refl _)) Hn.out
        have hGa := (hbA.block gb (block_lt HG11.out)).trans HG11.out
        have HZ13 := hidIn (hz12.below b13)
        have HB13 := hidIn (HB11.out.trans (hbA.mono HB11.out.size))
        obtain ⟨hb2, hhb2⟩ : ∃ b, w12.heap.size = b := ⟨_, rfl⟩
        rw [hhb2] at hG13
        have Hhb := hidIn hhb2
        have HGa := hidIn hGa
        have HGb := hidIn hG13
        have HUa := hidIn hUa
        have HUb := hidIn hUb
        have HW13 := hidIn hW13
        clear hrv hru hz12 hb12 b13 hG13 hbA hUa hUb hGa hW13 hhb2 HGr
        go_upto_region 30 with fail
        rw [HW13.out, Hhb.out]
        have g0 := cell_of_row _ _ 0 _ _ _ HGa.out
        have g1 := cell_of_row _ _ 1 _ _ _ HGa.out
        have h0 := cell_of_row _ _ 0 _ _ _ HGb.out
        have h1 := cell_of_row _ _ 1 _ _ _ HGb.out
        simp at g0 g1 h0 h1
        have hw2 : IntKind.i64.wrap (2 * (m : Int)) = 2 * (m : Int) := wrap_i (by omega)
        go_wp2_with fail
        go_loopw [27] (fun iv wr => ∃ j : Nat, j ≤ 2 * m ∧ iv = .int .i64 j ∧ Hid (Below W13.heap.size W13 wr)) (fun iv _ => 2 * m - (intOf iv).toNat)
        case atStart => exact ⟨0, Nat.zero_le _, rfl, hidIn (Below.refl _ _)⟩
        case round =>
          obtain ⟨j, hj, rfl, HL⟩ := hrel
          have hGb2 := (HL.out.block _ (block_lt HGb.out)).trans HGb.out
          have hGa2 := (HL.out.block _ (block_lt HGa.out)).trans HGa.out
          have h1 := cell_of_row _ _ 1 _ _ _ hGb2
          simp at h1
          by_cases hlt : j < 2 * m
          · have hji : (j : Int) < 2 * (m : Int) := by omega
            have hj9 : (j : Int) < 100 := by omega
            obtain ⟨a1, c1, e1, _, _, hc1⟩ := (HUa.out.keep HL.out (Nat.le_refl _)).eds
            obtain ⟨a2, c2, e2, _, _, hc2⟩ := (HUb.out.keep HL.out (Nat.le_refl _)).eds
            rw [Hn.out] at e1 e2 hc1 hc2
            simp only [Value.slice.injEq] at e1 e2
            obtain ⟨rfl, _, rfl⟩ := e1
            obtain ⟨rfl, _, rfl⟩ := e2
            obtain ⟨k1, o1, rfl, hk1, hc1⟩ := hc1 (by omega)
            obtain ⟨k2, o2, rfl, hk2, hc2⟩ := hc2 (by omega)
            obtain ⟨⟨x0, x1, x2⟩, hxe⟩ : ∃ z, N0.E[j]? = some z := ⟨N0.E[j]'(by rw [Hn.out]; exact hlt), List.getElem?_eq_getElem _⟩
            have HS : Hid (∀ wq, Below wr.heap.size wr wq → CmR gb hb2 (.slice (some ⟨k1, o1, none⟩) (2 * m) uc) (.slice (some ⟨k2, o2, none⟩) (2 * m) ud) k1 k2 (o1 + j * 3) (o2 + j * 3) x0 x1 x2 wq) := hidIn (fun wq hq => by
              have hA := (hq.block _ (block_lt hGa2)).trans hGa2
              have hB := (hq.block _ (block_lt hGb2)).trans hGb2
              obtain ⟨p0, p1, p2⟩ := hc1 j _ hxe
              obtain ⟨r0, r1, r2⟩ := hc2 j _ hxe
              exact ⟨cell_of_row _ _ 1 _ _ _ hA, cell_of_row _ _ 1 _ _ _ hB, (hq.cell (p := ⟨k1, _, none⟩) hk1).trans p0, (hq.cell (p := ⟨k1, _, none⟩) hk1).trans p1, (hq.cell (p := ⟨k1, _, none⟩) hk1).trans p2, (hq.cell (p := ⟨k2, _, none⟩) hk2).trans r0, (hq.cell (p := ⟨k2, _, none⟩) hk2).trans r1, (hq.cell (p := ⟨k2, _, none⟩) hk2).trans r2⟩)
            have hq3 := fun a0 a1 a2 b0 b1 b2 w => eq_Ed a0 a1 a2 b0 b1 b2 w
            clear hc1 hc2 hxe hGa2 hGb2 hk1 hk2
            go_upto_region 35 with fail
            refine wp_region_held_drew (S := fun wx => Below wr.heap.size wr wx) (by kernel_rfl) ((Below.refl _ wr).drew) (fun hHeld => ?_)
            have hd0 : Below wr.heap.size wr wr.drew := hHeld
            clear hHeld h1
            refine wpAnyH_take (i := 0) (v := .pointer (some ⟨hb2, 1, none⟩)) rfl (by kernel_rfl) (by kernel_rfl) (by kernel_rfl) (fun _ _ _ h => h) (Or.inl ⟨by kernel_rfl, fun _ _ => by kernel_rfl⟩) (by assumption) ?_
            refine wpAnyH_take (i := 1) (v := .slice (some ⟨k2, o2, none⟩) (2 * m) ud) rfl (by kernel_rfl) (by kernel_rfl) (by kernel_rfl) (fun _ _ _ h => h) (Or.inl ⟨by kernel_rfl, fun wq hSw => by
                obtain ⟨s0, s1, s2, s3, s4, s5, s6, s7⟩ := HS.out wq hSw
                go_simp⟩) (by assumption) ?_
            refine wpAnyH_take (i := 2) (v := .int .i64 j) rfl (by kernel_rfl) (by kernel_rfl) (by kernel_rfl) (fun _ _ _ h => h) (Or.inl ⟨by kernel_rfl, fun _ _ => by kernel_rfl⟩) (by assumption) ?_
            refine wpAnyH_take (i := 3) (v := .pointer (some ⟨k2, o2 + j * 3, none⟩)) rfl (by kernel_rfl) (by kernel_rfl) (by kernel_rfl) (fun _ _ _ h => h) (Or.inl ⟨by kernel_rfl, fun wq hSw => by
                skip
                go_simp⟩) (by assumption) ?_
            refine wpAnyH_take (i := 4) (v := .agg #[.int .i64 x0, .int .i64 x1, .int .i64 x2]) rfl (by kernel_rfl) (by kernel_rfl) (by kernel_rfl) (fun _ _ _ h => h) (Or.inl ⟨by kernel_rfl, fun wq hSw => by
                obtain ⟨s0, s1, s2, s3, s4, s5, s6, s7⟩ := HS.out wq hSw
                go_simp⟩) (by assumption) ?_
            refine wpAnyH_take (i := 5) (v := .pointer (some ⟨gb, 1, none⟩)) rfl (by kernel_rfl) (by kernel_rfl) (by kernel_rfl) (fun _ _ _ h => h) (Or.inl ⟨by kernel_rfl, fun _ _ => by kernel_rfl⟩) (by assumption) ?_
            refine wpAnyH_take (i := 6) (v := .slice (some ⟨k1, o1, none⟩) (2 * m) uc) rfl (by kernel_rfl) (by kernel_rfl) (by kernel_rfl) (fun _ _ _ h => h) (Or.inl ⟨by kernel_rfl, fun wq hSw => by
                obtain ⟨s0, s1, s2, s3, s4, s5, s6, s7⟩ := HS.out wq hSw
                go_simp⟩) (by assumption) ?_
            refine wpAnyH_take (i := 7) (v := .int .i64 j) rfl (by kernel_rfl) (by kernel_rfl) (by kernel_rfl) (fun _ _ _ h => h) (Or.inl ⟨by kernel_rfl, fun _ _ => by kernel_rfl⟩) (by assumption) ?_
            refine wpAnyH_take (i := 8) (v := .pointer (some ⟨k1, o1 + j * 3, none⟩)) rfl (by kernel_rfl) (by kernel_rfl) (by kernel_rfl) (fun _ _ _ h => h) (Or.inl ⟨by kernel_rfl, fun wq hSw => by
                skip
                go_simp⟩) (by assumption) ?_
            refine wpAnyH_take (i := 9) (v := .agg #[.int .i64 x0, .int .i64 x1, .int .i64 x2]) rfl (by kernel_rfl) (by kernel_rfl) (by kernel_rfl) (fun _ _ _ h => h) (Or.inl ⟨by kernel_rfl, fun wq hSw => by
                obtain ⟨s0, s1, s2, s3, s4, s5, s6, s7⟩ := HS.out wq hSw
                go_simp⟩) (by assumption) ?_
            refine wpAnyH_ready (rs := [10]) (by kernel_rfl) (by simp) ?_
            refine AllReadyH.cons (i := 10) rfl ?_ AllReadyH.nil
            go_simp
            intro K hK
            refine hK.out _ _ hd0 (fun _ => ?_)
            clear hK K
            refine wpAnyH_done (by kernel_rfl) ?_ _
            have HLd := hidIn (HL.out.trans (hd0.mono HL.out.size))
            clear hq3 hd0 HS
            go_wp2_with fail
            go_roundw
            case rel => exact ⟨j + 1, by omega, by go_num, HLd⟩
            case measure => simp [intOf]; omega
          · have hje : j = 2 * m := by omega
            have hji : ¬ (j : Int) < 2 * (m : Int) := by omega
            have HUp3 := hidIn (by
              have := zup (HZ13.out.below HL.out) hk4 (x : Int) (y : Int)
              rw [HM.out.u4, HqE.out] at this
              exact this)
            have HB14 := hidIn (HB13.out.trans (HL.out.mono HB13.out.size))
            clear hGa2 hGb2 hje
            go_wp2_with fail
            refine HUp3.out.mono ?_
            rintro e w15 ⟨rfl, _, hb15⟩
            have HB15 := hidIn (HB14.out.trans (hb15.mono HB14.out.size))
            clear hb15 HUp3
            go_wp2_with fail
            go_returns
            exact ⟨rfl, HB15.out⟩
end Go.Proofs.Ytkhfpcnmnnboeaa.Nt
namespace Go.Proofs.Ytkhfpcnmnnboeaa.Nt
open Go.ChangeShapes Go.RowKit

theorem n_u8 {n : Int} (h : (Lit.int .u8 n).wf = true) : ∃ e : Nat, n = (e : Int) ∧ e < 256 := by
  have := bounds_u8 h
  exact ⟨n.toNat, by omega, by omega⟩
theorem netMends_walk {n0 n1 n2 : Int} (h0 : (Lit.int .u8 n0).wf = true) (h1 : (Lit.int .u8 n1).wf = true) (h2 : (Lit.int .u8 n2).wf = true) (w : World) :
    Calls Try.prog 5 #[.int .u8 n0, .int .u8 n1, .int .u8 n2] w fun e w' => e = .returned (.bool true) ∧ Below w.heap.size w w' := by
  obtain ⟨s, rfl, hs⟩ := n_u8 h0
  obtain ⟨a, rfl, ha⟩ := n_u8 h1
  obtain ⟨b, rfl, hb⟩ := n_u8 h2
  exact netMends_any s a b hs ha hb w
end Go.Proofs.Ytkhfpcnmnnboeaa.Nt
