/- net: who is running, which links are up; Graph, Near. net: New. net: == of messages, fates, neighbours, links; one; the net's calls, where the net lies outside of the law's blocks. net: three routers in a row; works. net: nets that are none; what New refuses. NetKnown: its nets, as values. NetKnown: the chapter's examples; nets that are none. -/
import Derived.Test.YtkhfpcnmnnboeaaZ1
import Derived.Test.YtkhfpcnmnnboeaaZ2
import Derived.Laws.BytesArg
namespace Go.Proofs.Ytkhfpcnmnnboeaa.Nt
open Go.RowKit Go.Proofs.Ytkhfpcnmnnboeaa.Fa

def runL (N : Nv) : List Int := N.V.filter fun x => !N.st x.toNat
def eUp (N : Nv) : List Ed := N.E.filter fun e => upQ N e.1 e.2.1
theorem filt_yes {α : Type} {l : List α} {k : Nat} {x : α} (f : α → Bool) (hx : l[k]? = some x) (h : f x = true) : (l.take (k + 1)).filter f = (l.take k).filter f ++ [x] := by
  rw [take_snoc hx, List.filter_append, List.filter_cons, if_pos h, List.filter_nil]
theorem filt_no {α : Type} {l : List α} {k : Nat} {x : α} (f : α → Bool) (hx : l[k]? = some x) (h : f x = false) : (l.take (k + 1)).filter f = (l.take k).filter f := by
  rw [take_snoc hx, List.filter_append, List.filter_cons, if_neg (by rw [h]; simp), List.filter_nil, List.append_nil]
theorem filt_len {α : Type} (l : List α) (k : Nat) (f : α → Bool) : ((l.take k).filter f).length ≤ k := Nat.le_trans (List.length_filter_le _ _) (by rw [List.length_take]; omega)
set_option maxRecDepth 100000 in
set_option maxHeartbeats 1000000 in
theorem running_any {w : World} {np : Nat} {D : Nd} {N : Nv} {S : Nat → Prop} (h : NtAt w np D N S) (hv : ∀ x ∈ N.V, 1 ≤ x ∧ x ≤ 24) (hvl : N.V.length ≤ 25) :
    Calls Try.prog 38 #[pp np] w fun e w' => (∃ v, e = .returned v ∧ w'.ownsRow w.heap.size 3 1 v (runL N).length (fl ic (runL N))) ∧ Below w.heap.size w w' := by
  have hs := slAt_of_row (cs := ic) (fun _ => rfl) h.vn rfl
  obtain ⟨aa, ca, hve, hl, hcap, hat⟩ := hs.ints
  have c1 := h.b.c1
  rw [hve] at c1
  have HB := hidIn h.b
  have HA := hidIn hat
  have HV := hidIn hv
  obtain ⟨n, hn⟩ : ∃ n, N.V.length = n := ⟨_, rfl⟩
  obtain ⟨f, hf⟩ : ∃ f : Int → Bool, (fun x => !N.st x.toNat) = f := ⟨_, rfl⟩
  have HF : Hid (∀ z : Nat, f z = !N.st z) := hidIn (fun z => by rw [← hf]; rfl)
  have HR : Hid (runL N = N.V.filter f) := hidIn (by rw [← hf]; rfl)
  rw [hn] at c1 hvl
  have Hn := hidIn hn
  clear h hs hve hat hv hn hf hl hcap
  go_enter Try.func38, Try.ntmps38
  go_wp2_with fail
  go_loopw [3, 12] (fun u i wr => ∃ k : Nat, k ≤ n ∧ i = .int .i64 k ∧ (∃ a c, u = .slice a ((N.V.take k).filter f).length c) ∧ Hid (wr.ownsRow w.heap.size 3 1 u ((N.V.take k).filter f).length (fl ic ((N.V.take k).filter f)) ∧ Below w.heap.size w wr)) (fun _ i _ => n - (intOf i).toNat)
  case atStart => exact ⟨0, Nat.zero_le _, rfl, ⟨none, 0, rfl⟩, hidIn ⟨World.ownsRow_nil _ _ _ _, Below.refl _ _⟩⟩
  case round =>
    obtain ⟨k, hk, rfl, ⟨ua, uc, rfl⟩, HRl⟩ := hrel
    obtain ⟨r1, r2⟩ := HRl.out
    clear HRl
    by_cases hlt : k < n
    · have hki : (k : Int) < (n : Int) := by omega
      have hk9 : (k : Int) < 100 := by omega
      obtain ⟨bk, o, rfl, hbk, hc⟩ := HA.out (by rw [Hn.out]; omega)
      obtain ⟨x, hx⟩ : ∃ z, N.V[k]? = some z := ⟨N.V[k]'(by rw [Hn.out]; exact hlt), List.getElem?_eq_getElem _⟩
      have hxr := HV.out x (List.mem_of_getElem? hx)
      obtain ⟨z, rfl⟩ : ∃ z : Nat, x = z := ⟨x.toNat, by omega⟩
      have hz25 : (z : Int) < 25 := by omega
      have c0 := (r2.cell (p := ⟨bk, o + k, none⟩) hbk).trans (hc k _ hx)
      have hBr : NtB wr np D N.lt N.st N.now := (r2.block _ HB.out.lt).trans HB.out
      have s7 := hBr.c7 (k := z) (by omega)
      have hfz := HF.out z
      obtain ⟨sz, hsz⟩ : ∃ b, N.st z = b := ⟨_, rfl⟩
      rw [hsz] at s7 hfz
      have HX := hidIn hx
      have R1 := hidIn r1
      have R2 := hidIn r2
      have hlen := filt_len N.V k f
      cases sz
      · have hy := filt_yes f hx hfz
        obtain ⟨g6, cap6, w6, hrun, hown, hlie, hgr, hb6⟩ := append_int r1 (z : Int) (by omega) r2.size
        rw [← hy] at hown
        have hl2 : ((N.V.take (k + 1)).filter f).length = ((N.V.take k).filter f).length + 1 := by rw [hy, List.length_append]; rfl
        have HRun := hidIn hrun
        have HO := hidIn hown
        have HB6 := hidIn (r2.trans (hb6.mono (Nat.le_refl _)))
        have Hl2 := hidIn hl2
        clear hrun hown hlie hgr hb6 r1 r2 hx hc hBr hsz hfz hxr hy hl2
        go_wp2_with (refine l_append rfl _ _ 27 rfl HRun.out ?_)
        go_roundw
        case rel => exact ⟨k + 1, by omega, by go_num, ⟨_, _, by rw [Hl2.out]⟩, hidIn ⟨by rw [Hl2.out]; exact HO.out, HB6.out⟩⟩
        case measure => simp [intOf]; omega
      · have hy := filt_no f hx hfz
        have Hy := hidIn hy
        clear r1 r2 hx hc hBr hsz hfz hxr hy
        go_wp2_with fail
        go_roundw
        case rel => exact ⟨k + 1, by omega, by go_num, ⟨_, _, by rw [Hy.out]⟩, hidIn ⟨by rw [Hy.out]; exact R1.out, R2.out⟩⟩
        case measure => simp [intOf]; omega
    · have hke : k = n := by omega
      have hki : ¬ ((k : Int) < (n : Int)) := by omega
      have hT : N.V.take k = N.V := by rw [hke, ← Hn.out, List.take_length]
      have HT := hidIn hT
      have R1 := hidIn r1
      have R2 := hidIn r2
      clear r1 r2 hT hke
      go_wp2_with fail
      go_returns
      exact ⟨⟨_, rfl, by rw [HR.out]; have h9 := R1.out; rw [HT.out] at h9 ⊢; exact h9⟩, R2.out⟩
set_option maxRecDepth 100000 in
set_option maxHeartbeats 1000000 in
theorem edgesUp_any {w : World} {np : Nat} {D : Nd} {N : Nv} {S : Nat → Prop} (h : NtAt w np D N S) (hv : ∀ x ∈ N.E, (1 ≤ x.1 ∧ x.1 ≤ 24) ∧ (1 ≤ x.2.1 ∧ x.2.1 ≤ 24) ∧ x.1 ≠ x.2.1) (hvl : N.E.length ≤ 1000) :
    Calls Try.prog 39 #[pp np] w fun e w' => (∃ v, e = .returned v ∧ w'.ownsRow w.heap.size 64 3 v (eUp N).length (fl ec (eUp N))) ∧ Below w.heap.size w w' := by
  have hs := slAt_of_row (cs := ec) (fun _ => rfl) h.ve rfl
  obtain ⟨aa, ca, hve, hl, hcap, hat⟩ := hs.eds
  have c1 := h.b.c2
  rw [hve] at c1
  have HB := hidIn h.b
  have HM := hidIn h.cu
  have HA := hidIn hat
  have HV := hidIn hv
  obtain ⟨n, hn⟩ : ∃ n, N.E.length = n := ⟨_, rfl⟩
  obtain ⟨f, hf⟩ : ∃ f : Ed → Bool, (fun e => upQ N e.1 e.2.1) = f := ⟨_, rfl⟩
  have HF : Hid (∀ (a b : Nat) (c : Int), f ((a : Int), (b : Int), c) = (!N.C (nm a b) && (!N.st a && !N.st b))) := hidIn (fun a b c => by rw [← hf]; rfl)
  have HR : Hid (eUp N = N.E.filter f) := hidIn (by rw [← hf]; rfl)
  rw [hn] at c1 hvl
  have Hn := hidIn hn
  clear h hs hve hat hv hn hf hl hcap
  go_enter Try.func39, Try.ntmps39
  go_wp2_with fail
  go_loopw [3, 12] (fun u i wr => ∃ k : Nat, k ≤ n ∧ i = .int .i64 k ∧ (∃ a c, u = .slice a ((N.E.take k).filter f).length c) ∧ Hid (wr.ownsRow w.heap.size 64 3 u ((N.E.take k).filter f).length (fl ec ((N.E.take k).filter f)) ∧ Below w.heap.size w wr)) (fun _ i _ => n - (intOf i).toNat)
  case atStart => exact ⟨0, Nat.zero_le _, rfl, ⟨none, 0, rfl⟩, hidIn ⟨World.ownsRow_nil _ _ _ _, Below.refl _ _⟩⟩
  case round =>
    obtain ⟨k, hk, rfl, ⟨ua, uc, rfl⟩, HRl⟩ := hrel
    obtain ⟨r1, r2⟩ := HRl.out
    clear HRl
    by_cases hlt : k < n
    · have hki : (k : Int) < (n : Int) := by omega
      have hk9 : (k : Int) < 10000 := by omega
      obtain ⟨bk, o, rfl, hbk, hc⟩ := HA.out (by rw [Hn.out]; omega)
      obtain ⟨⟨x, y, z⟩, hx⟩ : ∃ z, N.E[k]? = some z := ⟨N.E[k]'(by rw [Hn.out]; exact hlt), List.getElem?_eq_getElem _⟩
      have hxr := HV.out _ (List.mem_of_getElem? hx)
      simp only at hxr
      obtain ⟨x, rfl⟩ : ∃ z : Nat, x = z := ⟨x.toNat, by omega⟩
      obtain ⟨y, rfl⟩ : ∃ z : Nat, y = z := ⟨y.toNat, by omega⟩
      obtain ⟨q0, q1, q2⟩ := hc k _ hx
      have c0 := (r2.cell (p := ⟨bk, o + k * 3, none⟩) hbk).trans q0
      have c1' := (r2.cell (p := ⟨bk, o + k * 3 + 1, none⟩) hbk).trans q1
      have c2 := (r2.cell (p := ⟨bk, o + k * 3 + 2, none⟩) hbk).trans q2
      simp only at c0 c1' c2
      obtain ⟨W1, hW1⟩ : ∃ W1, wr.alloc (.cells #[.int .i64 (x : Int), .int .i64 (y : Int), .int .i64 z] 64) = W1 := ⟨_, rfl⟩
      have b1 : Below wr.heap.size wr W1 := by rw [← hW1]; exact (Below.refl _ wr).alloc (Nat.le_refl _) _
      have hX : W1.heap[wr.heap.size]? = some (.cells #[.int .i64 (x : Int), .int .i64 (y : Int), .int .i64 z] 64) := by rw [← hW1]; exact heap_alloc_last wr _
      have e0 := cell_of_row _ _ 0 _ _ _ hX
      have e1 := cell_of_row _ _ 1 _ _ _ hX
      simp at e0 e1
      have r21 := r2.trans (b1.mono r2.size)
      have hB1 : NtB W1 np D N.lt N.st N.now := (r21.block _ HB.out.lt).trans HB.out
      have HU := hidIn (isUp_any hB1 (HM.out.below r21 HM.out.lt) (a := x) (b := y) (by omega) (by omega))
      have hfz := HF.out x y z
      obtain ⟨up, hup⟩ : ∃ up, (!N.C (nm x y) && (!N.st x && !N.st y)) = up := ⟨_, rfl⟩
      rw [hup] at HU hfz
      have HX := hidIn hX
      have Hx := hidIn hx
      have R1 := hidIn (row_below r1 b1 (Nat.le_refl _))
      have R2 := hidIn r21
      have HW := hidIn hW1
      have hlen := filt_len N.E k f
      obtain ⟨xb, hxb⟩ : ∃ xb, wr.heap.size = xb := ⟨_, rfl⟩
      rw [hxb] at e0 e1 HX
      have Hxb := hidIn hxb
      have Hf := hidIn hfz
      clear r1 r2 hx hc hxr hup q0 q1 q2 hX b1 r21 hB1 hW1 hxb hfz
      go_upto_region 5 with fail
      rw [HW.out, Hxb.out]
      clear HW Hxb c0 c1' c2
      go_wp2_with fail
      refine HU.out.mono ?_
      rintro e w2 ⟨rfl, hb2⟩
      have hX2 := (hb2.block _ (block_lt HX.out)).trans HX.out
      have e0 := cell_of_row _ _ 0 _ _ _ hX2
      have e1 := cell_of_row _ _ 1 _ _ _ hX2
      have e2 := cell_of_row _ _ 2 _ _ _ hX2
      simp at e0 e1 e2
      have R3 := hidIn (row_below R1.out hb2 (Nat.le_refl _))
      have R4 := hidIn (R2.out.trans (hb2.mono R2.out.size))
      clear hb2 hX2 HU R1 R2 HX
      cases up
      · have Hy := hidIn (filt_no f Hx.out Hf.out)
        go_wp2_with fail
        go_roundw
        case rel => exact ⟨k + 1, by omega, by go_num, ⟨_, _, by rw [Hy.out]⟩, hidIn ⟨by rw [Hy.out]; exact R3.out, R4.out⟩⟩
        case measure => simp [intOf]; omega
      · have hy := filt_yes f Hx.out Hf.out
        obtain ⟨g6, cap6, w6, hrun, hown, hlie, hgr, hb6⟩ := append_edge R3.out ((x : Int), (y : Int), z) (by omega) R4.out.size
        rw [← hy] at hown
        have Hl2 : Hid (((N.E.take (k + 1)).filter f).length = ((N.E.take k).filter f).length + 1) := hidIn (by rw [hy, List.length_append]; rfl)
        have HRun := hidIn hrun
        have HO := hidIn hown
        have HB6 := hidIn (R4.out.trans (hb6.mono (Nat.le_refl _)))
        clear hrun hown hlie hgr hb6 hy
        go_wp2_with (refine l_append rfl _ _ 55 rfl HRun.out ?_)
        go_roundw
        case rel => exact ⟨k + 1, by omega, by go_num, ⟨_, _, by rw [Hl2.out]⟩, hidIn ⟨by rw [Hl2.out]; exact HO.out, HB6.out⟩⟩
        case measure => simp [intOf]; omega
    · have hke : k = n := by omega
      have hki : ¬ ((k : Int) < (n : Int)) := by omega
      have hT : N.E.take k = N.E := by rw [hke, ← Hn.out, List.take_length]
      have HT := hidIn hT
      have R1 := hidIn r1
      have R2 := hidIn r2
      clear r1 r2 hT hke
      go_wp2_with fail
      go_returns
      exact ⟨⟨_, rfl, by rw [HR.out]; have h9 := R1.out; rw [HT.out] at h9 ⊢; exact h9⟩, R2.out⟩
theorem slr_sub {w : World} {base sz : Nat} {e : TypeId} {v : Value} {n : Nat} {xs : List Value} (h : w.ownsRow base e sz v n xs) : ∃ a c, v = .slice a n c := by
  obtain ⟨a, c, h1⟩ := row_shape h
  exact ⟨a, c, h1⟩
theorem eUp_len (N : Nv) : (eUp N).length ≤ N.E.length := List.length_filter_le _ _
theorem runL_len (N : Nv) : (runL N).length ≤ N.V.length := List.length_filter_le _ _
set_option maxRecDepth 100000 in
set_option maxHeartbeats 1000000 in
theorem graph_any {w : World} {np k : Nat} {D : Nd} {N : Nv} {S : Nat → Prop} (h : NtAt w np D N S) (hk : NvOk N k) :
    Calls Try.prog 20 #[pp np] w fun e w' => (∃ v u, e = .returned (.tuple #[grV v u, .int .i64 0]) ∧ w'.ownsRow w.heap.size 3 1 v (runL N).length (fl ic (runL N)) ∧ w'.ownsRow w.heap.size 64 3 u (eUp N).length (fl ec (eUp N))) ∧ Below w.heap.size w w' := by
  obtain ⟨W0, hW0⟩ : ∃ W0, w.alloc nilG = W0 := ⟨_, rfl⟩
  have b0 : Below w.heap.size w W0 := by rw [← hW0]; exact (Below.refl _ w).alloc (Nat.le_refl _) _
  have hG : W0.heap[w.heap.size]? = some nilG := by rw [← hW0]; exact heap_alloc_last w _
  have h0 := h.below b0
  have HT := hidIn (nthere_yes h0.b.c0)
  have HR := hidIn (running_any h0 hk.v hk.vl)
  have HG := hidIn hG
  have HB := hidIn b0
  have HW := hidIn hW0
  have HK := hidIn hk
  have H0 := hidIn h0
  obtain ⟨gb, hgb⟩ : ∃ gb, w.heap.size = gb := ⟨_, rfl⟩
  rw [hgb] at HG HB ⊢
  have Hgb := hidIn hgb
  have hs0 : gb < W0.heap.size := block_lt HG.out
  clear hW0 b0 hG h0 h hk hgb
  go_enter Try.func20, Try.ntmps20
  go_upto_region 1 with fail
  rw [HW.out, Hgb.out]
  clear HW Hgb
  go_wp2_with (go_at_call 32; refine HT.out.mono ?_; rintro e w1 ⟨rfl, hw1⟩; rw [hw1]; clear hw1 w1)
  refine HR.out.mono ?_
  rintro e w1 ⟨⟨v, rfl, hv⟩, hb1⟩
  have HE := hidIn (edgesUp_any (H0.out.below hb1) HK.out.e HK.out.el)
  have hs1 := hb1.size
  have HV := hidIn hv
  have HB1 := hidIn (HB.out.trans (hb1.mono (Nat.le_of_lt hs0)))
  have HG1 := hidIn ((hb1.block _ hs0).trans HG.out)
  clear HR HT hb1 hv
  go_wp2_with fail
  refine HE.out.mono ?_
  rintro e w2 ⟨⟨u, rfl, hu⟩, hb2⟩
  have HV2 := hidIn (row_below HV.out hb2 (Nat.le_refl _))
  have HU2 := hidIn (row_low hu hs1)
  have HB2 := hidIn (HB1.out.trans (hb2.mono (by omega)))
  have hG2 := (hb2.block _ (by omega)).trans HG1.out
  have e0 := cell_of_row _ _ 0 _ _ _ hG2
  have e1 := cell_of_row _ _ 1 _ _ _ hG2
  have f0 := frozen_new hG2 0
  have f1 := frozen_new hG2 1
  simp at e0 e1
  obtain ⟨va, vc, rfl⟩ := row_shape HV2.out
  obtain ⟨ua, uc, rfl⟩ := row_shape HU2.out
  have HG2 := hidIn hG2
  obtain ⟨w3, hw3⟩ : ∃ w3, (w2.setCell ⟨gb, 0, none⟩ (.slice va (runL N).length vc)).setCell ⟨gb, 1, none⟩ (.slice ua (eUp N).length uc) = w3 := ⟨_, rfl⟩
  have hG3 : w3.heap[gb]? = some (.cells #[.slice va (runL N).length vc, .slice ua (eUp N).length uc] 57) := by
    rw [← hw3]
    exact heap_setCell_same _ gb 1 _ _ _ (heap_setCell_same w2 gb 0 _ _ _ HG2.out)
  have hF3 : Fr (fun j => j = gb) w2 w3 := by
    rw [← hw3]
    exact ((Fr.refl (fun j => j = gb) w2).set (p := ⟨gb, 0, none⟩) rfl _).set (p := ⟨gb, 1, none⟩) rfl _
  have HV3 := hidIn (row_low (row_fr HV2.out hF3 (fun j hj e => by have := (HV2.out.lt j hj).1; omega)) (Nat.le_of_lt hs0))
  have HU3 := hidIn (row_low (row_fr HU2.out hF3 (fun j hj e => by have := (HU2.out.lt j hj).1; omega)) (Nat.le_of_lt hs0))
  have HB3 := hidIn (HB2.out.trans (hF3.below (by have := HB2.out.size; have := block_lt HG2.out; omega) (fun k hk => by omega)))
  have HG3 := hidIn hG3
  have HW3 := hidIn hw3
  clear hu hb2 HE hG2 hG3 hF3 hw3
  go_wp2_with fail
  rw [HW3.out]
  have g0 := cell_of_row _ _ 0 _ _ _ HG3.out
  have g1 := cell_of_row _ _ 1 _ _ _ HG3.out
  simp at g0 g1
  refine bodyPost_ret (v := .tuple #[grV (.slice va (runL N).length vc) (.slice ua (eUp N).length uc), .int .i64 0]) (by simp [results, Try.results20, asAddr, Result.andThen, go_sem, g0, g1]) rfl ⟨⟨_, _, rfl, HV3.out, HU3.out⟩, HB3.out⟩
set_option maxRecDepth 100000 in
set_option maxHeartbeats 1000000 in
theorem near_any {w : World} {np k : Nat} {D : Nd} {N : Nv} {S : Nat → Prop} (h : NtAt w np D N S) (hk : NvOk N k) (r : Int) (hr : hasN N.V r = true) :
    Calls Try.prog 21 #[pp np, .int .i64 r] w fun e w' => (∃ v, e = .returned (.tuple #[v, .int .i64 0]) ∧ w'.ownsRow w.heap.size 68 2 v (nearL (eUp N) r).length (fl ac (nearL (eUp N) r))) ∧ Below w.heap.size w w' := by
  have hno := noRt_any h r
  rw [show noRt N r = 0 from by rw [noRt, hr]; rfl] at hno
  have HNo := hidIn hno
  have HE := hidIn (edgesUp_any h hk.e hk.el)
  have hel := Nat.le_trans (eUp_len N) hk.el
  obtain ⟨E, hE⟩ : ∃ E, eUp N = E := ⟨_, rfl⟩
  rw [hE] at HE hel ⊢
  obtain ⟨n, hn⟩ : ∃ n, E.length = n := ⟨_, rfl⟩
  rw [hn] at HE hel
  have Hn := hidIn hn
  clear h hk hr hno hE hn
  go_enter Try.func21, Try.ntmps21
  go_wp2_with (go_at_call 31; refine HNo.out.mono ?_; rintro e w1 ⟨rfl, hw1⟩; rw [hw1]; clear hw1 w1)
  refine HE.out.mono ?_
  rintro e w1 ⟨⟨v, rfl, hv⟩, hb1⟩
  have hs := slAt_of_row (cs := ec) (fun _ => rfl) hv Hn.out
  obtain ⟨aa, ca, hve, hl, hcap, hat⟩ := hs.eds
  rw [Hn.out] at hve
  subst hve
  have HA := hidIn hat
  have HB1 := hidIn hb1
  have hs1 := hb1.size
  clear hv hb1 hs hat HE HNo hl hcap
  go_wp2_with fail
  go_loopw [7, 19] (fun u i wr => ∃ k : Nat, k ≤ n ∧ i = .int .i64 k ∧ (∃ a c, u = .slice a (nearL (E.take k) r).length c) ∧ Hid (wr.ownsRow w1.heap.size 68 2 u (nearL (E.take k) r).length (fl ac (nearL (E.take k) r)) ∧ Below w1.heap.size w1 wr)) (fun _ i _ => n - (intOf i).toNat)
  case atStart => exact ⟨0, Nat.zero_le _, rfl, ⟨none, 0, rfl⟩, hidIn ⟨World.ownsRow_nil _ _ _ _, Below.refl _ _⟩⟩
  case round =>
    obtain ⟨k, hk, rfl, ⟨ua, uc, rfl⟩, HRl⟩ := hrel
    obtain ⟨r1, r2⟩ := HRl.out
    clear HRl
    by_cases hlt : k < n
    · have hki : (k : Int) < (n : Int) := by omega
      have hk9 : (k : Int) < 10000 := by omega
      obtain ⟨bk, o, rfl, hbk, hc⟩ := HA.out (by rw [Hn.out]; omega)
      obtain ⟨⟨x, y, z⟩, hx⟩ : ∃ z, E[k]? = some z := ⟨E[k]'(by rw [Hn.out]; exact hlt), List.getElem?_eq_getElem _⟩
      obtain ⟨q0, q1, q2⟩ := hc k _ hx
      have c0 := (r2.cell (p := ⟨bk, o + k * 3, none⟩) hbk).trans q0
      have c1' := (r2.cell (p := ⟨bk, o + k * 3 + 1, none⟩) hbk).trans q1
      have c2 := (r2.cell (p := ⟨bk, o + k * 3 + 2, none⟩) hbk).trans q2
      simp only at c0 c1' c2
      obtain ⟨W1, hW1⟩ : ∃ W1, wr.alloc (.cells #[.int .i64 x, .int .i64 y, .int .i64 z] 64) = W1 := ⟨_, rfl⟩
      have b1 : Below wr.heap.size wr W1 := by rw [← hW1]; exact (Below.refl _ wr).alloc (Nat.le_refl _) _
      have hX : W1.heap[wr.heap.size]? = some (.cells #[.int .i64 x, .int .i64 y, .int .i64 z] 64) := by rw [← hW1]; exact heap_alloc_last wr _
      have e0 := cell_of_row _ _ 0 _ _ _ hX
      have e1 := cell_of_row _ _ 1 _ _ _ hX
      have e2 := cell_of_row _ _ 2 _ _ _ hX
      simp at e0 e1 e2
      have HX := hidIn hx
      have R1 := hidIn (row_below r1 b1 (Nat.le_refl _))
      have R2 := hidIn (r2.trans (b1.mono r2.size))
      have HW := hidIn hW1
      have hlen := Nat.le_trans (nearL_length (E.take k) r) (by rw [List.length_take]; exact Nat.min_le_left _ _)
      obtain ⟨xb, hxb⟩ : ∃ xb, wr.heap.size = xb := ⟨_, rfl⟩
      rw [hxb] at e0 e1 e2
      have Hxb := hidIn hxb
      clear r1 r2 hx hc q0 q1 q2 hX b1 hW1 hxb
      go_upto_region 8 with fail
      rw [HW.out, Hxb.out]
      clear HW Hxb c0 c1' c2
      by_cases hxr : x = r
      · subst hxr
        have hy : nearL (E.take (k + 1)) x = nearL (E.take k) x ++ [(y, z)] := by rw [take_snoc HX.out, nearL_snoc_yes]
        obtain ⟨g6, cap6, w6, hrun, hown, hlie, hgr, hb6⟩ := append_adj R1.out (y, z) (by omega) R2.out.size
        rw [← hy] at hown
        have Hl2 : Hid ((nearL (E.take (k + 1)) x).length = (nearL (E.take k) x).length + 1) := hidIn (by rw [hy, List.length_append]; rfl)
        have HRun := hidIn hrun
        have HO := hidIn hown
        have HB6 := hidIn (R2.out.trans (hb6.mono (Nat.le_refl _)))
        clear hrun hown hlie hgr hb6 hy
        go_wp2_with (refine l_append rfl _ _ 60 rfl HRun.out ?_)
        go_roundw
        case rel => exact ⟨k + 1, by omega, by go_num, ⟨_, _, by rw [Hl2.out]⟩, hidIn ⟨by rw [Hl2.out]; exact HO.out, HB6.out⟩⟩
        case measure => simp [intOf]; omega
      · have Hy : Hid (nearL (E.take (k + 1)) r = nearL (E.take k) r) := hidIn (by rw [take_snoc HX.out, nearL_snoc_no hxr])
        go_wp2_with fail
        go_roundw
        case rel => exact ⟨k + 1, by omega, by go_num, ⟨_, _, by rw [Hy.out]⟩, hidIn ⟨by rw [Hy.out]; exact R1.out, R2.out⟩⟩
        case measure => simp [intOf]; omega
    · have hke : k = n := by omega
      have hki : ¬ ((k : Int) < (n : Int)) := by omega
      have hT : E.take k = E := by rw [hke, ← Hn.out, List.take_length]
      have HT := hidIn hT
      have R1 := hidIn (row_low r1 hs1)
      have R2 := hidIn (HB1.out.trans (r2.mono hs1))
      clear r1 r2 hT hke
      go_wp2_with fail
      go_returns
      exact ⟨⟨_, rfl, by have h9 := R1.out; rw [HT.out] at h9 ⊢; exact h9⟩, R2.out⟩
set_option maxRecDepth 100000 in
theorem near_no {w : World} {np : Nat} {D : Nd} {N : Nv} {S : Nat → Prop} (h : NtAt w np D N S) (r : Int) (hr : hasN N.V r = false) :
    Calls Try.prog 21 #[pp np, .int .i64 r] w fun e w' => e = .returned (.tuple #[.slice none 0 0, .int .i64 2]) ∧ w' = w := by
  have hno := noRt_any h r
  rw [show noRt N r = 2 from by rw [noRt, hr]; rfl] at hno
  have HNo := hidIn hno
  clear h hr hno
  go_enter Try.func21, Try.ntmps21
  go_wp2_with (go_at_call 31; refine HNo.out.mono ?_; rintro e w1 ⟨rfl, hw1⟩; rw [hw1]; clear hw1 w1)
  go_returns
  exact ⟨rfl, rfl⟩
end Go.Proofs.Ytkhfpcnmnnboeaa.Nt
namespace Go.Proofs.Ytkhfpcnmnnboeaa.Nt
open Go.RowKit Go.Proofs.Ytkhfpcnmnnboeaa.Fa

theorem rok_all : ∀ (ns : List Int) (f : Nat → Bool), rOk f ns = true → ∀ n ∈ ns, isR n = true
  | [], _, _, n, hn => by simp at hn
  | x :: ns, f, h, n, hn => by
    simp [rOk] at h
    rcases List.mem_cons.1 hn with rfl | hn
    · exact h.1
    · exact rok_all ns _ h.2.2 n hn
theorem rF_zero9 : ∀ (ns : List Int) (f : Nat → Bool), (∀ n ∈ ns, isR n = true) → f 0 = false → rF f ns 0 = false
  | [], _, _, h0 => h0
  | x :: ns, f, h, h0 => by
    show rF (mk1 f x.toNat) ns 0 = false
    refine rF_zero9 ns _ (fun n hn => h n (List.mem_cons_of_mem _ hn)) ?_
    have hx := isR_iff.1 (h x (List.mem_cons_self ..))
    unfold mk1
    rw [if_neg (by omega)]
    exact h0
/-- Both are routers, unlike. -/
def pOk (a b : Nat) : Prop := (1 ≤ a ∧ a ≤ 24) ∧ (1 ≤ b ∧ b ≤ 24) ∧ a ≠ b
theorem lk_bd9 (F : Nat → Bool) : ∀ (ls : List Ed) (c : Nat → Nat → Int), (∀ a b, c a b ≠ 0 → pOk a b) → lkC F c ls = 0 → ∀ a b, lkF c ls a b ≠ 0 → pOk a b
  | [], _, h, _ => h
  | k :: ls, c, h, h0 => by
    cases hk : lkOk F k
    · rw [lkC_bad hk] at h0; omega
    · by_cases hz : c k.1.toNat k.2.1.toNat = 0
      · rw [lkC_on hk hz] at h0
        show ∀ a b, lkF (put4 c k) ls a b ≠ 0 → pOk a b
        refine lk_bd9 F ls _ (fun a b hab => ?_) h0
        obtain ⟨p1, p2, _, _, p3, _⟩ := lkOk_parts hk
        unfold put4 put2 at hab
        by_cases e1 : a = k.2.1.toNat ∧ b = k.1.toNat
        · exact ⟨by omega, by omega, by omega⟩
        · rw [if_neg e1] at hab
          by_cases e2 : a = k.1.toNat ∧ b = k.2.1.toNat
          · exact ⟨by omega, by omega, by omega⟩
          · rw [if_neg e2] at hab
            exact h a b hab
      · rw [lkC_busy hk hz] at h0; omega
theorem of_parts {ns : List Int} {ls : List Ed} (h : ofC ns ls = 0) : rOk no1 ns = true ∧ ls.length ≤ 48 ∧ lkC (rF no1 ns) no2 ls = 0 := by
  unfold ofC at h
  by_cases h1 : rOk no1 ns = true
  · rw [if_pos h1] at h
    by_cases h2 : ls.length ≤ 48
    · rw [if_pos h2] at h
      exact ⟨h1, h2, h⟩
    · rw [if_neg h2] at h; omega
  · rw [if_neg h1] at h; omega
theorem ofN_bd {ns : List Int} {ls : List Ed} (h : ofC ns ls = 0) : (∀ x ∈ ofN ns ls, 1 ≤ x ∧ x ≤ 24) ∧ (ofN ns ls).length ≤ 25 := by
  have hp := of_parts h
  have h0 := rF_zero9 ns no1 (rok_all ns no1 hp.1) rfl
  unfold ofN
  rw [if_pos h]
  unfold markedL
  refine ⟨fun x hx => ?_, ?_⟩
  · obtain ⟨i, hi, rfl⟩ := List.mem_map.1 hx
    obtain ⟨h1, h2⟩ := List.mem_filter.1 hi
    rw [List.mem_range] at h1
    have : i ≠ 0 := fun e => by rw [e, h0] at h2; cases h2
    omega
  · rw [List.length_map]
    exact Nat.le_trans (List.length_filter_le _ _) (by simp)
theorem laidE_mem {c : Nat → Nat → Int} {e : Ed} (h : e ∈ laidE c) : ∃ a b : Nat, e = ((a : Int), (b : Int), c a b) ∧ 0 < c a b := by
  unfold laidE at h
  obtain ⟨a, _, h1⟩ := List.mem_flatMap.1 h
  unfold rowE at h1
  obtain ⟨b, h2, rfl⟩ := List.mem_map.1 h1
  have h3 := (List.mem_filter.1 h2).2
  simp at h3
  exact ⟨a, b, rfl, h3.1⟩
theorem rows_len (c : Nat → Nat → Int) : ∀ l : List Nat, (l.flatMap fun a => rowE c a (List.range 25)).length ≤ l.length * 25
  | [] => by simp
  | a :: l => by
    have h1 : (rowE c a (List.range 25)).length ≤ 25 := by
      unfold rowE
      rw [List.length_map]
      exact Nat.le_trans (List.length_filter_le _ _) (by simp)
    have h2 := rows_len c l
    rw [List.flatMap_cons, List.length_append, List.length_cons]
    omega
theorem ofE_bd {ns : List Int} {ls : List Ed} (h : ofC ns ls = 0) : (∀ x ∈ ofE ns ls, (1 ≤ x.1 ∧ x.1 ≤ 24) ∧ (1 ≤ x.2.1 ∧ x.2.1 ≤ 24) ∧ x.1 ≠ x.2.1) ∧ (ofE ns ls).length ≤ 1000 := by
  have hp := of_parts h
  unfold ofE
  rw [if_pos h]
  refine ⟨fun x hx => ?_, ?_⟩
  · obtain ⟨a, b, rfl, h1⟩ := laidE_mem hx
    obtain ⟨q1, q2, q3⟩ := lk_bd9 _ ls no2 (fun a b hab => absurd rfl hab) hp.2.2 a b (by omega)
    dsimp only
    omega
  · have := rows_len (lkF no2 ls) (List.range 25)
    unfold laidE
    simp at this ⊢
    omega
/-- A new net. -/
def newN (ns : List Int) (ls : List Ed) (R : List Ru) (lt : Int) : Nv := { V := ofN ns ls, E := ofE ns ls, lt := lt, R := R, A := no2, L := [], p := 0, q := 0, C := fun _ => false, st := no1, now := 0 }
theorem new_nvOk {ns : List Int} {ls : List Ed} {R : List Ru} {lt : Int} (h : ofC ns ls = 0) (hl : 1 ≤ lt ∧ lt ≤ 64) (hR : RsOk R) : NvOk (newN ns ls R lt) 0 :=
  ⟨(ofN_bd h).1, (ofN_bd h).2, (ofE_bd h).1, (ofE_bd h).2, hl, Nat.zero_le _, Nat.le_refl _, fun _ _ => ⟨Int.le_refl _, by show (0 : Int) ≤ _; omega⟩, ⟨Int.le_refl _, by show (0 : Int) ≤ _; omega⟩, (fun b hb => nomatch hb), Nat.zero_le _, hR⟩
theorem builtNt (lt : Int) (P m cp cm : Nat) (nv ev : Value) (hn : ∃ a n c, nv = .slice a n c) (he : ∃ a n c, ev = .slice a n c) : Try.prog.built 76 [(1, grV nv ev), (2, .int .i64 lt), (3, pp P), (4, pp cp), (5, .map (some cm))] = some (ntV nilQ ⟨P, m, cp, cm, nv, ev⟩ lt no1 0).toArray := by
  obtain ⟨a, n, c, rfl⟩ := hn
  obtain ⟨a2, n2, c2, rfl⟩ := he
  kernel_rfl
theorem net_made {w5 : World} {B a b P m cp cm : Nat} {nv ev : Value} {ns : List Int} {ls : List Ed} {R : List Ru} {lt : Int} {S : Nat → Prop} (hv : w5.ownsRow B 3 1 nv (ofN ns ls).length (fl ic (ofN ns ls))) (he : w5.ownsRow B 64 3 ev (ofE ns ls).length (fl ec (ofE ns ls)))
    (hva : ∀ j, nv.ownBlock = some j → j < a) (hea : ∀ j, ev.ownBlock = some j → j < a) (hp : PlAt w5 P m R no2) (hBa : B ≤ a) (hP : a ≤ P ∧ P < b) (hm : a ≤ m ∧ m < b) (hca : Ca.A.Cal w5 S cp [] 0) (hS : ∀ j, S j → b ≤ j ∧ j < w5.heap.size) (hcu : MpC w5 cm 0 (fun _ => false)) (hcb : b ≤ cm) (hSc : ¬ S cm) (Z : Nat → Prop) (hZ : ∀ j, Z j → j < B) :
    NetZ ((w5.alloc (.cells (ntV nilQ ⟨P, m, cp, cm, nv, ev⟩ lt no1 0).toArray 76)).setCell ⟨w5.heap.size, 0, none⟩ (pp w5.heap.size)) Z w5.heap.size (newN ns ls R lt) := by
  obtain ⟨W6, hW6⟩ : ∃ W6, w5.alloc (.cells (ntV nilQ ⟨P, m, cp, cm, nv, ev⟩ lt no1 0).toArray 76) = W6 := ⟨_, rfl⟩
  have b6 : Below w5.heap.size w5 W6 := by rw [← hW6]; exact (Below.refl _ w5).alloc (Nat.le_refl _) _
  have hA : Arr W6 w5.heap.size 76 (ntV nilQ ⟨P, m, cp, cm, nv, ev⟩ lt no1 0) := by rw [← hW6]; exact arr_new w5 _ _
  rw [hW6]
  have hb7 : NtB (W6.setCell ⟨w5.heap.size, 0, none⟩ (pp w5.heap.size)) w5.heap.size ⟨P, m, cp, cm, nv, ev⟩ lt no1 0 := hA.set 0 (pp w5.heap.size)
  have hF : Fr (fun j => j = w5.heap.size) w5 (W6.setCell ⟨w5.heap.size, 0, none⟩ (pp w5.heap.size)) := ((Fr.of_below (S := fun j => j = w5.heap.size) b6)).set (p := ⟨w5.heap.size, 0, none⟩) rfl _
  have hPl := hp.b.lt
  have hml := hp.m.lt
  have hcl := hcu.lt
  have hsz := hF.size
  have hne := hp.ne
  refine ⟨⟨⟨P, m, cp, cm, nv, ev⟩, S, ⟨hb7, row_low (row_fr hv hF (fun j hj e => by have := (hv.lt j hj).2; omega)) (Nat.zero_le _), row_low (row_fr he hF (fun j hj e => by have := (he.lt j hj).2; omega)) (Nat.zero_le _), hp.keep hF (by omega) (by omega), hca.keep hF (fun k hk e => by have := hS k hk; omega), hcu.keep hF (by omega), ?_⟩, fun j hj hz => ?_, fun j hj => by have := hS j hj; omega⟩, fun j hz => by have := hZ j hz; omega⟩
  · refine ⟨fun h => by have := hS _ h; omega, fun h => by have := hS _ h; dsimp only at this; omega, fun h => by have := hS _ h; dsimp only at this; omega, hSc, by dsimp only; omega, by dsimp only; omega, by dsimp only; omega, by dsimp only; omega, by dsimp only; omega, fun j hj => ?_, fun j hj => ?_⟩
    · have h1 := hva j hj
      have h2 := (hv.lt j hj).2
      dsimp only
      exact ⟨fun h => by have := hS _ h; omega, by omega, by omega, by omega, by omega⟩
    · have h1 := hea j hj
      have h2 := (he.lt j hj).2
      dsimp only
      exact ⟨fun h => by have := hS _ h; omega, by omega, by omega, by omega, by omega⟩
  · have hz' := hZ j hz
    rcases hj with hj | hj | hj | hj | hj | hj | hj
    · omega
    · dsimp only at hj; omega
    · dsimp only at hj; omega
    · dsimp only at hj; omega
    · have := (hv.lt j hj).1; omega
    · have := (he.lt j hj).1; omega
    · have := hS j hj; omega
/-- What New is refused with. -/
def newE (ns : List Int) (ls : List Ed) (R : List Ru) (lt : Int) : Int := if ofC ns ls = 0 then (if 1 ≤ lt ∧ lt ≤ 64 then (chkR R).2 else 2) else ofC ns ls
/-- What is laid ahead of the net's block stays. -/
structure NwR (gb : Nat) (nv ev : Value) (wq : World) : Prop where
  a : wq.cell? ⟨gb, 0, none⟩ = some nv
  b : wq.cell? ⟨gb, 1, none⟩ = some ev
set_option maxRecDepth 100000 in
set_option maxHeartbeats 4000000 in
theorem new_ok {w : World} {ns : List Int} {ls : List Ed} {R : List Ru} {lt : Int} {v u r : Value} (hv : SlAt ic 1 w v ns) (hu : SlAt ec 3 w u ls) (hr : SlAt ruC 5 w r R) (h0 : ofC ns ls = 0) (hl : 1 ≤ lt ∧ lt ≤ 64) (hc : chkR R = (0, 0)) :
    Calls Try.prog 19 #[v, u, r, .int .i64 lt] w fun e w' => (∃ np, e = .returned (.tuple #[pp np, .int .i64 0]) ∧ ∀ Z : Nat → Prop, (∀ j, Z j → j < w.heap.size) → NetZ w' Z np (newN ns ls R lt)) ∧ Below w.heap.size w w' := by
  have HOf := hidIn (of_any hv hu)
  have HF := hidIn (fun w1 (hb : Below w.heap.size w w1) => fnew_ok (hr.keep hb (Nat.le_refl _)) hc)
  have HN := fun w => hidIn (Ca.A.new_ok w)
  have H0 := hidIn h0
  have hmm : ∀ w : World, (Instr.makeMap 73 none).run Try.prog w = .ok (.map (some w.heap.size)) (w.alloc (.map #[] 0)) := fun w => by kernel_rfl
  obtain ⟨a1, c1, rfl, _⟩ := hv.ints
  obtain ⟨a2, c2, rfl, _⟩ := hu.eds
  obtain ⟨a3, c3, rfl, _⟩ := hr
  clear hv hu h0 hc
  go_enter Try.func19, Try.ntmps19
  go_wp2_with fail
  refine HOf.out.mono ?_
  rintro e w1 ⟨⟨ua, ucap, va, vcap, rfl, hrv, hre⟩, hb1⟩
  rw [H0.out]
  obtain ⟨gb, hgb⟩ : ∃ gb, w1.heap.size = gb := ⟨_, rfl⟩
  obtain ⟨W2, hW2⟩ : ∃ W2, w1.alloc (.cells #[.slice ua (ofN ns ls).length ucap, .slice va (ofE ns ls).length vcap] 57) = W2 := ⟨_, rfl⟩
  have b2 : Below w1.heap.size w1 W2 := by rw [← hW2]; exact (Below.refl _ w1).alloc (Nat.le_refl _) _
  have hG2 : W2.heap[gb]? = some (.cells #[.slice ua (ofN ns ls).length ucap, .slice va (ofE ns ls).length vcap] 57) := by rw [← hW2, ← hgb]; exact heap_alloc_last w1 _
  have Hr1 := hidIn hrv
  have He1 := hidIn hre
  have Hb1 := hidIn hb1
  have Hb2 := hidIn b2
  have HG2 := hidIn hG2
  have HW2 := hidIn hW2
  have Hgb := hidIn hgb
  have HF2 := hidIn (HF.out W2 (hb1.trans (b2.mono hb1.size)))
  have hlt1 : ¬ lt < 1 := by omega
  have hlt2 : ¬ (64 : Int) < lt := by omega
  clear hrv hre hb1 b2 hG2 hW2 hgb HOf HF
  go_upto_region 4 with fail
  rw [Hgb.out]
  try rw [HW2.out]
  go_wp2_with fail
  refine HF2.out.mono ?_
  rintro e w3 ⟨P, m, rfl, hp, hP, hm, hb3⟩
  have hgw : w.heap.size ≤ gb := by have := Hb1.out.size; have := Hgb.out; omega
  have hs2 : W2.heap.size = gb + 1 := by rw [← HW2.out, ← Hgb.out]; simp
  obtain ⟨b3, hb39⟩ : ∃ b, w3.heap.size = b := ⟨_, rfl⟩
  have hPb : gb ≤ P ∧ P < b3 := ⟨by omega, by rw [← hb39]; exact hp.b.lt⟩
  have hmb : gb ≤ m ∧ m < b3 := ⟨by omega, by rw [← hb39]; exact hp.m.lt⟩
  have hsd : w3.drew.heap.size = b3 := hb39
  have HP3 := hidIn hp
  have HB3 : Hid (Below gb w1 w3) := hidIn (by
    have h1 := Hb2.out
    rw [Hgb.out] at h1
    exact h1.trans (hb3.mono (by omega)))
  have hgb3 : gb < b3 := by have := hb3.size; omega
  obtain ⟨NV, hNV⟩ : ∃ v, Value.slice ua (ofN ns ls).length ucap = v := ⟨_, rfl⟩
  obtain ⟨EV, hEV⟩ : ∃ v, Value.slice va (ofE ns ls).length vcap = v := ⟨_, rfl⟩
  have HX : Hid (∀ wq, Below (gb + 1) w3.drew wq → NwR gb NV EV wq) := hidIn (fun wq hq => by
    have h1 := (hb3.block gb (by omega)).trans HG2.out
    have h2 : wq.heap[gb]? = w3.heap[gb]? := hq.block gb (by omega)
    have h3 := h2.trans h1
    rw [hNV, hEV] at h3
    exact ⟨cell_of_row _ _ 0 _ _ _ h3, cell_of_row _ _ 1 _ _ _ h3⟩)
  have Hv := hidIn hNV
  have He := hidIn hEV
  rw [hNV] at Hr1
  rw [hEV] at He1
  clear hp hP hm hb3 HF2
  go_upto_region 9 with fail
  clear hNV hEV
  refine wp_region_held_drew (S := fun wx => NwR gb NV EV wx) (by kernel_rfl) ?_ (fun hHeld => ?_)
  · exact HX.out _ (Below.refl _ _)
  have hd0 : NwR gb NV EV w3.drew := HX.out _ (Below.refl _ _)
  clear hHeld
  refine wpAnyH_take (i := 0) (v := grV NV EV) rfl (by kernel_rfl) (by kernel_rfl) (by kernel_rfl) (fun _ _ _ h => h) (Or.inl ⟨by kernel_rfl, fun wq hSw => by
      obtain ⟨s0, s1⟩ := hSw
      go_simp⟩) (by assumption) ?_
  refine wpAnyH_take (i := 1) (v := .int .i64 lt) rfl (by kernel_rfl) (by kernel_rfl) (by kernel_rfl) (fun _ _ _ h => h) (Or.inl ⟨by kernel_rfl, fun _ _ => by kernel_rfl⟩) (by assumption) ?_
  refine wpAnyH_take (i := 2) (v := pp P) rfl (by kernel_rfl) (by kernel_rfl) (by kernel_rfl) (fun _ _ _ h => h) (Or.inl ⟨by kernel_rfl, fun _ _ => by kernel_rfl⟩) (by assumption) ?_
  refine wpAnyH_ready (rs := [3, 4]) (by kernel_rfl) (by simp) ?_
  refine AllReadyH.cons (i := 3) rfl ?_ (AllReadyH.cons (i := 4) rfl ?_ AllReadyH.nil)
  · go_simp
    intro K hK
    refine (HN _).out.mono ?_
    rintro e w4 ⟨cp, rfl, hca, hb4⟩
    have hx4 : NwR gb NV EV w4 := HX.out w4 (hb4.mono (by rw [hsd]; omega))
    refine hK.out _ _ hx4 (fun _ => ?_)
    clear hK K
    refine wpAnyH_ready (rs := [4]) (by kernel_rfl) (by simp) ?_
    refine AllReadyH.cons (i := 4) rfl ?_ AllReadyH.nil
    go_simp
    intro K hK
    obtain ⟨w5, hw5⟩ : ∃ w5, w4.alloc (.map #[] 0) = w5 := ⟨_, rfl⟩
    have hb5 : Below w4.heap.size w4 w5 := by rw [← hw5]; exact (Below.refl _ w4).alloc (Nat.le_refl _) _
    have hmc : MpC w5 w4.heap.size 0 (fun _ => false) := by rw [← hw5]; exact mpC_new w4
    obtain ⟨cm, hcm⟩ : ∃ cm, w4.heap.size = cm := ⟨_, rfl⟩
    have hca5 := (hca.keep (T := fun _ => False) (Fr.of_below hb5) (fun _ _ h => h)).mono (T := fun k => b3 ≤ k ∧ k < cm) (fun k _ hk => ⟨by have := hk.1; rw [hsd] at this; exact this, by rw [← hcm]; exact hk.2⟩)
    have hs4 : b3 ≤ w4.heap.size := by have := hb4.size; rw [hsd] at this; exact this
    have hb43 : Below b3 w3 w4 := ((Below.refl _ w3).drew).trans (hb4.mono (by rw [hsd]; omega))
    have hbA : Below gb w1 w5 := HB3.out.trans ((hb43.mono (by omega)).trans (hb5.mono (by omega)))
    have hpA : PlAt w5 P m R no2 := (HP3.out.below hb43 hPb.2 hmb.2).below (hb5.mono (by omega)) (by omega) (by omega)
    have hs5 : w4.heap.size < w5.heap.size := hmc.lt
    rw [hcm] at hmc hs5 hs4
    have hx5 : NwR gb NV EV w5 := HX.out w5 ((hb4.mono (by rw [hsd]; omega)).trans (hb5.mono (by omega)))
    have Hcu := hidIn hmc
    have HSc : Hid (∀ j, (b3 ≤ j ∧ j < cm) → b3 ≤ j ∧ j < w5.heap.size) := hidIn (fun j hj => ⟨hj.1, by omega⟩)
    have HSm : Hid (¬ (b3 ≤ cm ∧ cm < cm)) := hidIn (fun h => by omega)
    have HW5 := hidIn hw5
    rw [hw5, hcm]
    refine hK.out _ _ hx5 (fun _ => ?_)
    clear hK K hw5 hca hb4 hb43 hx4 hb5 hmc hcm
    refine wpAnyH_take (i := 5) (v := .agg (ntV nilQ ⟨P, m, cp, cm, NV, EV⟩ lt no1 0).toArray) rfl (by kernel_rfl) (by kernel_rfl) (by kernel_rfl) (fun _ _ _ h => h) (Or.inl ⟨by kernel_rfl, fun _ _ => by kernel_rfl⟩) (by assumption) ?_
    have HFin := hidIn (fun Z hZ => net_made (w5 := w5) (B := w.heap.size) (a := gb) (b := b3) (ns := ns) (ls := ls) (R := R) (lt := lt) (cp := cp) (row_below Hr1.out hbA (Nat.le_of_eq Hgb.out)) (row_below He1.out hbA (Nat.le_of_eq Hgb.out)) (fun j hj => by have := (Hr1.out.lt j hj).2; rw [Hgb.out] at this; exact this) (fun j hj => by have := (He1.out.lt j hj).2; rw [Hgb.out] at this; exact this) hpA hgw hPb hmb hca5 HSc.out Hcu.out hs4 HSm.out Z hZ)
    have hbw : Below w.heap.size w w5 := Hb1.out.trans (hbA.mono hgw)
    obtain ⟨NL, hNL⟩ : ∃ NL, (ntV nilQ ⟨P, m, cp, cm, NV, EV⟩ lt no1 0).toArray = NL := ⟨_, rfl⟩
    obtain ⟨w6, hw6⟩ : ∃ w6, w5.alloc (.cells NL 76) = w6 := ⟨_, rfl⟩
    have hA6 : w6.heap[w5.heap.size]? = some (.cells NL 76) := by rw [← hw6]; exact heap_alloc_last w5 _
    have hx6 : NwR gb NV EV w6 := by
      have hb6 : Below w5.heap.size w5 w6 := by rw [← hw6]; exact (Below.refl _ w5).alloc (Nat.le_refl _) _
      have hsz := hbA.size
      exact ⟨(hb6.cell (p := ⟨gb, 0, none⟩) (by show gb < _; have := block_lt_of_cell hx5.a; exact this)).trans hx5.a, (hb6.cell (p := ⟨gb, 1, none⟩) (by show gb < _; have := block_lt_of_cell hx5.b; exact this)).trans hx5.b⟩
    have hB7 : Below w.heap.size w (w6.setCell ⟨w5.heap.size, 0, none⟩ (pp w5.heap.size)) := by
      rw [← hw6]
      exact (hbw.alloc hbw.size _).setCell (p := ⟨w5.heap.size, 0, none⟩) hbw.size _
    obtain ⟨np, hnp⟩ : ∃ np, w5.heap.size = np := ⟨_, rfl⟩
    rw [hNL] at HFin ⊢
    rw [hw6, hnp] at HFin
    rw [hnp] at hA6 hB7
    have HA6 := hidIn hA6
    have HB7 := hidIn hB7
    have HW6 := hidIn hw6
    have Hnp := hidIn hnp
    have z0 : w6.cell? ⟨np, 0, none⟩ = some nilQ := by
      rw [cell_of_row _ _ 0 _ _ _ hA6, ← hNL]
      rfl
    have zf := frozen_new hA6 0
    clear hbA hpA hca5 hbw hNL hw6 hA6 hB7 hnp
    refine wpAnyH_ready (rs := [6]) (by kernel_rfl) (by simp) ?_
    refine AllReadyH.cons (i := 6) rfl ?_ AllReadyH.nil
    go_simp
    intro K hK
    rw [HW6.out, Hnp.out]
    refine hK.out _ _ hx6 (fun _ => ?_)
    clear hK K
    refine wpAnyH_ready (rs := [7]) (by kernel_rfl) (by simp) ?_
    refine AllReadyH.cons (i := 7) rfl ?_ AllReadyH.nil
    go_simp
    intro K hK
    refine hK.out _ _ hx6 (fun _ => ?_)
    clear hK K
    refine wpAnyH_done (by kernel_rfl) ?_ _
    go_wp2_with fail
    go_returns
    exact ⟨⟨_, rfl, fun Z hZ => HFin.out Z hZ⟩, HB7.out⟩
  · go_simp
    intro K hK
    obtain ⟨w4, hw4⟩ : ∃ w4, (w3.alloc (.map #[] 0)).drew = w4 := ⟨_, rfl⟩
    have hb4 : Below b3 w3 w4 := by rw [← hw4]; exact ((Below.refl _ w3).alloc (by rw [hb39]; omega) _).drew
    have hmc : MpC w4 b3 0 (fun _ => false) := by rw [← hw4, ← hb39]; exact mpC_new w3
    have hs4 : w4.heap.size = b3 + 1 := by rw [← hw4]; simp [World.drew, hb39]
    have hx4 : NwR gb NV EV w4 := by rw [← hw4]; exact HX.out _ (show Below (gb + 1) w3.drew (w3.drew.alloc (.map #[] 0)) from (Below.refl _ w3.drew).alloc (by rw [hsd]; omega) _)
    rw [hw4]
    try rw [hsd]
    refine hK.out _ _ hx4 (fun _ => ?_)
    clear hK K hw4
    refine wpAnyH_ready (rs := [3]) (by kernel_rfl) (by simp) ?_
    refine AllReadyH.cons (i := 3) rfl ?_ AllReadyH.nil
    go_simp
    intro K hK
    refine (HN _).out.mono ?_
    rintro e w5 ⟨cp, rfl, hca, hb5⟩
    obtain ⟨cm, hcm⟩ : ∃ cm, b3 = cm := ⟨_, rfl⟩
    have hx5 : NwR gb NV EV w5 := ⟨(hb5.cell (p := ⟨gb, 0, none⟩) (by show gb < _; omega)).trans hx4.a, (hb5.cell (p := ⟨gb, 1, none⟩) (by show gb < _; omega)).trans hx4.b⟩
    refine hK.out _ _ hx5 (fun _ => ?_)
    clear hK K
    have hbA : Below gb w1 w5 := HB3.out.trans ((hb4.mono (by omega)).trans (hb5.mono (by omega)))
    have hpA : PlAt w5 P m R no2 := (HP3.out.below hb4 hPb.2 hmb.2).below (hb5.mono (by omega)) hPb.2 hmb.2
    have Hcu := hidIn (hmc.below hb5 (by omega))
    have hca5 := hca
    have HSc : Hid (∀ j, (w4.heap.size ≤ j ∧ j < w5.heap.size) → b3 ≤ j ∧ j < w5.heap.size) := hidIn (fun j hj => ⟨by omega, hj.2⟩)
    have HSm : Hid (¬ (w4.heap.size ≤ cm ∧ cm < w5.heap.size)) := hidIn (fun h => by omega)
    rw [hcm] at Hcu ⊢
    have hs4 : b3 ≤ cm := by omega
    clear hca hb4 hb5 hmc
    refine wpAnyH_take (i := 5) (v := .agg (ntV nilQ ⟨P, m, cp, cm, NV, EV⟩ lt no1 0).toArray) rfl (by kernel_rfl) (by kernel_rfl) (by kernel_rfl) (fun _ _ _ h => h) (Or.inl ⟨by kernel_rfl, fun _ _ => by kernel_rfl⟩) (by assumption) ?_
    have HFin := hidIn (fun Z hZ => net_made (w5 := w5) (B := w.heap.size) (a := gb) (b := b3) (ns := ns) (ls := ls) (R := R) (lt := lt) (cp := cp) (row_below Hr1.out hbA (Nat.le_of_eq Hgb.out)) (row_below He1.out hbA (Nat.le_of_eq Hgb.out)) (fun j hj => by have := (Hr1.out.lt j hj).2; rw [Hgb.out] at this; exact this) (fun j hj => by have := (He1.out.lt j hj).2; rw [Hgb.out] at this; exact this) hpA hgw hPb hmb hca5 HSc.out Hcu.out hs4 HSm.out Z hZ)
    have hbw : Below w.heap.size w w5 := Hb1.out.trans (hbA.mono hgw)
    obtain ⟨NL, hNL⟩ : ∃ NL, (ntV nilQ ⟨P, m, cp, cm, NV, EV⟩ lt no1 0).toArray = NL := ⟨_, rfl⟩
    obtain ⟨w6, hw6⟩ : ∃ w6, w5.alloc (.cells NL 76) = w6 := ⟨_, rfl⟩
    have hA6 : w6.heap[w5.heap.size]? = some (.cells NL 76) := by rw [← hw6]; exact heap_alloc_last w5 _
    have hx6 : NwR gb NV EV w6 := by
      have hb6 : Below w5.heap.size w5 w6 := by rw [← hw6]; exact (Below.refl _ w5).alloc (Nat.le_refl _) _
      have hsz := hbA.size
      exact ⟨(hb6.cell (p := ⟨gb, 0, none⟩) (by show gb < _; have := block_lt_of_cell hx5.a; exact this)).trans hx5.a, (hb6.cell (p := ⟨gb, 1, none⟩) (by show gb < _; have := block_lt_of_cell hx5.b; exact this)).trans hx5.b⟩
    have hB7 : Below w.heap.size w (w6.setCell ⟨w5.heap.size, 0, none⟩ (pp w5.heap.size)) := by
      rw [← hw6]
      exact (hbw.alloc hbw.size _).setCell (p := ⟨w5.heap.size, 0, none⟩) hbw.size _
    obtain ⟨np, hnp⟩ : ∃ np, w5.heap.size = np := ⟨_, rfl⟩
    rw [hNL] at HFin ⊢
    rw [hw6, hnp] at HFin
    rw [hnp] at hA6 hB7
    have HA6 := hidIn hA6
    have HB7 := hidIn hB7
    have HW6 := hidIn hw6
    have Hnp := hidIn hnp
    have z0 : w6.cell? ⟨np, 0, none⟩ = some nilQ := by
      rw [cell_of_row _ _ 0 _ _ _ hA6, ← hNL]
      rfl
    have zf := frozen_new hA6 0
    clear hbA hpA hca5 hbw hNL hw6 hA6 hB7 hnp
    refine wpAnyH_ready (rs := [6]) (by kernel_rfl) (by simp) ?_
    refine AllReadyH.cons (i := 6) rfl ?_ AllReadyH.nil
    go_simp
    intro K hK
    rw [HW6.out, Hnp.out]
    refine hK.out _ _ hx6 (fun _ => ?_)
    clear hK K
    refine wpAnyH_ready (rs := [7]) (by kernel_rfl) (by simp) ?_
    refine AllReadyH.cons (i := 7) rfl ?_ AllReadyH.nil
    go_simp
    intro K hK
    refine hK.out _ _ hx6 (fun _ => ?_)
    clear hK K
    refine wpAnyH_done (by kernel_rfl) ?_ _
    go_wp2_with fail
    go_returns
    exact ⟨⟨_, rfl, fun Z hZ => HFin.out Z hZ⟩, HB7.out⟩
end Go.Proofs.Ytkhfpcnmnnboeaa.Nt
namespace Go.Proofs.Ytkhfpcnmnnboeaa.Nt
open Go.RowKit Go.Proofs.Ytkhfpcnmnnboeaa.Fa

theorem eqI (d : Nat) (x y : Int) (w : World) : (Op.equalIn (d + 1) 3 (.int .i64 x) (.int .i64 y)).run Try.prog w = .ok (x == y) w := run_equalIn_int w d _ _ _ x y Try.underlying3
theorem eqS (d : Nat) (x y : ByteArray) (w : World) : (Op.equalIn (d + 1) 9 (.string x) (.string y)).run Try.prog w = .ok (x.toList == y.toList) w := run_equalIn_string w d _ x y Try.underlying9
theorem partFt {x0 x1 x2 : Value} (w : World) : (part 3 #[x0, x1, x2] 0).run Try.prog w = .ok x0 w ∧ (part 3 #[x0, x1, x2] 1).run Try.prog w = .ok x1 w ∧ (part 3 #[x0, x1, x2] 2).run Try.prog w = .ok x2 w := ⟨by kernel_rfl, by kernel_rfl, by kernel_rfl⟩
theorem FtFields : (Try.prog.fieldsOf 33).toList.map (fun f => (f.name == "_", f.type, f.offset)) = [(false, 3, 0), (false, 3, 1), (false, 3, 2)] := by kernel_rfl
theorem FtUnder : Try.prog.underlying 33 = some (.struct (Try.prog.fieldsOf 33)) := by kernel_rfl
theorem FtStood : Try.prog.stoodInHeld 33 = false := by kernel_rfl
theorem eq_Ft (a0 a1 a2 b0 b1 b2 : Int) (w : World) : (Op.equalIn 10000 33 (.agg #[.int .i64 a0, .int .i64 a1, .int .i64 a2]) (.agg #[.int .i64 b0, .int .i64 b1, .int .i64 b2])).run Try.prog w = .ok (a0 == b0 && a1 == b1 && a2 == b2) w := by
  rw [run_equalIn_struct w 9999 _ _ _ FtUnder FtStood]
  have hf := FtFields
  generalize (Try.prog.fieldsOf 33).toList = fs at hf
  obtain ⟨p0, p1, p2⟩ := @partFt (.int .i64 a0) (.int .i64 a1) (.int .i64 a2) w
  obtain ⟨q0, q1, q2⟩ := @partFt (.int .i64 b0) (.int .i64 b1) (.int .i64 b2) w
  obtain ⟨f0, r0, rfl, h0, hf⟩ := List.map_eq_cons_iff.1 hf
  obtain ⟨f1, r1, rfl, h1, hf⟩ := List.map_eq_cons_iff.1 hf
  obtain ⟨f2, r2, rfl, h2, hf⟩ := List.map_eq_cons_iff.1 hf
  obtain rfl := List.map_eq_nil_iff.1 hf
  simp only [Prod.mk.injEq] at h0
  obtain ⟨n0, t0, o0⟩ := h0
  simp only [Prod.mk.injEq] at h1
  obtain ⟨n1, t1, o1⟩ := h1
  simp only [Prod.mk.injEq] at h2
  obtain ⟨n2, t2, o2⟩ := h2
  rw [eqFields_cons 9999 _ _ f0 [f1, f2] (.int .i64 a0) (.int .i64 b0) (a0 == b0) w n0 (by rw [t0, o0]; exact p0) (by rw [t0, o0]; exact q0) (by rw [t0]; exact eqI 9998 a0 b0 w)]
  rw [eqFields_cons 9999 _ _ f1 [f2] (.int .i64 a1) (.int .i64 b1) (a1 == b1) w n1 (by rw [t1, o1]; exact p1) (by rw [t1, o1]; exact q1) (by rw [t1]; exact eqI 9998 a1 b1 w)]
  rw [eqFields_cons 9999 _ _ f2 [] (.int .i64 a2) (.int .i64 b2) (a2 == b2) w n2 (by rw [t2, o2]; exact p2) (by rw [t2, o2]; exact q2) (by rw [t2]; exact eqI 9998 a2 b2 w)]
  cases a0 == b0 <;> cases a1 == b1 <;> cases a2 == b2 <;> simp [Op.eqFields]
theorem partAj {x0 x1 : Value} (w : World) : (part 3 #[x0, x1] 0).run Try.prog w = .ok x0 w ∧ (part 3 #[x0, x1] 1).run Try.prog w = .ok x1 w := ⟨by kernel_rfl, by kernel_rfl⟩
theorem AjFields : (Try.prog.fieldsOf 68).toList.map (fun f => (f.name == "_", f.type, f.offset)) = [(false, 3, 0), (false, 3, 1)] := by kernel_rfl
theorem AjUnder : Try.prog.underlying 68 = some (.struct (Try.prog.fieldsOf 68)) := by kernel_rfl
theorem AjStood : Try.prog.stoodInHeld 68 = false := by kernel_rfl
theorem eq_Aj (a0 a1 b0 b1 : Int) (w : World) : (Op.equalIn 10000 68 (.agg #[.int .i64 a0, .int .i64 a1]) (.agg #[.int .i64 b0, .int .i64 b1])).run Try.prog w = .ok (a0 == b0 && a1 == b1) w := by
  rw [run_equalIn_struct w 9999 _ _ _ AjUnder AjStood]
  have hf := AjFields
  generalize (Try.prog.fieldsOf 68).toList = fs at hf
  obtain ⟨p0, p1⟩ := @partAj (.int .i64 a0) (.int .i64 a1) w
  obtain ⟨q0, q1⟩ := @partAj (.int .i64 b0) (.int .i64 b1) w
  obtain ⟨f0, r0, rfl, h0, hf⟩ := List.map_eq_cons_iff.1 hf
  obtain ⟨f1, r1, rfl, h1, hf⟩ := List.map_eq_cons_iff.1 hf
  obtain rfl := List.map_eq_nil_iff.1 hf
  simp only [Prod.mk.injEq] at h0
  obtain ⟨n0, t0, o0⟩ := h0
  simp only [Prod.mk.injEq] at h1
  obtain ⟨n1, t1, o1⟩ := h1
  rw [eqFields_cons 9999 _ _ f0 [f1] (.int .i64 a0) (.int .i64 b0) (a0 == b0) w n0 (by rw [t0, o0]; exact p0) (by rw [t0, o0]; exact q0) (by rw [t0]; exact eqI 9998 a0 b0 w)]
  rw [eqFields_cons 9999 _ _ f1 [] (.int .i64 a1) (.int .i64 b1) (a1 == b1) w n1 (by rw [t1, o1]; exact p1) (by rw [t1, o1]; exact q1) (by rw [t1]; exact eqI 9998 a1 b1 w)]
  cases a0 == b0 <;> cases a1 == b1 <;> simp [Op.eqFields]
theorem partEd {x0 x1 x2 : Value} (w : World) : (part 3 #[x0, x1, x2] 0).run Try.prog w = .ok x0 w ∧ (part 3 #[x0, x1, x2] 1).run Try.prog w = .ok x1 w ∧ (part 3 #[x0, x1, x2] 2).run Try.prog w = .ok x2 w := ⟨by kernel_rfl, by kernel_rfl, by kernel_rfl⟩
theorem EdFields : (Try.prog.fieldsOf 64).toList.map (fun f => (f.name == "_", f.type, f.offset)) = [(false, 3, 0), (false, 3, 1), (false, 3, 2)] := by kernel_rfl
theorem EdUnder : Try.prog.underlying 64 = some (.struct (Try.prog.fieldsOf 64)) := by kernel_rfl
theorem EdStood : Try.prog.stoodInHeld 64 = false := by kernel_rfl
theorem eq_Ed (a0 a1 a2 b0 b1 b2 : Int) (w : World) : (Op.equalIn 10000 64 (.agg #[.int .i64 a0, .int .i64 a1, .int .i64 a2]) (.agg #[.int .i64 b0, .int .i64 b1, .int .i64 b2])).run Try.prog w = .ok (a0 == b0 && a1 == b1 && a2 == b2) w := by
  rw [run_equalIn_struct w 9999 _ _ _ EdUnder EdStood]
  have hf := EdFields
  generalize (Try.prog.fieldsOf 64).toList = fs at hf
  obtain ⟨p0, p1, p2⟩ := @partEd (.int .i64 a0) (.int .i64 a1) (.int .i64 a2) w
  obtain ⟨q0, q1, q2⟩ := @partEd (.int .i64 b0) (.int .i64 b1) (.int .i64 b2) w
  obtain ⟨f0, r0, rfl, h0, hf⟩ := List.map_eq_cons_iff.1 hf
  obtain ⟨f1, r1, rfl, h1, hf⟩ := List.map_eq_cons_iff.1 hf
  obtain ⟨f2, r2, rfl, h2, hf⟩ := List.map_eq_cons_iff.1 hf
  obtain rfl := List.map_eq_nil_iff.1 hf
  simp only [Prod.mk.injEq] at h0
  obtain ⟨n0, t0, o0⟩ := h0
  simp only [Prod.mk.injEq] at h1
  obtain ⟨n1, t1, o1⟩ := h1
  simp only [Prod.mk.injEq] at h2
  obtain ⟨n2, t2, o2⟩ := h2
  rw [eqFields_cons 9999 _ _ f0 [f1, f2] (.int .i64 a0) (.int .i64 b0) (a0 == b0) w n0 (by rw [t0, o0]; exact p0) (by rw [t0, o0]; exact q0) (by rw [t0]; exact eqI 9998 a0 b0 w)]
  rw [eqFields_cons 9999 _ _ f1 [f2] (.int .i64 a1) (.int .i64 b1) (a1 == b1) w n1 (by rw [t1, o1]; exact p1) (by rw [t1, o1]; exact q1) (by rw [t1]; exact eqI 9998 a1 b1 w)]
  rw [eqFields_cons 9999 _ _ f2 [] (.int .i64 a2) (.int .i64 b2) (a2 == b2) w n2 (by rw [t2, o2]; exact p2) (by rw [t2, o2]; exact q2) (by rw [t2]; exact eqI 9998 a2 b2 w)]
  cases a0 == b0 <;> cases a1 == b1 <;> cases a2 == b2 <;> simp [Op.eqFields]
theorem partAr {x0 x1 x2 : Value} (w : World) : (part 3 #[x0, x1, x2] 0).run Try.prog w = .ok x0 w ∧ (part 3 #[x0, x1, x2] 1).run Try.prog w = .ok x1 w ∧ (part 9 #[x0, x1, x2] 2).run Try.prog w = .ok x2 w := ⟨by kernel_rfl, by kernel_rfl, by kernel_rfl⟩
theorem ArFields : (Try.prog.fieldsOf 30).toList.map (fun f => (f.name == "_", f.type, f.offset)) = [(false, 3, 0), (false, 3, 1), (false, 9, 2)] := by kernel_rfl
theorem ArUnder : Try.prog.underlying 30 = some (.struct (Try.prog.fieldsOf 30)) := by kernel_rfl
theorem ArStood : Try.prog.stoodInHeld 30 = false := by kernel_rfl
theorem eq_Ar (a0 a1 b0 b1 : Int) (a2 b2 : ByteArray) (w : World) : (Op.equalIn 10000 30 (.agg #[.int .i64 a0, .int .i64 a1, .string a2]) (.agg #[.int .i64 b0, .int .i64 b1, .string b2])).run Try.prog w = .ok (a0 == b0 && a1 == b1 && a2.toList == b2.toList) w := by
  rw [run_equalIn_struct w 9999 _ _ _ ArUnder ArStood]
  have hf := ArFields
  generalize (Try.prog.fieldsOf 30).toList = fs at hf
  obtain ⟨p0, p1, p2⟩ := @partAr (.int .i64 a0) (.int .i64 a1) (.string a2) w
  obtain ⟨q0, q1, q2⟩ := @partAr (.int .i64 b0) (.int .i64 b1) (.string b2) w
  obtain ⟨f0, r0, rfl, h0, hf⟩ := List.map_eq_cons_iff.1 hf
  obtain ⟨f1, r1, rfl, h1, hf⟩ := List.map_eq_cons_iff.1 hf
  obtain ⟨f2, r2, rfl, h2, hf⟩ := List.map_eq_cons_iff.1 hf
  obtain rfl := List.map_eq_nil_iff.1 hf
  simp only [Prod.mk.injEq] at h0
  obtain ⟨n0, t0, o0⟩ := h0
  simp only [Prod.mk.injEq] at h1
  obtain ⟨n1, t1, o1⟩ := h1
  simp only [Prod.mk.injEq] at h2
  obtain ⟨n2, t2, o2⟩ := h2
  rw [eqFields_cons 9999 _ _ f0 [f1, f2] (.int .i64 a0) (.int .i64 b0) (a0 == b0) w n0 (by rw [t0, o0]; exact p0) (by rw [t0, o0]; exact q0) (by rw [t0]; exact eqI 9998 a0 b0 w)]
  rw [eqFields_cons 9999 _ _ f1 [f2] (.int .i64 a1) (.int .i64 b1) (a1 == b1) w n1 (by rw [t1, o1]; exact p1) (by rw [t1, o1]; exact q1) (by rw [t1]; exact eqI 9998 a1 b1 w)]
  rw [eqFields_cons 9999 _ _ f2 [] (.string a2) (.string b2) (a2.toList == b2.toList) w n2 (by rw [t2, o2]; exact p2) (by rw [t2, o2]; exact q2) (by rw [t2]; exact eqS 9998 a2 b2 w)]
  cases a0 == b0 <;> cases a1 == b1 <;> cases a2.toList == b2.toList <;> simp [Op.eqFields]
theorem slAt_block {α : Type} {cs : α → List Value} {sz : Nat} (hc : ∀ x, (cs x).length = sz) {w : World} {b cap : Nat} {T : TypeId} {l : List α} (h : w.heap[b]? = some (.cells (fl cs l).toArray T)) (hl : l.length ≤ cap) (hm : cap ≤ 9223372036854775807) : SlAt cs sz w (.slice (some ⟨b, 0, none⟩) l.length cap) l := by
  refine ⟨_, cap, rfl, by omega, hl, fun _ => ⟨b, 0, rfl, block_lt h, fun j x hx i u hu => ?_⟩⟩
  have hi : i < sz := by have := (List.getElem?_eq_some_iff.1 hu).1; rwa [hc] at this
  rw [Nat.zero_add, cell_of_row w b _ _ T _ h, List.getElem?_toArray, fl_get hc l j i x hx hi]
  exact hu
/-- Is it just that message? -/
def oneB (l : List Ar) (a b : Int) (s : ByteArray) : Bool := match l with
  | [x] => x.1 == a && x.2.1 == b && x.2.2.toList == s.toList
  | _ => false
theorem oneB_len {l : List Ar} {a b : Int} {s : ByteArray} (h : l.length ≠ 1) : oneB l a b s = false := by
  match l with
  | [] => rfl
  | [x] => simp at h
  | x :: y :: l => rfl
set_option maxRecDepth 100000 in
theorem one_any {l : List Ar} {v : Value} {w : World} (h : SlAt arC 3 w v l) (a b : Int) (s : ByteArray) :
    Calls Try.prog 22 #[v, .int .i64 a, .int .i64 b, .string s] w fun e w' => e = .returned (.bool (oneB l a b s)) ∧ w' = w := by
  obtain ⟨aa, cap, rfl, hl, hcap, hat⟩ := h
  have hq := fun a0 a1 b0 b1 a2 b2 w => eq_Ar a0 a1 b0 b1 a2 b2 w
  by_cases h1 : l.length = 1
  · obtain ⟨x, rfl⟩ := List.length_eq_one_iff.1 h1
    obtain ⟨bk, o, rfl, hbk, hc⟩ := hat (by simp)
    have c0 := hc 0 x rfl 0 _ rfl
    have c1 := hc 0 x rfl 1 _ rfl
    have c2 := hc 0 x rfl 2 _ rfl
    obtain ⟨x0, x1, x2⟩ := x
    simp at c0 c1 c2
    have HE : Hid (oneB [(x0, x1, x2)] a b s = (x0 == a && x1 == b && x2.toList == s.toList)) := hidIn rfl
    rw [HE.out]
    clear hat hc h1 hl hcap
    simp only [List.length_cons, List.length_nil]
    go_enter Try.func22, Try.ntmps22
    go_wp2_with fail
    go_returns
    exact ⟨rfl, rfl⟩
  · rw [oneB_len h1]
    obtain ⟨n, hn⟩ : ∃ n, l.length = n := ⟨_, rfl⟩
    have h1i : ¬ (n : Int) = 1 := by omega
    have h1b : ((n : Int) == 1) = false := by simpa using h1i
    rw [hn]
    clear hat hl hcap h1 hn
    go_enter Try.func22, Try.ntmps22
    go_wp2_with fail
    go_returns
    exact ⟨rfl, rfl⟩
theorem NetZ.less {w : World} {Z Y : Nat → Prop} {np : Nat} {N : Nv} (h : NetZ w Z np N) (hY : ∀ j, Y j → Z j) : NetZ w Y np N := by
  obtain ⟨⟨D, S, h1, h2, h3⟩, h4⟩ := h
  exact ⟨⟨D, S, h1, fun j hj hy => h2 j hj (hY j hy), h3⟩, fun j hj => h4 j (hY j hj)⟩
def sendF (N : Nv) (a b : Int) (n : Nat) : Ft := if refE N a b n = 0 then fateN N a b else (0, 0, 0)
def sendZ (N : Nv) (a b : Int) (s : ByteArray) : Nv := if refE N a b s.size = 0 then sendN N a b s else N
def cutL (N : Nv) (a b : Int) : List Ar := if cutE N a b = 0 then goneN (cutN N a b true) else []
def cutZ (N : Nv) (a b : Int) : Nv := if cutE N a b = 0 then leftN (cutN N a b true) else N
def mendZ (N : Nv) (a b : Int) : Nv := if mendE N a b = 0 then cutN N a b false else N
def stopL (N : Nv) (r : Int) : List Ar := if stopE N r = 0 then goneN (stopN N r true) else []
def stopZ (N : Nv) (r : Int) : Nv := if stopE N r = 0 then leftN (stopN N r true) else N
def startZ (N : Nv) (r : Int) : Nv := if startE N r = 0 then stopN N r false else N
def nearZ (N : Nv) (r : Int) : List (Int × Int) := if hasN N.V r = true then nearL (eUp N) r else []
theorem NvOk.left {N : Nv} {k : Nat} (h : NvOk N k) : NvOk (leftN N) k :=
  ⟨h.v, h.vl, h.e, h.el, h.lt, h.p, h.q, h.a, h.now, fun b hb => h.l b (List.mem_filter.1 hb).1, Nat.le_trans (List.length_filter_le _ _) h.ll, h.r⟩
theorem NvOk.cut {N : Nv} {k : Nat} (h : NvOk N k) (a b : Int) (v : Bool) : NvOk (cutN N a b v) (k + 1) := by
  have h' := h.mono (Nat.le_succ k)
  refine ⟨h'.v, h'.vl, h'.e, h'.el, h'.lt, h'.p, ?_, h'.a, h'.now, h'.l, h'.ll, h'.r⟩
  have := h.q
  show (if v = true then N.q + 1 else N.q) ≤ _
  split <;> omega
theorem NvOk.tick {N : Nv} {k : Nat} (h : NvOk N k) : NvOk (tickN N) (k + 1) := by
  have h' := h.mono (Nat.le_succ k)
  have hr := Ca.due_rest N.L (N.now + 1)
  refine ⟨h'.v, h'.vl, h'.e, h'.el, h'.lt, h'.p, h'.q, h'.a, ?_, fun b hb => h.l b (by rw [← hr]; exact List.mem_append_right _ hb), ?_, h'.r⟩
  · have := h.now
    show 0 ≤ N.now + 1 ∧ N.now + 1 ≤ _
    omega
  · have h1 := congrArg List.length hr
    rw [List.length_append] at h1
    have := h.ll
    show (Ca.restT N.L (N.now + 1)).length ≤ _
    omega
theorem NvOk.sendZ {N : Nv} {k : Nat} (h : NvOk N k) (a b : Int) (s : ByteArray) : NvOk (sendZ N a b s) (k + 3) := by
  unfold Nt.sendZ
  by_cases hr : refE N a b s.size = 0
  · rw [if_pos hr]
    have hb := lkQ_bd h (refE_zero hr).1
    have h1 := h.ask a b
    have h2 := h1.put (x := (a, b, s)) ⟨hb.1, hb.2.1⟩ (fateN N a b).2.1
    have h3 := h2.put (x := (a, b, s)) ⟨hb.1, hb.2.1⟩ (fateN N a b).2.2
    unfold sendN
    split
    · exact h1.mono (by omega)
    · split
      · exact h2.mono (by omega)
      · exact h3
  · rw [if_neg hr]
    exact h.mono (by omega)
theorem NvOk.cutZ {N : Nv} {k : Nat} (h : NvOk N k) (a b : Int) : NvOk (cutZ N a b) (k + 1) := by
  unfold Nt.cutZ
  split
  · exact (h.cut a b true).left
  · exact h.mono (by omega)
theorem NvOk.mendZ {N : Nv} {k : Nat} (h : NvOk N k) (a b : Int) : NvOk (mendZ N a b) (k + 1) := by
  unfold Nt.mendZ
  split
  · exact h.cut a b false
  · exact h.mono (by omega)
theorem NvOk.stopZ {N : Nv} {k : Nat} (h : NvOk N k) (r : Int) : NvOk (stopZ N r) k := by
  unfold Nt.stopZ
  split
  · exact (h.stop r true).left
  · exact h
theorem NvOk.startZ {N : Nv} {k : Nat} (h : NvOk N k) (r : Int) : NvOk (startZ N r) k := by
  unfold Nt.startZ
  split
  · exact h.stop r false
  · exact h
theorem zsend {w : World} {Z : Nat → Prop} {np k : Nat} {N : Nv} (h : NetZ w Z np N) (hk : NvOk N k) (hk9 : k ≤ 20000) (a b : Int) (s : ByteArray) :
    Calls Try.prog 10 #[pp np, .int .i64 a, .int .i64 b, .string s] w fun e w' => e = .returned (.tuple #[ftV (sendF N a b s.size), .int .i64 (refE N a b s.size)]) ∧ NetZ w' Z np (sendZ N a b s) ∧ Fr (fun j => ¬ Z j) w w' := by
  obtain ⟨⟨D, S, h1, h2, h3⟩, h4⟩ := h
  unfold sendF sendZ
  by_cases hr : refE N a b s.size = 0
  · rw [if_pos hr, if_pos hr, hr]
    refine (send_ok h1 h3 hk hk9 a b s hr).mono ?_
    rintro e w' ⟨rfl, hres⟩
    exact ⟨rfl, NetZ.res h1 h2 h4 hres⟩
  · rw [if_neg hr, if_neg hr]
    refine (send_no h1 hk a b s hr).mono ?_
    rintro e w' ⟨rfl, hb⟩
    exact ⟨rfl, NetZ.below ⟨⟨D, S, h1, h2, h3⟩, h4⟩ hb, Fr.of_below hb⟩
theorem ztick {w : World} {Z : Nat → Prop} {np k : Nat} {N : Nv} (h : NetZ w Z np N) (hk : NvOk N k) (hk9 : k ≤ 20000) :
    Calls Try.prog 16 #[pp np] w fun e w' => (∃ v, e = .returned v ∧ w'.ownsRow w.heap.size 30 3 v (comeN N).length (fl arC (comeN N)) ∧ NetZ w' (fun j => Z j ∨ v.ownBlock = some j) np (tickN N)) ∧ Fr (fun j => ¬ Z j) w w' := by
  obtain ⟨⟨D, S, h1, h2, h3⟩, h4⟩ := h
  refine (tick_any h1 h3 hk (by omega)).mono ?_
  rintro e w' ⟨⟨v, rfl, hrow⟩, hres⟩
  have := NetZ.res0 h1 h3 h2 h4 hres (fun j hj => hrow.lt j hj)
  exact ⟨⟨v, rfl, hrow, this.1⟩, this.2⟩
theorem zcut {w : World} {Z : Nat → Prop} {np k : Nat} {N : Nv} (h : NetZ w Z np N) (hk : NvOk N k) (hk9 : k ≤ 20000) (a b : Int) :
    Calls Try.prog 12 #[pp np, .int .i64 a, .int .i64 b] w fun e w' => (∃ v, e = .returned (.tuple #[v, .int .i64 (cutE N a b)]) ∧ w'.ownsRow w.heap.size 30 3 v (cutL N a b).length (fl arC (cutL N a b)) ∧ NetZ w' (fun j => Z j ∨ v.ownBlock = some j) np (cutZ N a b)) ∧ Fr (fun j => ¬ Z j) w w' := by
  obtain ⟨⟨D, S, h1, h2, h3⟩, h4⟩ := h
  unfold cutL cutZ
  by_cases hr : cutE N a b = 0
  · rw [if_pos hr, if_pos hr, hr]
    refine (cut_ok h1 h3 hk hk9 a b hr).mono ?_
    rintro e w' ⟨⟨v, rfl, hrow⟩, hres⟩
    have := NetZ.res0 h1 h3 h2 h4 hres (fun j hj => hrow.lt j hj)
    exact ⟨⟨v, rfl, hrow, this.1⟩, this.2⟩
  · rw [if_neg hr, if_neg hr]
    refine (cut_no h1 hk a b hr).mono ?_
    rintro e w' ⟨rfl, hb⟩
    exact ⟨⟨_, rfl, World.ownsRow_nil _ _ _ _, (NetZ.below ⟨⟨D, S, h1, h2, h3⟩, h4⟩ hb).less (fun j hj => hj.elim id (fun hj => by simp [Value.ownBlock] at hj))⟩, Fr.of_below hb⟩
theorem zmend {w : World} {Z : Nat → Prop} {np k : Nat} {N : Nv} (h : NetZ w Z np N) (hk : NvOk N k) (a b : Int) :
    Calls Try.prog 13 #[pp np, .int .i64 a, .int .i64 b] w fun e w' => e = .returned (.int .i64 (mendE N a b)) ∧ NetZ w' Z np (mendZ N a b) ∧ Fr (fun j => ¬ Z j) w w' := by
  obtain ⟨⟨D, S, h1, h2, h3⟩, h4⟩ := h
  unfold mendZ
  by_cases hr : mendE N a b = 0
  · rw [if_pos hr, hr]
    refine (mend_ok h1 h3 hk a b hr).mono ?_
    rintro e w' ⟨rfl, hres⟩
    exact ⟨rfl, NetZ.res h1 h2 h4 hres⟩
  · rw [if_neg hr]
    refine (mend_no h1 hk a b hr).mono ?_
    rintro e w' ⟨rfl, hb⟩
    exact ⟨rfl, NetZ.below ⟨⟨D, S, h1, h2, h3⟩, h4⟩ hb, Fr.of_below hb⟩
theorem zstop {w : World} {Z : Nat → Prop} {np k : Nat} {N : Nv} (h : NetZ w Z np N) (hk : NvOk N k) (hk9 : k ≤ 20000) (r : Int) :
    Calls Try.prog 14 #[pp np, .int .i64 r] w fun e w' => (∃ v, e = .returned (.tuple #[v, .int .i64 (stopE N r)]) ∧ w'.ownsRow w.heap.size 30 3 v (stopL N r).length (fl arC (stopL N r)) ∧ NetZ w' (fun j => Z j ∨ v.ownBlock = some j) np (stopZ N r)) ∧ Fr (fun j => ¬ Z j) w w' := by
  obtain ⟨⟨D, S, h1, h2, h3⟩, h4⟩ := h
  unfold stopL stopZ
  by_cases hr : stopE N r = 0
  · rw [if_pos hr, if_pos hr, hr]
    refine (stop_ok h1 h3 hk hk9 r hr).mono ?_
    rintro e w' ⟨⟨v, rfl, hrow⟩, hres⟩
    have := NetZ.res0 h1 h3 h2 h4 hres (fun j hj => hrow.lt j hj)
    exact ⟨⟨v, rfl, hrow, this.1⟩, this.2⟩
  · rw [if_neg hr, if_neg hr]
    refine (stop_no h1 hk r hr).mono ?_
    rintro e w' ⟨rfl, rfl⟩
    exact ⟨⟨_, rfl, World.ownsRow_nil _ _ _ _, NetZ.less ⟨⟨D, S, h1, h2, h3⟩, h4⟩ (fun j hj => hj.elim id (fun hj => by simp [Value.ownBlock] at hj))⟩, Fr.refl _ _⟩
theorem zstart {w : World} {Z : Nat → Prop} {np k : Nat} {N : Nv} (h : NetZ w Z np N) (hk : NvOk N k) (r : Int) :
    Calls Try.prog 15 #[pp np, .int .i64 r] w fun e w' => e = .returned (.int .i64 (startE N r)) ∧ NetZ w' Z np (startZ N r) ∧ Fr (fun j => ¬ Z j) w w' := by
  obtain ⟨⟨D, S, h1, h2, h3⟩, h4⟩ := h
  unfold startZ
  by_cases hr : startE N r = 0
  · rw [if_pos hr, hr]
    refine (start_ok h1 h3 hk r hr).mono ?_
    rintro e w' ⟨rfl, hres⟩
    exact ⟨rfl, NetZ.res h1 h2 h4 hres⟩
  · rw [if_neg hr]
    refine (start_no h1 hk r hr).mono ?_
    rintro e w' ⟨rfl, rfl⟩
    exact ⟨rfl, ⟨⟨D, S, h1, h2, h3⟩, h4⟩, Fr.refl _ _⟩
theorem zup {w : World} {Z : Nat → Prop} {np k : Nat} {N : Nv} (h : NetZ w Z np N) (hk : NvOk N k) (a b : Int) :
    Calls Try.prog 11 #[pp np, .int .i64 a, .int .i64 b] w fun e w' => e = .returned (.bool (lkQ N a b && upQ N a b)) ∧ NetZ w' Z np N ∧ Below w.heap.size w w' := by
  obtain ⟨⟨D, S, h1, h2, h3⟩, h4⟩ := h
  refine (up_any h1 hk a b).mono ?_
  rintro e w' ⟨rfl, hb⟩
  exact ⟨rfl, NetZ.below ⟨⟨D, S, h1, h2, h3⟩, h4⟩ hb, hb⟩
theorem znow {w : World} {Z : Nat → Prop} {np : Nat} {N : Nv} (h : NetZ w Z np N) : Calls Try.prog 18 #[pp np] w fun e w' => e = .returned (.int .u64 N.now) ∧ w' = w := by
  obtain ⟨⟨D, S, h1, h2, h3⟩, h4⟩ := h
  exact now_any h1
theorem zflying {w : World} {Z : Nat → Prop} {np : Nat} {N : Nv} (h : NetZ w Z np N) : Calls Try.prog 17 #[pp np] w fun e w' => e = .returned (.int .i64 N.L.length) ∧ w' = w := by
  obtain ⟨⟨D, S, h1, h2, h3⟩, h4⟩ := h
  exact flying_any h1
theorem znear {w : World} {Z : Nat → Prop} {np k : Nat} {N : Nv} (h : NetZ w Z np N) (hk : NvOk N k) (r : Int) :
    Calls Try.prog 21 #[pp np, .int .i64 r] w fun e w' => (∃ v, e = .returned (.tuple #[v, .int .i64 (noRt N r)]) ∧ w'.ownsRow w.heap.size 68 2 v (nearZ N r).length (fl ac (nearZ N r))) ∧ NetZ w' Z np N ∧ Below w.heap.size w w' := by
  obtain ⟨⟨D, S, h1, h2, h3⟩, h4⟩ := h
  unfold nearZ
  by_cases hr : hasN N.V r = true
  · rw [if_pos hr, noRt_zero hr]
    refine (near_any h1 hk r hr).mono ?_
    rintro e w' ⟨h5, hb⟩
    exact ⟨h5, NetZ.below ⟨⟨D, S, h1, h2, h3⟩, h4⟩ hb, hb⟩
  · have hf : hasN N.V r = false := by simpa using hr
    rw [if_neg hr, noRt_two hf]
    refine (near_no h1 r hf).mono ?_
    rintro e w' ⟨rfl, rfl⟩
    exact ⟨⟨_, rfl, World.ownsRow_nil _ _ _ _⟩, ⟨⟨D, S, h1, h2, h3⟩, h4⟩, Below.refl _ _⟩
theorem zgraph {w : World} {Z : Nat → Prop} {np k : Nat} {N : Nv} (h : NetZ w Z np N) (hk : NvOk N k) :
    Calls Try.prog 20 #[pp np] w fun e w' => (∃ v u, e = .returned (.tuple #[grV v u, .int .i64 0]) ∧ w'.ownsRow w.heap.size 3 1 v (runL N).length (fl ic (runL N)) ∧ w'.ownsRow w.heap.size 64 3 u (eUp N).length (fl ec (eUp N))) ∧ NetZ w' Z np N ∧ Below w.heap.size w w' := by
  obtain ⟨⟨D, S, h1, h2, h3⟩, h4⟩ := h
  refine (graph_any h1 hk).mono ?_
  rintro e w' ⟨h5, hb⟩
  exact ⟨h5, NetZ.below ⟨⟨D, S, h1, h2, h3⟩, h4⟩ hb, hb⟩
end Go.Proofs.Ytkhfpcnmnnboeaa.Nt
namespace Go.Proofs.Ytkhfpcnmnnboeaa.Nt
open Go.RowKit Go.Proofs.Ytkhfpcnmnnboeaa.Fa

def lk3 : List Ed := [(1, 2, 5), (2, 3, 1)]
/-- Three routers in a row. -/
def n3 (R : List Ru) (lt : Int) : Nv := newN [1, 2, 3] lk3 R lt
theorem of3 : ofC [1, 2, 3] lk3 = 0 := by kernel_rfl
theorem of3N : ofN [1, 2, 3] lk3 = [1, 2, 3] := by kernel_rfl
theorem of3E : ofE [1, 2, 3] lk3 = [(1, 2, 5), (2, 1, 5), (2, 3, 1), (3, 2, 1)] := by kernel_rfl
theorem n3_ok {R : List Ru} {lt : Int} (hl : 1 ≤ lt ∧ lt ≤ 64) (hc : chkR R = (0, 0)) : NvOk (n3 R lt) 0 := new_nvOk of3 hl (chk_ok hc).1
theorem fr_low {B : Nat} {w w' : World} (hF : Fr (fun j => ¬ j < B) w w') (hB : B ≤ w.heap.size) : Below B w w' := hF.below hB (fun _ hk => Nat.le_of_not_lt hk)
set_option maxRecDepth 100000 in
theorem three_ok {w : World} {R : List Ru} {lt : Int} {r : Value} (hr : SlAt ruC 5 w r R) (hl : 1 ≤ lt ∧ lt ≤ 64) (hc : chkR R = (0, 0)) :
    Calls Try.prog 8 #[.int .i64 lt, r] w fun e w' => (∃ np, e = .returned (pp np) ∧ ∀ Z : Nat → Prop, (∀ j, Z j → j < w.heap.size) → NetZ w' Z np (n3 R lt)) ∧ Below w.heap.size w w' := by
  obtain ⟨W1, hW1⟩ : ∃ W1, (w.alloc (.cells #[.int .i64 1, .int .i64 2, .int .i64 3] 3)).alloc (.cells #[.int .i64 1, .int .i64 2, .int .i64 5, .int .i64 2, .int .i64 3, .int .i64 1] 52) = W1 := ⟨_, rfl⟩
  have b1 : Below w.heap.size w W1 := by rw [← hW1]; exact ((Below.refl _ w).alloc (Nat.le_refl _) _).alloc (by simp) _
  have hA : W1.heap[w.heap.size]? = some (.cells #[.int .i64 1, .int .i64 2, .int .i64 3] 3) := by rw [← hW1, Below.heap_alloc _ _ _ (by simp)]; exact heap_alloc_last w _
  have hB : W1.heap[w.heap.size + 1]? = some (.cells #[.int .i64 1, .int .i64 2, .int .i64 5, .int .i64 2, .int .i64 3, .int .i64 1] 52) := by
    rw [← hW1]
    have := heap_alloc_last (w.alloc (.cells #[.int .i64 1, .int .i64 2, .int .i64 3] 3)) (.cells #[.int .i64 1, .int .i64 2, .int .i64 5, .int .i64 2, .int .i64 3, .int .i64 1] 52)
    rwa [World.size_alloc] at this
  have s1 := slAt_block (cs := ic) (sz := 1) (l := [1, 2, 3]) (cap := 3) (fun _ => rfl) hA (by decide) (by omega)
  have s2 := slAt_block (cs := ec) (sz := 3) (l := lk3) (cap := 2) (fun _ => rfl) hB (by decide) (by omega)
  have HN := hidIn (new_ok s1 s2 (hr.keep b1 (Nat.le_refl _)) of3 hl hc)
  obtain ⟨ra, rc, rfl, _⟩ := hr
  have HB := hidIn b1
  have HW := hidIn hW1
  clear b1 hA hB s1 s2 hW1 hc
  go_enter Try.func8, Try.ntmps8
  go_wp2_with fail
  rw [HW.out]
  refine HN.out.mono ?_
  rintro e w2 ⟨⟨np, rfl, hZ⟩, hb2⟩
  have HZ := hidIn hZ
  have HB2 := hidIn (HB.out.trans (hb2.mono HB.out.size))
  clear hZ hb2 HN HW
  go_wp2_with fail
  go_returns
  exact ⟨⟨_, rfl, fun Z hZ => HZ.out Z (fun j hj => Nat.lt_of_lt_of_le (hZ j hj) HB.out.size)⟩, HB2.out⟩
/-- What works makes. -/
def k0 : Nv := n3 [] 2
def k1 : Nv := sendZ k0 1 2 ⟨#[97]⟩
def k2 : Nv := tickN k1
def k3 : Nv := tickN k2
theorem k0_facts : refE k0 1 2 (⟨#[97]⟩ : ByteArray).size = 0 ∧ sendF k0 1 2 (⟨#[97]⟩ : ByteArray).size = (1, 0, 0) := ⟨by kernel_rfl, by kernel_rfl⟩
theorem k1_facts : k1.L.length = 1 ∧ comeN k1 = [] := ⟨by kernel_rfl, by kernel_rfl⟩
theorem k2_facts : comeN k2 = [(1, 2, ⟨#[97]⟩)] ∧ k3.L.length = 0 ∧ k3.now = 2 := ⟨by kernel_rfl, by kernel_rfl, by kernel_rfl⟩
set_option maxRecDepth 100000 in
set_option maxHeartbeats 1000000 in
theorem nworks_any (w : World) : Calls Try.prog 7 #[] w fun e w' => e = .returned (.bool true) ∧ Below w.heap.size w w' := by
  have H3 := hidIn (three_ok (w := w) (R := []) (lt := 2) (r := .slice none 0 0) ⟨none, 0, rfl, by simp, Nat.le_refl _, fun h => absurd h (by simp)⟩ (by omega) (by decide))
  have ok0 : NvOk k0 0 := n3_ok (by omega) (by decide)
  have HS := hidIn (fun w1 np (h : NetZ w1 (fun j => j < w.heap.size) np k0) => by
    have := zsend h ok0 (by omega) 1 2 ⟨#[97]⟩
    rw [k0_facts.1, k0_facts.2] at this
    exact this)
  have ok1 : NvOk k1 3 := ok0.sendZ 1 2 _
  have HF1 := hidIn (fun w1 np (h : NetZ w1 (fun j => j < w.heap.size) np k1) => by
    have := zflying h
    rw [k1_facts.1] at this
    exact this)
  have HT1 := hidIn (fun w1 np (h : NetZ w1 (fun j => j < w.heap.size) np k1) => by
    have := ztick h ok1 (by omega)
    rw [k1_facts.2] at this
    exact this)
  have ok2 : NvOk k2 4 := ok1.tick
  have HT2 := hidIn (fun w1 np (h : NetZ w1 (fun j => j < w.heap.size) np k2) => by
    have := ztick h ok2 (by omega)
    rw [k2_facts.1] at this
    exact this)
  have HF3 := hidIn (fun w1 np (h : NetZ w1 (fun j => j < w.heap.size) np k3) => by
    have := zflying h
    rw [k2_facts.2.1] at this
    exact this)
  have HN3 := hidIn (fun w1 np (h : NetZ w1 (fun j => j < w.heap.size) np k3) => by
    have := znow h
    rw [k2_facts.2.2] at this
    exact this)
  have hq := fun a0 a1 a2 b0 b1 b2 w => eq_Ft a0 a1 a2 b0 b1 b2 w
  go_enter Try.func7, Try.ntmps7
  go_wp2_with fail
  refine H3.out.mono ?_
  rintro e w1 ⟨⟨np, rfl, hZ⟩, hb1⟩
  have HZ1 := hidIn (hZ (fun j => j < w.heap.size) (fun j hj => hj))
  have HB1 := hidIn hb1
  have HS1 := hidIn (HS.out w1 np HZ1.out)
  clear hZ hb1 H3 HS
  go_wp2_with fail
  refine HS1.out.mono ?_
  rintro e w2 ⟨rfl, hz2, hf2⟩
  have HZ2 : Hid (NetZ w2 (fun j => j < w.heap.size) np k1) := hidIn hz2
  have HB2 := hidIn (HB1.out.trans (fr_low hf2 HB1.out.size))
  clear hz2 hf2 HS1 HZ1 HB1
  obtain ⟨W3, hW3⟩ : ∃ W3, w2.alloc (.cells #[.int .i64 1, .int .i64 0, .int .i64 0] 33) = W3 := ⟨_, rfl⟩
  have b3 : Below w2.heap.size w2 W3 := by rw [← hW3]; exact (Below.refl _ w2).alloc (Nat.le_refl _) _
  have hX : W3.heap[w2.heap.size]? = some (.cells #[.int .i64 1, .int .i64 0, .int .i64 0] 33) := by rw [← hW3]; exact heap_alloc_last w2 _
  have x0 := cell_of_row _ _ 0 _ _ _ hX
  have x1 := cell_of_row _ _ 1 _ _ _ hX
  have x2 := cell_of_row _ _ 2 _ _ _ hX
  simp at x0 x1 x2
  have HZ3 := hidIn (HZ2.out.below b3)
  have HB3 := hidIn (HB2.out.trans (b3.mono HB2.out.size))
  have HFl := hidIn (HF1.out W3 np HZ3.out)
  have HTk := hidIn (HT1.out W3 np HZ3.out)
  have HW3 := hidIn hW3
  clear b3 hX hW3 HZ2 HB2 HF1 HT1
  go_upto_region 5 with fail
  rw [HW3.out]
  go_wp2_with (go_at_call 17; refine HFl.out.mono ?_; rintro e w9 ⟨rfl, hw9⟩; rw [hw9]; clear hw9 w9)
  refine HTk.out.mono ?_
  rintro e w4 ⟨⟨v, rfl, hrow, hz4⟩, hf4⟩
  have HZ4 : Hid (NetZ w4 (fun j => j < w.heap.size) np k2) := hidIn (hz4.less (fun j hj => .inl hj))
  have HB4 := hidIn (HB3.out.trans (fr_low hf4 HB3.out.size))
  have HTk2 := hidIn (HT2.out w4 np HZ4.out)
  obtain ⟨va, vc, rfl⟩ := row_shape hrow
  clear hrow hz4 hf4 HTk HT2 x0 x1 x2
  go_wp2_with fail
  refine HTk2.out.mono ?_
  rintro e w5 ⟨⟨v, rfl, hrow, hz5⟩, hf5⟩
  have HZ5 : Hid (NetZ w5 (fun j => j < w.heap.size) np k3) := hidIn (hz5.less (fun j hj => .inl hj))
  have HB5 := hidIn (HB4.out.trans (fr_low hf5 HB4.out.size))
  have HO := hidIn (one_any (slAt_of_row (cs := arC) (fun _ => rfl) hrow rfl) 1 2 ⟨#[97]⟩)
  have HE : Hid (oneB [(1, 2, ⟨#[97]⟩)] 1 2 ⟨#[97]⟩ = true) := hidIn (by simp [oneB])
  rw [HE.out] at HO
  have HFl3 := hidIn (HF3.out w5 np HZ5.out)
  have HNw3 := hidIn (HN3.out w5 np HZ5.out)
  obtain ⟨va, vc, rfl⟩ := row_shape hrow
  clear hrow hz5 hf5 HTk2 HF3 HN3
  go_wp2_with (first
    | (go_at_call 22; refine HO.out.mono ?_; rintro e w9 ⟨rfl, hw9⟩; rw [hw9]; clear hw9 w9)
    | (go_at_call 17; refine HFl3.out.mono ?_; rintro e w9 ⟨rfl, hw9⟩; rw [hw9]; clear hw9 w9)
    | (go_at_call 18; refine HNw3.out.mono ?_; rintro e w9 ⟨rfl, hw9⟩; rw [hw9]; clear hw9 w9))
  go_returns
  exact ⟨rfl, HB5.out⟩
end Go.Proofs.Ytkhfpcnmnnboeaa.Nt
namespace Go.Proofs.Ytkhfpcnmnnboeaa.Nt
open Go.RowKit Go.Proofs.Ytkhfpcnmnnboeaa.Fa

set_option maxRecDepth 100000 in
theorem new_no1 {w : World} {ns : List Int} {ls : List Ed} {lt : Int} {v u r : Value} (hv : SlAt ic 1 w v ns) (hu : SlAt ec 3 w u ls) (hr : ∃ a n c, r = .slice a n c) (h0 : ofC ns ls ≠ 0) :
    Calls Try.prog 19 #[v, u, r, .int .i64 lt] w fun e w' => e = .returned (.tuple #[nilQ, .int .i64 (ofC ns ls)]) ∧ Below w.heap.size w w' := by
  have HOf := hidIn (of_any hv hu)
  obtain ⟨c, hc⟩ : ∃ c, ofC ns ls = c := ⟨_, rfl⟩
  rw [hc] at h0 ⊢
  have hb0 : (c != 0) = true := by simpa using h0
  have Hc := hidIn hc
  obtain ⟨a1, c1, rfl, _⟩ := hv.ints
  obtain ⟨a2, c2, rfl, _⟩ := hu.eds
  obtain ⟨a3, n3, c3, rfl⟩ := hr
  clear hv hu hc
  go_enter Try.func19, Try.ntmps19
  go_wp2_with fail
  refine HOf.out.mono ?_
  rintro e w1 ⟨⟨ua, ucap, va, vcap, rfl, hrv, hre⟩, hb1⟩
  rw [Hc.out]
  have HB := hidIn (hb1.alloc hb1.size (.cells #[.slice ua (ofN ns ls).length ucap, .slice va (ofE ns ls).length vcap] 57))
  clear hrv hre hb1 HOf
  go_wp2_with fail
  go_returns
  exact ⟨rfl, HB.out⟩
set_option maxRecDepth 100000 in
theorem new_no2 {w : World} {ns : List Int} {ls : List Ed} {lt : Int} {v u r : Value} (hv : SlAt ic 1 w v ns) (hu : SlAt ec 3 w u ls) (hr : ∃ a n c, r = .slice a n c) (h0 : ofC ns ls = 0) (hl : lt < 1) :
    Calls Try.prog 19 #[v, u, r, .int .i64 lt] w fun e w' => e = .returned (.tuple #[nilQ, .int .i64 2]) ∧ Below w.heap.size w w' := by
  have HOf := hidIn (of_any hv hu)
  have H0 := hidIn h0
  obtain ⟨a1, c1, rfl, _⟩ := hv.ints
  obtain ⟨a2, c2, rfl, _⟩ := hu.eds
  obtain ⟨a3, n3, c3, rfl⟩ := hr
  clear hv hu h0
  go_enter Try.func19, Try.ntmps19
  go_wp2_with fail
  refine HOf.out.mono ?_
  rintro e w1 ⟨⟨ua, ucap, va, vcap, rfl, hrv, hre⟩, hb1⟩
  rw [H0.out]
  have HB := hidIn (hb1.alloc hb1.size (.cells #[.slice ua (ofN ns ls).length ucap, .slice va (ofE ns ls).length vcap] 57))
  clear hrv hre hb1 HOf
  go_wp2_with fail
  go_returns
  exact ⟨rfl, HB.out⟩
set_option maxRecDepth 100000 in
theorem new_no3 {w : World} {ns : List Int} {ls : List Ed} {R : List Ru} {lt n c : Int} {v u r : Value} (hv : SlAt ic 1 w v ns) (hu : SlAt ec 3 w u ls) (hr : SlAt ruC 5 w r R) (h0 : ofC ns ls = 0) (hl : 1 ≤ lt ∧ lt ≤ 64) (hc : chkR R = (n, c)) (hne : c ≠ 0) :
    Calls Try.prog 19 #[v, u, r, .int .i64 lt] w fun e w' => e = .returned (.tuple #[nilQ, .int .i64 c]) ∧ Below w.heap.size w w' := by
  have HOf := hidIn (of_any hv hu)
  have HF := hidIn (fun w1 (hb : Below w.heap.size w w1) => fnew_no (hr.keep hb (Nat.le_refl _)) hc hne)
  have H0 := hidIn h0
  obtain ⟨a1, c1, rfl, _⟩ := hv.ints
  obtain ⟨a2, c2, rfl, _⟩ := hu.eds
  obtain ⟨a3, c3, rfl, _⟩ := hr
  have hb0 : (c != 0) = true := by simpa using hne
  have hlt1 : ¬ lt < 1 := by omega
  have hlt2 : ¬ (64 : Int) < lt := by omega
  clear hv hu h0 hc
  go_enter Try.func19, Try.ntmps19
  go_wp2_with fail
  refine HOf.out.mono ?_
  rintro e w1 ⟨⟨ua, ucap, va, vcap, rfl, hrv, hre⟩, hb1⟩
  rw [H0.out]
  obtain ⟨W2, hW2⟩ : ∃ W2, w1.alloc (.cells #[.slice ua (ofN ns ls).length ucap, .slice va (ofE ns ls).length vcap] 57) = W2 := ⟨_, rfl⟩
  have b2 : Below w.heap.size w W2 := by rw [← hW2]; exact hb1.alloc hb1.size _
  have HF2 := hidIn (HF.out W2 b2)
  have HB := hidIn b2
  have HW2 := hidIn hW2
  clear hrv hre hb1 HOf HF b2 hW2
  go_upto_region 4 with fail
  rw [HW2.out]
  clear HW2
  go_wp2_with fail
  refine HF2.out.mono ?_
  rintro e w3 ⟨rfl, hb3⟩
  have HB3 := hidIn (HB.out.trans (hb3.mono HB.out.size))
  clear hb3 HF2
  go_wp2_with fail
  go_returns
  exact ⟨rfl, HB3.out⟩
/-- A net that is none: nil, or one that New did not make. -/
def None8 (w : World) (v : Value) : Prop := (v = nilQ ∨ ∃ b, v = pp b ∧ b < w.heap.size ∧ w.cell? ⟨b, 0, none⟩ = some nilQ)
theorem None8.keep {w w' : World} {v : Value} (h : None8 w v) (hb : Below w.heap.size w w') : None8 w' v := by
  rcases h with h | ⟨b, h1, h2, h3⟩
  · exact .inl h
  · exact .inr ⟨b, h1, Nat.lt_of_lt_of_le h2 hb.size, (hb.cell (p := ⟨b, 0, none⟩) h2).trans h3⟩
theorem None8.there {w : World} {v : Value} (h : None8 w v) : Calls Try.prog 32 #[v] w fun e w' => e = .returned (.bool false) ∧ w' = w := by
  rcases h with rfl | ⟨b, rfl, _, h3⟩
  · exact nthere_nil w
  · exact nthere_no h3
set_option maxRecDepth 100000 in
theorem noLk_none {w : World} {v : Value} (h : None8 w v) (a b : Int) : Calls Try.prog 26 #[v, .int .i64 a, .int .i64 b] w fun e w' => e = .returned (.int .i64 1) ∧ Below w.heap.size w w' := by
  obtain ⟨W1, hW1⟩ : ∃ W1, (w.alloc (.cells #[.int .i64 a] 3)).alloc (.cells #[.int .i64 b] 3) = W1 := ⟨_, rfl⟩
  have b1 : Below w.heap.size w W1 := by rw [← hW1]; exact ((Below.refl _ w).alloc (Nat.le_refl _) _).alloc (by simp) _
  have HT := hidIn (h.keep b1).there
  have HB := hidIn b1
  have HW := hidIn hW1
  clear b1 hW1
  go_enter Try.func26, Try.ntmps26
  go_upto_region 1 with fail
  rw [HW.out]
  clear HW
  go_wp2_with (go_at_call 32; refine HT.out.mono ?_; rintro e w1 ⟨rfl, hw1⟩; rw [hw1]; clear hw1 w1)
  go_returns
  exact ⟨rfl, HB.out⟩
set_option maxRecDepth 100000 in
theorem noRt_none {w : World} {v : Value} (h : None8 w v) (a : Int) : Calls Try.prog 31 #[v, .int .i64 a] w fun e w' => e = .returned (.int .i64 1) ∧ w' = w := by
  have HT := hidIn h.there
  go_enter Try.func31, Try.ntmps31
  go_wp2_with (go_at_call 32; refine HT.out.mono ?_; rintro e w1 ⟨rfl, hw1⟩; rw [hw1]; clear hw1 w1)
  go_returns
  exact ⟨rfl, rfl⟩
set_option maxRecDepth 100000 in
theorem refused_none {w : World} {v : Value} (h : None8 w v) (a b : Int) (s : ByteArray) : Calls Try.prog 23 #[v, .int .i64 a, .int .i64 b, .string s] w fun e w' => e = .returned (.int .i64 1) ∧ Below w.heap.size w w' := by
  have HL := hidIn (noLk_none h a b)
  go_enter Try.func23, Try.ntmps23
  go_wp2_with fail
  refine HL.out.mono ?_
  rintro e w1 ⟨rfl, hb1⟩
  have HB := hidIn hb1
  clear hb1 HL
  go_wp2_with fail
  go_returns
  exact ⟨rfl, HB.out⟩
set_option maxRecDepth 100000 in
set_option maxHeartbeats 2000000 in
theorem send_none {w : World} {v : Value} (h : None8 w v) (a b : Int) (s : ByteArray) :
    Calls Try.prog 10 #[v, .int .i64 a, .int .i64 b, .string s] w fun e w' => e = .returned (.tuple #[ftV (0, 0, 0), .int .i64 1]) ∧ Below w.heap.size w w' := by
  obtain ⟨W0, hW0⟩ : ∃ W0, w.alloc (.cells #[.int .i64 0, .int .i64 0, .int .i64 0] 33) = W0 := ⟨_, rfl⟩
  have b0 : Below w.heap.size w W0 := by rw [← hW0]; exact (Below.refl _ w).alloc (Nat.le_refl _) _
  have hR : W0.heap[w.heap.size]? = some (.cells #[.int .i64 0, .int .i64 0, .int .i64 0] 33) := by rw [← hW0]; exact heap_alloc_last w _
  have HRf := hidIn (refused_none (h.keep b0) a b s)
  obtain ⟨rb, hrb⟩ : ∃ rb, w.heap.size = rb := ⟨_, rfl⟩
  rw [hrb] at b0 hR ⊢
  have HW := hidIn hW0
  have Hrb := hidIn hrb
  have HB := hidIn b0
  have HR := hidIn hR
  have hs0 : rb < W0.heap.size := block_lt hR
  clear hW0 b0 hR h hrb
  go_enter Try.func10, Try.ntmps10
  go_upto_region 1 with fail
  rw [HW.out, Hrb.out]
  clear HW Hrb
  go_wp2_with fail
  refine HRf.out.mono ?_
  rintro e w1 ⟨rfl, hb1⟩
  have hR1 := (hb1.block _ hs0).trans HR.out
  have r0 := cell_of_row _ _ 0 _ _ _ hR1
  have r1 := cell_of_row _ _ 1 _ _ _ hR1
  have r2 := cell_of_row _ _ 2 _ _ _ hR1
  have f0 := frozen_new hR1 0
  have f1 := frozen_new hR1 1
  have f2 := frozen_new hR1 2
  simp at r0 r1 r2
  have HB1 := hidIn (HB.out.trans (hb1.mono (by omega)))
  have HR1 := hidIn hR1
  clear hb1 HRf HB HR hR1
  obtain ⟨w3, hw3⟩ : ∃ w3, ((w1.setCell ⟨rb, 0, none⟩ (.int .i64 0)).setCell ⟨rb, 1, none⟩ (.int .i64 0)).setCell ⟨rb, 2, none⟩ (.int .i64 0) = w3 := ⟨_, rfl⟩
  have hR3 : w3.heap[rb]? = some (.cells #[.int .i64 0, .int .i64 0, .int .i64 0] 33) := by rw [← hw3]; exact set_ft HR1.out
  have HB3 : Hid (Below rb w w3) := hidIn (by rw [← hw3]; exact below_ft HB1.out (Nat.le_refl _) _ _ _)
  have HR3 := hidIn hR3
  have HW3 := hidIn hw3
  clear hR3 hw3
  go_wp2_with fail
  rw [HW3.out]
  have g0 := cell_of_row _ _ 0 _ _ _ HR3.out
  have g1 := cell_of_row _ _ 1 _ _ _ HR3.out
  have g2 := cell_of_row _ _ 2 _ _ _ HR3.out
  simp at g0 g1 g2
  exact bodyPost_ret (v := .tuple #[ftV (0, 0, 0), .int .i64 1]) (by simp [results, Try.results10, asAddr, Result.andThen, go_sem, g0, g1, g2]) rfl ⟨rfl, HB3.out⟩
set_option maxRecDepth 100000 in
theorem cut_none {w : World} {v : Value} (h : None8 w v) (a b : Int) : Calls Try.prog 12 #[v, .int .i64 a, .int .i64 b] w fun e w' => e = .returned (.tuple #[.slice none 0 0, .int .i64 1]) ∧ Below w.heap.size w w' := by
  have HL := hidIn (noLk_none h a b)
  go_enter Try.func12, Try.ntmps12
  go_wp2_with fail
  refine HL.out.mono ?_
  rintro e w1 ⟨rfl, hb1⟩
  have HB := hidIn hb1
  clear hb1 HL
  go_wp2_with fail
  go_returns
  exact ⟨rfl, HB.out⟩
set_option maxRecDepth 100000 in
theorem mend_none {w : World} {v : Value} (h : None8 w v) (a b : Int) : Calls Try.prog 13 #[v, .int .i64 a, .int .i64 b] w fun e w' => e = .returned (.int .i64 1) ∧ Below w.heap.size w w' := by
  have HL := hidIn (noLk_none h a b)
  go_enter Try.func13, Try.ntmps13
  go_wp2_with fail
  refine HL.out.mono ?_
  rintro e w1 ⟨rfl, hb1⟩
  have HB := hidIn hb1
  clear hb1 HL
  go_wp2_with fail
  go_returns
  exact ⟨rfl, HB.out⟩
set_option maxRecDepth 100000 in
theorem up_none {w : World} {v : Value} (h : None8 w v) (a b : Int) : Calls Try.prog 11 #[v, .int .i64 a, .int .i64 b] w fun e w' => e = .returned (.bool false) ∧ Below w.heap.size w w' := by
  have HL := hidIn (noLk_none h a b)
  go_enter Try.func11, Try.ntmps11
  go_wp2_with fail
  refine HL.out.mono ?_
  rintro e w1 ⟨rfl, hb1⟩
  have HB := hidIn hb1
  clear hb1 HL
  go_wp2_with fail
  go_returns
  exact ⟨rfl, HB.out⟩
set_option maxRecDepth 100000 in
theorem near_none8 {w : World} {v : Value} (h : None8 w v) (a : Int) : Calls Try.prog 21 #[v, .int .i64 a] w fun e w' => e = .returned (.tuple #[.slice none 0 0, .int .i64 1]) ∧ w' = w := by
  have HNo := hidIn (noRt_none h a)
  go_enter Try.func21, Try.ntmps21
  go_wp2_with (go_at_call 31; refine HNo.out.mono ?_; rintro e w1 ⟨rfl, hw1⟩; rw [hw1]; clear hw1 w1)
  go_returns
  exact ⟨rfl, rfl⟩
set_option maxRecDepth 100000 in
theorem start_none {w : World} {v : Value} (h : None8 w v) (a : Int) : Calls Try.prog 15 #[v, .int .i64 a] w fun e w' => e = .returned (.int .i64 1) ∧ w' = w := by
  have HNo := hidIn (noRt_none h a)
  go_enter Try.func15, Try.ntmps15
  go_wp2_with (go_at_call 31; refine HNo.out.mono ?_; rintro e w1 ⟨rfl, hw1⟩; rw [hw1]; clear hw1 w1)
  go_returns
  exact ⟨rfl, rfl⟩
set_option maxRecDepth 100000 in
theorem tick_none {w : World} {v : Value} (h : None8 w v) : Calls Try.prog 16 #[v] w fun e w' => e = .returned (.slice none 0 0) ∧ w' = w := by
  have HT := hidIn h.there
  go_enter Try.func16, Try.ntmps16
  go_wp2_with (go_at_call 32; refine HT.out.mono ?_; rintro e w1 ⟨rfl, hw1⟩; rw [hw1]; clear hw1 w1)
  go_returns
  exact ⟨rfl, rfl⟩
set_option maxRecDepth 100000 in
theorem now_none {w : World} {v : Value} (h : None8 w v) : Calls Try.prog 18 #[v] w fun e w' => e = .returned (.int .u64 0) ∧ w' = w := by
  have HT := hidIn h.there
  go_enter Try.func18, Try.ntmps18
  go_wp2_with (go_at_call 32; refine HT.out.mono ?_; rintro e w1 ⟨rfl, hw1⟩; rw [hw1]; clear hw1 w1)
  go_returns
  exact ⟨rfl, rfl⟩
set_option maxRecDepth 100000 in
theorem flying_none {w : World} {v : Value} (h : None8 w v) : Calls Try.prog 17 #[v] w fun e w' => e = .returned (.int .i64 0) ∧ w' = w := by
  have HT := hidIn h.there
  go_enter Try.func17, Try.ntmps17
  go_wp2_with (go_at_call 32; refine HT.out.mono ?_; rintro e w1 ⟨rfl, hw1⟩; rw [hw1]; clear hw1 w1)
  go_returns
  exact ⟨rfl, rfl⟩
set_option maxRecDepth 100000 in
set_option maxHeartbeats 1000000 in
theorem graph_none {w : World} {v : Value} (h : None8 w v) : Calls Try.prog 20 #[v] w fun e w' => e = .returned (.tuple #[grV (.slice none 0 0) (.slice none 0 0), .int .i64 1]) ∧ Below w.heap.size w w' := by
  obtain ⟨W0, hW0⟩ : ∃ W0, w.alloc nilG = W0 := ⟨_, rfl⟩
  have b0 : Below w.heap.size w W0 := by rw [← hW0]; exact (Below.refl _ w).alloc (Nat.le_refl _) _
  have hG : W0.heap[w.heap.size]? = some nilG := by rw [← hW0]; exact heap_alloc_last w _
  have HT := hidIn (h.keep b0).there
  obtain ⟨gb, hgb⟩ : ∃ gb, w.heap.size = gb := ⟨_, rfl⟩
  rw [hgb] at hG b0 ⊢
  have e0 := cell_of_row _ _ 0 _ _ _ hG
  have e1 := cell_of_row _ _ 1 _ _ _ hG
  have f0 := frozen_new hG 0
  have f1 := frozen_new hG 1
  simp at e0 e1
  obtain ⟨w3, hw3⟩ : ∃ w3, (W0.setCell ⟨gb, 0, none⟩ (.slice none 0 0)).setCell ⟨gb, 1, none⟩ (.slice none 0 0) = w3 := ⟨_, rfl⟩
  have hG3 : w3.heap[gb]? = some nilG := by
    rw [← hw3]
    exact heap_setCell_same _ gb 1 _ _ _ (heap_setCell_same W0 gb 0 _ _ _ hG)
  have HB : Hid (Below gb w w3) := hidIn (by
    rw [← hw3]
    exact (b0.setCell (p := ⟨gb, 0, none⟩) (Nat.le_refl _) _).setCell (p := ⟨gb, 1, none⟩) (Nat.le_refl _) _)
  have HG3 := hidIn hG3
  have HW3 := hidIn hw3
  have HW := hidIn hW0
  have Hgb := hidIn hgb
  clear hG b0 hG3 hw3 hW0 hgb
  go_enter Try.func20, Try.ntmps20
  go_upto_region 1 with fail
  rw [HW.out, Hgb.out]
  clear HW Hgb
  go_wp2_with (go_at_call 32; refine HT.out.mono ?_; rintro e w1 ⟨rfl, hw1⟩; rw [hw1]; clear hw1 w1)
  rw [HW3.out]
  have g0 := cell_of_row _ _ 0 _ _ _ HG3.out
  have g1 := cell_of_row _ _ 1 _ _ _ HG3.out
  simp at g0 g1
  exact bodyPost_ret (v := .tuple #[grV (.slice none 0 0) (.slice none 0 0), .int .i64 1]) (by simp [results, Try.results20, asAddr, Result.andThen, go_sem, g0, g1]) rfl ⟨rfl, HB.out⟩
end Go.Proofs.Ytkhfpcnmnnboeaa.Nt
namespace Go.Proofs.Ytkhfpcnmnnboeaa.Nt
open Go.RowKit Go.Proofs.Ytkhfpcnmnnboeaa.Fa

def bigS : ByteArray := ⟨(List.replicate 513 (0 : UInt8)).toArray⟩
theorem bigS_size : bigS.size = 513 := by kernel_rfl
def q0 : Nv := n3 [] 2
def q1 : Nv := sendZ q0 1 3 ⟨#[97]⟩
def q2 : Nv := sendZ q1 1 2 bigS
def q3 : Nv := sendZ q2 2 3 ⟨#[98]⟩
def q4 : Nv := cutZ q3 3 2
def q5 : Nv := cutZ q4 2 3
def q6 : Nv := sendZ q5 2 3 ⟨#[99]⟩
def q7 : Nv := mendZ q6 2 3
def q8 : Nv := mendZ q7 2 3
def q9 : Nv := mendZ q8 1 3
def q10 : Nv := stopZ q9 2
def q11 : Nv := stopZ q10 2
def q12 : Nv := stopZ q11 4
def q13 : Nv := startZ q12 2
def q14 : Nv := startZ q13 2
def mR : List Ru := [(1, 2, 1, 2, 3)]
def m0 : Nv := n3 mR 2
def m1 : Nv := sendZ m0 1 2 ⟨#[97]⟩
def m2 : Nv := tickN m1
def m3 : Nv := tickN m2
def m4 : Nv := tickN m3
def m5 : Nv := tickN m4
def m6 : Nv := tickN m5
theorem q0_f : refE q0 1 3 (⟨#[97]⟩ : ByteArray).size = 2 ∧ sendF q0 1 3 (⟨#[97]⟩ : ByteArray).size = (0, 0, 0) := ⟨by kernel_rfl, by kernel_rfl⟩
theorem q1_f : refE q1 1 2 bigS.size = 3 ∧ sendF q1 1 2 bigS.size = (0, 0, 0) := by rw [bigS_size]; exact ⟨by kernel_rfl, by kernel_rfl⟩
theorem q2_f : refE q2 2 3 (⟨#[98]⟩ : ByteArray).size = 0 ∧ sendF q2 2 3 (⟨#[98]⟩ : ByteArray).size = (1, 0, 0) := ⟨by kernel_rfl, by kernel_rfl⟩
theorem q3_f : cutE q3 3 2 = 0 ∧ cutL q3 3 2 = [(2, 3, ⟨#[98]⟩)] := ⟨by kernel_rfl, by kernel_rfl⟩
theorem q4_f : cutE q4 2 3 = 7 := by kernel_rfl
theorem q5_f : refE q5 2 3 (⟨#[99]⟩ : ByteArray).size = 9 ∧ sendF q5 2 3 (⟨#[99]⟩ : ByteArray).size = (0, 0, 0) := ⟨by kernel_rfl, by kernel_rfl⟩
theorem q6_f : noRt q6 2 = 0 ∧ nearZ q6 2 = [(1, 5)] ∧ (lkQ q6 2 3 && upQ q6 2 3) = false ∧ mendE q6 2 3 = 0 := ⟨by kernel_rfl, by kernel_rfl, by kernel_rfl, by kernel_rfl⟩
theorem q7_f : mendE q7 2 3 = 6 ∧ mendE q8 1 3 = 2 := ⟨by kernel_rfl, by kernel_rfl⟩
theorem q9_f : stopE q9 2 = 0 ∧ stopE q10 2 = 7 ∧ stopE q11 4 = 2 := ⟨by kernel_rfl, by kernel_rfl, by kernel_rfl⟩
theorem q12_f : noRt q12 1 = 0 ∧ nearZ q12 1 = [] ∧ startE q12 2 = 0 ∧ startE q13 2 = 6 := ⟨by kernel_rfl, by kernel_rfl, by kernel_rfl, by kernel_rfl⟩
theorem m0_f : refE m0 1 2 (⟨#[97]⟩ : ByteArray).size = 0 ∧ sendF m0 1 2 (⟨#[97]⟩ : ByteArray).size = (2, 0, 3) := ⟨by kernel_rfl, by kernel_rfl⟩
theorem m1_f : comeN m1 = [] ∧ comeN m2 = [(1, 2, ⟨#[97]⟩)] ∧ comeN m3 = [] ∧ comeN m4 = [] ∧ comeN m5 = [(1, 2, ⟨#[97]⟩)] := ⟨by kernel_rfl, by kernel_rfl, by kernel_rfl, by kernel_rfl, by kernel_rfl⟩
theorem mR_chk : chkR mR = (0, 0) := by kernel_rfl
theorem r65_chk : chkR (List.replicate 65 (0, 0, 0, 0, 0)) = (64, 3) := chk_long (by simp)
theorem ofA : ofC [1, 2] [(1, 2, 5)] = 0 := by kernel_rfl
theorem ofB : ofC [1, 1] [] = 2 := by kernel_rfl
theorem ofD : ofC [1, 2] [] = 0 := by kernel_rfl
theorem q_ok : NvOk q0 0 ∧ NvOk q1 3 ∧ NvOk q2 6 ∧ NvOk q3 9 ∧ NvOk q4 10 ∧ NvOk q5 11 ∧ NvOk q6 14 ∧ NvOk q7 15 ∧ NvOk q8 16 ∧ NvOk q9 17 ∧ NvOk q10 17 ∧ NvOk q11 17 ∧ NvOk q12 17 ∧ NvOk q13 17 := by
  have h0 : NvOk q0 0 := n3_ok (by omega) (by decide)
  have h1 : NvOk q1 3 := h0.sendZ 1 3 _
  have h2 : NvOk q2 6 := h1.sendZ 1 2 _
  have h3 : NvOk q3 9 := h2.sendZ 2 3 _
  have h4 : NvOk q4 10 := h3.cutZ 3 2
  have h5 : NvOk q5 11 := h4.cutZ 2 3
  have h6 : NvOk q6 14 := h5.sendZ 2 3 _
  have h7 : NvOk q7 15 := h6.mendZ 2 3
  have h8 : NvOk q8 16 := h7.mendZ 2 3
  have h9 : NvOk q9 17 := h8.mendZ 1 3
  have h10 : NvOk q10 17 := h9.stopZ 2
  have h11 : NvOk q11 17 := h10.stopZ 2
  have h12 : NvOk q12 17 := h11.stopZ 4
  exact ⟨h0, h1, h2, h3, h4, h5, h6, h7, h8, h9, h10, h11, h12, h12.startZ 2⟩
theorem m_ok : NvOk m0 0 ∧ NvOk m1 3 ∧ NvOk m2 4 ∧ NvOk m3 5 ∧ NvOk m4 6 ∧ NvOk m5 7 := by
  have h0 : NvOk m0 0 := n3_ok (by omega) mR_chk
  have h1 : NvOk m1 3 := h0.sendZ 1 2 _
  exact ⟨h0, h1, h1.tick, h1.tick.tick, h1.tick.tick.tick, h1.tick.tick.tick.tick⟩
theorem make513 (w : World) : (Instr.makeSlice 23 (.int .i64 513) (.int .i64 513)).run Try.prog w = .ok (.slice (some ⟨w.heap.size, 0, none⟩) 513 513) (w.alloc (.cells (List.replicate 513 (Value.int .u8 0)).toArray 5)) := by kernel_rfl
theorem make65 (w : World) : (Instr.makeSlice 22 (.int .i64 65) (.int .i64 65)).run Try.prog w = .ok (.slice (some ⟨w.heap.size, 0, none⟩) 65 65) (w.alloc (.cells (List.replicate 325 (Value.int .i64 0)).toArray 70)) := by kernel_rfl
theorem zeroNt : Try.prog.built 76 [] = some (nilQ :: .slice none 0 0 :: .slice none 0 0 :: .int .i64 0 :: .pointer none :: .pointer none :: .map none :: (mcl no1 ++ [.int .u64 0])).toArray := by kernel_rfl
end Go.Proofs.Ytkhfpcnmnnboeaa.Nt
namespace Go.Proofs.Ytkhfpcnmnnboeaa.Nt
open Go.RowKit Go.Proofs.Ytkhfpcnmnnboeaa.Fa

theorem conv513 {W : World} {b : Nat} {ZB : Array Value} (hZ : (List.replicate 513 (Value.int .u8 0)).toArray = ZB) (h : W.heap[b]? = some (.cells ZB 5)) : (convert 23 9 (.slice (some ⟨b, 0, none⟩) 513 513)).run Try.prog W = .ok (.string bigS) W := by
  have := run_convert_bytes_arg (P := Try.prog) W 23 5 Try.underlying23 Try.underlying5 b 0 513 513 (List.replicate 513 0) List.length_replicate (fun i hi => by
    rw [cell_of_row _ _ _ _ _ _ h, ← hZ, Nat.zero_add, List.getElem?_toArray, List.getElem?_replicate, if_pos hi, List.getD_eq_getElem?_getD, List.getElem?_replicate, if_pos hi]
    rfl) 9 Try.underlying9
  rw [show strOfNums (List.replicate 513 0) = bigS from by kernel_rfl] at this
  exact this
theorem row65 {W : World} {b : Nat} {ZB : Array Value} (hZ : (List.replicate 325 (Value.int .i64 0)).toArray = ZB) (h : W.heap[b]? = some (.cells ZB 70)) : SlAt ruC 5 W (.slice (some ⟨b, 0, none⟩) 65 65) (List.replicate 65 (0, 0, 0, 0, 0)) := by
  have h1 : fl ruC (List.replicate 65 ((0, 0, 0, 0, 0) : Ru)) = List.replicate 325 (Value.int .i64 0) := by kernel_rfl
  rw [← hZ, ← h1] at h
  have := slAt_block (cs := ruC) (sz := 5) (l := List.replicate 65 ((0, 0, 0, 0, 0) : Ru)) (cap := 65) (fun _ => rfl) h (by simp) (by omega)
  rw [List.length_replicate] at this
  exact this
/-- The cells of a net that is none. -/
def nzC : Array Value := (nilQ :: .slice none 0 0 :: .slice none 0 0 :: .int .i64 0 :: .pointer none :: .pointer none :: .map none :: (mcl no1 ++ [.int .u64 0])).toArray
theorem l_buildNt0 {ops : Array Oper} {rest : List Oper} {o : Oper} {a : Act} {w : World} {Q : Exit → Act → World → Prop} (hg : o.guard = none) (ho : o.op = .build 76 #[])
    (h : wpList Try.prog ops Q rest (a.put o.dst (.agg nzC)) w) : wpList Try.prog ops Q (o :: rest) a w := by
  have hz : Try.prog.built 76 [] = some nzC := zeroNt
  refine wpList_build hg 76 #[] ho (by simp only [List.map_toArray, List.map_nil, hz, Option.isSome_some]) ?_
  simp only [List.map_toArray, List.map_nil, hz, Option.getD_some]
  exact h
theorem none_new (w : World) : None8 (w.alloc (.cells nzC 76)) (pp w.heap.size) := by
  have h := heap_alloc_last w (.cells nzC 76)
  exact .inr ⟨_, rfl, block_lt h, by rw [cell_of_row _ _ 0 _ _ _ h]; rfl⟩
theorem sl_nil {α : Type} (cs : α → List Value) (sz : Nat) (w : World) : SlAt cs sz w (.slice none 0 0) [] := ⟨none, 0, rfl, by simp, Nat.le_refl _, fun h => absurd h (by simp)⟩
set_option maxRecDepth 100000 in
set_option maxHeartbeats 40000000 in
theorem netKnown_walk (w : World) : Calls Try.prog 6 #[] w fun e w' => e = .returned (.bool true) ∧ Below w.heap.size w w' := by
  have H3 := hidIn (three_ok (w := w) (R := []) (lt := 2) (r := .slice none 0 0) ⟨none, 0, rfl, by simp, Nat.le_refl _, fun h => absurd h (by simp)⟩ (by omega) (by decide))
  go_enter Try.func6, Try.ntmps6
  go_wp2_with fail
  refine H3.out.mono ?_
  rintro e w1 ⟨⟨np, rfl, hZ⟩, hb1⟩
  have HZ1 : Hid (NetZ w1 (fun j => j < w.heap.size) np q0) := hidIn (hZ (fun j => j < w.heap.size) (fun j hj => hj))
  have HB1 := hidIn hb1
  clear hZ hb1 H3
  have HX := hidIn (by
    have := zsend HZ1.out (q_ok.1) (by omega) 1 3 ⟨#[97]⟩
    rw [q0_f.1, q0_f.2] at this
    exact this)
  go_wp2_with fail
  refine HX.out.mono ?_
  rintro e w2 ⟨rfl, hz, hf⟩
  have HZ2 : Hid (NetZ w2 (fun j => j < w.heap.size) np q1) := hidIn hz
  have HB2 := hidIn (HB1.out.trans (hf.below HB1.out.size (fun j hj => Nat.le_of_not_lt (fun h => hj h))))
  clear hz hf HX HZ1 HB1
  obtain ⟨w2a, hV⟩ : ∃ V, w2.alloc (.cells #[.int .i64 0, .int .i64 0, .int .i64 0] 33) = V := ⟨_, rfl⟩
  have bV : Below w2.heap.size w2 w2a := by rw [← hV]; exact (Below.refl _ w2).alloc (Nat.le_refl _) _
  have HZ2a := hidIn (HZ2.out.below bV)
  have HB2a := hidIn (HB2.out.trans (bV.mono HB2.out.size))
  have HV2a := hidIn hV
  clear hV bV HZ2 HB2
  go_upto_region 3 with fail
  rw [HV2a.out]
  clear HV2a
  obtain ⟨ZB, hZB⟩ : ∃ Z, (List.replicate 513 (Value.int .u8 0)).toArray = Z := ⟨_, rfl⟩
  have hmk : ∀ w, (Instr.makeSlice 23 (.int .i64 513) (.int .i64 513)).run Try.prog w = .ok (.slice (some ⟨w.heap.size, 0, none⟩) 513 513) (w.alloc (.cells ZB 5)) := fun w => by rw [← hZB]; exact make513 w
  have hcv := conv513 hZB (heap_alloc_last w2a (.cells ZB 5))
  clear hZB
  obtain ⟨w2aa, hV⟩ : ∃ V, w2a.alloc (.cells ZB 5) = V := ⟨_, rfl⟩
  have bV : Below w2a.heap.size w2a w2aa := by rw [← hV]; exact (Below.refl _ w2a).alloc (Nat.le_refl _) _
  have HZ2aa := hidIn (HZ2a.out.below bV)
  have HB2aa := hidIn (HB2a.out.trans (bV.mono HB2a.out.size))
  have HV2aa := hidIn hV
  clear hV bV HZ2a HB2a
  have HX := hidIn (by
    have := zsend HZ2aa.out (q_ok.2.1) (by omega) 1 2 bigS
    rw [q1_f.1, q1_f.2] at this
    exact this)
  go_wp2_with fail
  rw [HV2aa.out]
  clear HV2aa
  refine HX.out.mono ?_
  rintro e w3 ⟨rfl, hz, hf⟩
  have HZ3 : Hid (NetZ w3 (fun j => j < w.heap.size) np q2) := hidIn hz
  have HB3 := hidIn (HB2aa.out.trans (hf.below HB2aa.out.size (fun j hj => Nat.le_of_not_lt (fun h => hj h))))
  clear hz hf HX hmk hcv
  obtain ⟨w3a, hV⟩ : ∃ V, w3.alloc (.cells #[.int .i64 0, .int .i64 0, .int .i64 0] 33) = V := ⟨_, rfl⟩
  have bV : Below w3.heap.size w3 w3a := by rw [← hV]; exact (Below.refl _ w3).alloc (Nat.le_refl _) _
  have HZ3a := hidIn (HZ3.out.below bV)
  have HB3a := hidIn (HB3.out.trans (bV.mono HB3.out.size))
  have HV3a := hidIn hV
  clear hV bV HZ3 HB3
  have HX := hidIn (by
    have := zsend HZ3a.out (q_ok.2.2.1) (by omega) 2 3 ⟨#[98]⟩
    rw [q2_f.1, q2_f.2] at this
    exact this)
  go_wp2_with fail
  rw [HV3a.out]
  clear HV3a
  refine HX.out.mono ?_
  rintro e w4 ⟨rfl, hz, hf⟩
  have HZ4 : Hid (NetZ w4 (fun j => j < w.heap.size) np q3) := hidIn hz
  have HB4 := hidIn (HB3a.out.trans (hf.below HB3a.out.size (fun j hj => Nat.le_of_not_lt (fun h => hj h))))
  clear hz hf HX HZ3a HB3a
  have HX := hidIn (by
    have := zcut HZ4.out (q_ok.2.2.2.1) (by omega) 3 2
    rw [q3_f.1, q3_f.2] at this
    exact this)
  go_wp2_with fail
  refine HX.out.mono ?_
  rintro e w5 ⟨⟨v, rfl, hrow, hz⟩, hf⟩
  obtain ⟨la, lc, rfl⟩ := row_shape hrow
  have HZ5 : Hid (NetZ w5 (fun j => j < w.heap.size ∨ (Value.slice la 1 lc).ownBlock = some j) np q4) := hidIn hz
  have HB5 := hidIn (HB4.out.trans (hf.below HB4.out.size (fun j hj => Nat.le_of_not_lt (fun h => hj h))))
  have HL5 := hidIn hrow
  clear hrow hz hf HX HZ4 HB4
  rw [show ([(2, 3, ⟨#[98]⟩)] : List Ar).length = 1 from rfl] at HL5
  have HX := hidIn (by
    have := zcut HZ5.out (q_ok.2.2.2.2.1) (by omega) 2 3
    rw [q4_f] at this
    exact this)
  go_wp2_with fail
  refine HX.out.mono ?_
  rintro e w6 ⟨⟨v, rfl, hrow, hz⟩, hf⟩
  have HZ6 : Hid (NetZ w6 (fun j => j < w.heap.size ∨ (Value.slice la 1 lc).ownBlock = some j) np q5) := hidIn (hz.less (fun j hj => Or.inl hj))
  have HB6 := hidIn (HB5.out.trans (hf.below HB5.out.size (fun j hj => Nat.le_of_not_lt (fun h => hj (Or.inl h)))))
  have HL6 := hidIn (row_fr HL5.out hf (fun j hj h => h (Or.inr hj)))
  obtain ⟨va6, vc6, rfl⟩ := row_shape hrow
  clear hrow hz hf HX HZ5 HB5 HL5
  have HX := hidIn (by
    have := zsend HZ6.out (q_ok.2.2.2.2.2.1) (by omega) 2 3 ⟨#[99]⟩
    rw [q5_f.1, q5_f.2] at this
    exact this)
  go_wp2_with fail
  refine HX.out.mono ?_
  rintro e w7 ⟨rfl, hz, hf⟩
  have HZ7 : Hid (NetZ w7 (fun j => j < w.heap.size ∨ (Value.slice la 1 lc).ownBlock = some j) np q6) := hidIn hz
  have HB7 := hidIn (HB6.out.trans (hf.below HB6.out.size (fun j hj => Nat.le_of_not_lt (fun h => hj (Or.inl h)))))
  have HL7 := hidIn (row_fr HL6.out hf (fun j hj h => h (Or.inr hj)))
  clear hz hf HX HZ6 HB6
  obtain ⟨w7a, hV⟩ : ∃ V, w7.alloc (.cells #[.int .i64 0, .int .i64 0, .int .i64 0] 33) = V := ⟨_, rfl⟩
  have bV : Below w7.heap.size w7 w7a := by rw [← hV]; exact (Below.refl _ w7).alloc (Nat.le_refl _) _
  have HZ7a := hidIn (HZ7.out.below bV)
  have HB7a := hidIn (HB7.out.trans (bV.mono HB7.out.size))
  have HL7a := hidIn (row_below HL7.out bV (Nat.le_refl _))
  have HV7a := hidIn hV
  clear hV bV HZ7 HB7
  have HX := hidIn (by
    have := znear HZ7a.out (q_ok.2.2.2.2.2.2.1) 2
    rw [q6_f.1, q6_f.2.1] at this
    exact this)
  go_wp2_with fail
  rw [HV7a.out]
  clear HV7a
  refine HX.out.mono ?_
  rintro e w8 ⟨⟨v, rfl, hrow⟩, hz, hb⟩
  have HZ8 := hidIn hz
  have HB8 := hidIn (HB7a.out.trans (hb.mono HB7a.out.size))
  have HL8 := hidIn (row_below HL7a.out hb (Nat.le_refl _))
  obtain ⟨na, nc, he, _, _, hnc⟩ := slAt_of_row (cs := ac) (fun _ => rfl) hrow rfl
  subst he
  obtain ⟨nb, no, rfl, hnb, hcl⟩ := hnc (by simp)
  have n0 := hcl 0 _ rfl 0 _ rfl
  have n1 := hcl 0 _ rfl 1 _ rfl
  simp at n0 n1
  have HO := hidIn (one_any (slAt_of_row (cs := arC) (fun _ => rfl) HL8.out rfl) 2 3 ⟨#[98]⟩)
  have HE : Hid (oneB [(2, 3, ⟨#[98]⟩)] 2 3 ⟨#[98]⟩ = true) := hidIn (by simp [oneB])
  rw [HE.out] at HO
  have HUp := hidIn (by
    have := zup hz (q_ok.2.2.2.2.2.2.1) 2 3
    rw [q6_f.2.2.1] at this
    exact this)
  clear hrow hz hb hnc hcl hnb HX
  have hq2 := fun a0 a1 b0 b1 w => eq_Aj a0 a1 b0 b1 w
  go_wp2_with (go_at_call 22; refine HO.out.mono ?_; rintro e w9 ⟨rfl, hw9⟩; rw [hw9]; clear hw9 w9)
  refine HUp.out.mono ?_
  rintro e w9 ⟨rfl, hz, hb⟩
  have HZ9 := hidIn hz
  have HB9 := hidIn (HB8.out.trans (hb.mono HB8.out.size))
  clear hz hb HUp HO HE n0 n1 HL8 HZ8 HB8 hq2
  have HX := hidIn (by
    have := zmend HZ9.out (q_ok.2.2.2.2.2.2.1) 2 3
    rw [q6_f.2.2.2] at this
    exact this)
  go_wp2_with fail
  refine HX.out.mono ?_
  rintro e w10 ⟨rfl, hz, hf⟩
  have HZ10 : Hid (NetZ w10 (fun j => j < w.heap.size ∨ (Value.slice la 1 lc).ownBlock = some j) np q7) := hidIn hz
  have HB10 := hidIn (HB9.out.trans (hf.below HB9.out.size (fun j hj => Nat.le_of_not_lt (fun h => hj (Or.inl h)))))
  clear hz hf HX
  have HX := hidIn (by
    have := zmend HZ10.out (q_ok.2.2.2.2.2.2.2.1) 2 3
    rw [q7_f.1] at this
    exact this)
  go_wp2_with fail
  refine HX.out.mono ?_
  rintro e w11 ⟨rfl, hz, hf⟩
  have HZ11 : Hid (NetZ w11 (fun j => j < w.heap.size ∨ (Value.slice la 1 lc).ownBlock = some j) np q8) := hidIn hz
  have HB11 := hidIn (HB10.out.trans (hf.below HB10.out.size (fun j hj => Nat.le_of_not_lt (fun h => hj (Or.inl h)))))
  clear hz hf HX
  have HX := hidIn (by
    have := zmend HZ11.out (q_ok.2.2.2.2.2.2.2.2.1) 1 3
    rw [q7_f.2] at this
    exact this)
  go_wp2_with fail
  refine HX.out.mono ?_
  rintro e w12 ⟨rfl, hz, hf⟩
  have HZ12 : Hid (NetZ w12 (fun j => j < w.heap.size ∨ (Value.slice la 1 lc).ownBlock = some j) np q9) := hidIn hz
  have HB12 := hidIn (HB11.out.trans (hf.below HB11.out.size (fun j hj => Nat.le_of_not_lt (fun h => hj (Or.inl h)))))
  clear hz hf HX
  have HX := hidIn (by
    have := zstop HZ12.out (q_ok.2.2.2.2.2.2.2.2.2.1) (by omega) 2
    rw [q9_f.1] at this
    exact this)
  go_wp2_with fail
  refine HX.out.mono ?_
  rintro e w13 ⟨⟨v, rfl, hrow, hz⟩, hf⟩
  have HZ13 : Hid (NetZ w13 (fun j => j < w.heap.size ∨ (Value.slice la 1 lc).ownBlock = some j) np q10) := hidIn (hz.less (fun j hj => Or.inl hj))
  have HB13 := hidIn (HB12.out.trans (hf.below HB12.out.size (fun j hj => Nat.le_of_not_lt (fun h => hj (Or.inl h)))))
  obtain ⟨va13, vc13, rfl⟩ := row_shape hrow
  clear hrow hz hf HX
  have HX := hidIn (by
    have := zstop HZ13.out (q_ok.2.2.2.2.2.2.2.2.2.2.1) (by omega) 2
    rw [q9_f.2.1] at this
    exact this)
  go_wp2_with fail
  refine HX.out.mono ?_
  rintro e w14 ⟨⟨v, rfl, hrow, hz⟩, hf⟩
  have HZ14 : Hid (NetZ w14 (fun j => j < w.heap.size ∨ (Value.slice la 1 lc).ownBlock = some j) np q11) := hidIn (hz.less (fun j hj => Or.inl hj))
  have HB14 := hidIn (HB13.out.trans (hf.below HB13.out.size (fun j hj => Nat.le_of_not_lt (fun h => hj (Or.inl h)))))
  obtain ⟨va14, vc14, rfl⟩ := row_shape hrow
  clear hrow hz hf HX
  have HX := hidIn (by
    have := zstop HZ14.out (q_ok.2.2.2.2.2.2.2.2.2.2.2.1) (by omega) 4
    rw [q9_f.2.2] at this
    exact this)
  go_wp2_with fail
  refine HX.out.mono ?_
  rintro e w15 ⟨⟨v, rfl, hrow, hz⟩, hf⟩
  have HZ15 : Hid (NetZ w15 (fun j => j < w.heap.size ∨ (Value.slice la 1 lc).ownBlock = some j) np q12) := hidIn (hz.less (fun j hj => Or.inl hj))
  have HB15 := hidIn (HB14.out.trans (hf.below HB14.out.size (fun j hj => Nat.le_of_not_lt (fun h => hj (Or.inl h)))))
  obtain ⟨va15, vc15, rfl⟩ := row_shape hrow
  clear hrow hz hf HX
  have HX := hidIn (by
    have := znear HZ15.out (q_ok.2.2.2.2.2.2.2.2.2.2.2.2.1) 1
    rw [q12_f.1, q12_f.2.1] at this
    exact this)
  go_wp2_with fail
  refine HX.out.mono ?_
  rintro e w16 ⟨⟨v, rfl, hrow⟩, hz, hb⟩
  have HZ16 := hidIn hz
  have HB16 := hidIn (HB15.out.trans (hb.mono HB15.out.size))
  obtain ⟨va16, vc16, rfl⟩ := row_shape hrow
  clear hrow hz hb HX
  have HX := hidIn (by
    have := zstart HZ16.out (q_ok.2.2.2.2.2.2.2.2.2.2.2.2.1) 2
    rw [q12_f.2.2.1] at this
    exact this)
  go_wp2_with fail
  refine HX.out.mono ?_
  rintro e w17 ⟨rfl, hz, hf⟩
  have HZ17 : Hid (NetZ w17 (fun j => j < w.heap.size ∨ (Value.slice la 1 lc).ownBlock = some j) np q13) := hidIn hz
  have HB17 := hidIn (HB16.out.trans (hf.below HB16.out.size (fun j hj => Nat.le_of_not_lt (fun h => hj (Or.inl h)))))
  clear hz hf HX
  have HX := hidIn (by
    have := zstart HZ17.out (q_ok.2.2.2.2.2.2.2.2.2.2.2.2.2) 2
    rw [q12_f.2.2.2] at this
    exact this)
  go_wp2_with fail
  refine HX.out.mono ?_
  rintro e w18 ⟨rfl, hz, hf⟩
  have HZ18 : Hid (NetZ w18 (fun j => j < w.heap.size ∨ (Value.slice la 1 lc).ownBlock = some j) np q14) := hidIn hz
  have HB18 := hidIn (HB17.out.trans (hf.below HB17.out.size (fun j hj => Nat.le_of_not_lt (fun h => hj (Or.inl h)))))
  clear hz hf HX
  obtain ⟨W19, hW19⟩ : ∃ V, w18.alloc (.cells #[.int .i64 1, .int .i64 2, .int .i64 1, .int .i64 2, .int .i64 3] 70) = V := ⟨_, rfl⟩
  have b19 : Below w18.heap.size w18 W19 := by rw [← hW19]; exact (Below.refl _ w18).alloc (Nat.le_refl _) _
  have hR19 : W19.heap[w18.heap.size]? = some (.cells #[.int .i64 1, .int .i64 2, .int .i64 1, .int .i64 2, .int .i64 3] 70) := by rw [← hW19]; exact heap_alloc_last w18 _
  have s19 := slAt_block (cs := ruC) (sz := 5) (l := mR) (cap := 1) (fun _ => rfl) hR19 (by decide) (by omega)
  have H3 := hidIn (three_ok (lt := 2) s19 (by omega) mR_chk)
  have HB19 := hidIn (HB18.out.trans (b19.mono HB18.out.size))
  have HW19 := hidIn hW19
  clear b19 hR19 s19 hW19 HZ18 HB18 HZ9 HB9 HZ10 HB10 HZ11 HB11 HZ12 HB12 HZ13 HB13 HZ14 HB14 HZ15 HB15 HZ16 HB16 HZ17 HB17
  go_wp2_with fail
  rw [HW19.out]
  clear HW19
  refine H3.out.mono ?_
  rintro e w20 ⟨⟨mp, rfl, hZ⟩, hb⟩
  have HZ20 : Hid (NetZ w20 (fun j => j < w.heap.size) mp m0) := hidIn (hZ _ (fun j hj => Nat.lt_of_lt_of_le hj HB19.out.size))
  have HB20 := hidIn (HB19.out.trans (hb.mono HB19.out.size))
  clear hZ hb H3
  have HX := hidIn (by
    have := zsend HZ20.out (m_ok.1) (by omega) 1 2 ⟨#[97]⟩
    rw [m0_f.1, m0_f.2] at this
    exact this)
  go_wp2_with fail
  refine HX.out.mono ?_
  rintro e w21 ⟨rfl, hz, hf⟩
  have HZ21 : Hid (NetZ w21 (fun j => j < w.heap.size) mp m1) := hidIn hz
  have HB21 := hidIn (HB20.out.trans (hf.below HB20.out.size (fun j hj => Nat.le_of_not_lt (fun h => hj h))))
  clear hz hf HX HZ20 HB20
  obtain ⟨w21a, hV⟩ : ∃ V, w21.alloc (.cells #[.int .i64 2, .int .i64 0, .int .i64 3] 33) = V := ⟨_, rfl⟩
  have bV : Below w21.heap.size w21 w21a := by rw [← hV]; exact (Below.refl _ w21).alloc (Nat.le_refl _) _
  have HZ21a := hidIn (HZ21.out.below bV)
  have HB21a := hidIn (HB21.out.trans (bV.mono HB21.out.size))
  have hX := heap_alloc_last w21 (.cells #[.int .i64 2, .int .i64 0, .int .i64 3] 33)
  rw [hV] at hX
  have x0 := cell_of_row _ _ 0 _ _ _ hX
  have x1 := cell_of_row _ _ 1 _ _ _ hX
  have x2 := cell_of_row _ _ 2 _ _ _ hX
  simp at x0 x1 x2
  clear hX
  have HV21a := hidIn hV
  clear hV bV HZ21 HB21
  go_upto_region 19 with fail
  rw [HV21a.out]
  clear HV21a
  have hq3 := fun a0 a1 a2 b0 b1 b2 w => eq_Ft a0 a1 a2 b0 b1 b2 w
  have HX := hidIn (by
    have := ztick HZ21a.out (m_ok.2.1) (by omega)
    rw [m1_f.1] at this
    exact this)
  go_wp2_with fail
  refine HX.out.mono ?_
  rintro e w22 ⟨⟨v, rfl, hrow, hz⟩, hf⟩
  have HZ22 : Hid (NetZ w22 (fun j => j < w.heap.size) mp m2) := hidIn (hz.less (fun j hj => Or.inl hj))
  have HB22 := hidIn (HB21a.out.trans (hf.below HB21a.out.size (fun j hj => Nat.le_of_not_lt (fun h => hj h))))
  obtain ⟨va22, vc22, rfl⟩ := row_shape hrow
  clear hrow hz hf HX
  clear x0 x1 x2 hq3
  have HX := hidIn (by
    have := ztick HZ22.out (m_ok.2.2.1) (by omega)
    rw [m1_f.2.1] at this
    exact this)
  go_wp2_with fail
  refine HX.out.mono ?_
  rintro e w23 ⟨⟨v, rfl, hrow, hz⟩, hf⟩
  have HZ23 : Hid (NetZ w23 (fun j => j < w.heap.size) mp m3) := hidIn (hz.less (fun j hj => Or.inl hj))
  have HB23 := hidIn (HB22.out.trans (hf.below HB22.out.size (fun j hj => Nat.le_of_not_lt (fun h => hj h))))
  obtain ⟨va23, vc23, rfl⟩ := row_shape hrow
  have HO := hidIn (one_any (slAt_of_row (cs := arC) (fun _ => rfl) hrow rfl) 1 2 ⟨#[97]⟩)
  have HE : Hid (oneB [(1, 2, ⟨#[97]⟩)] 1 2 ⟨#[97]⟩ = true) := hidIn (by simp [oneB])
  rw [HE.out] at HO
  clear hrow hz hf HX
  go_wp2_with fail
  refine HO.out.mono ?_
  rintro e w99 ⟨rfl, hw99⟩
  rw [hw99]
  clear hw99 w99 HO HE
  have HX := hidIn (by
    have := ztick HZ23.out (m_ok.2.2.2.1) (by omega)
    rw [m1_f.2.2.1] at this
    exact this)
  go_wp2_with fail
  refine HX.out.mono ?_
  rintro e w24 ⟨⟨v, rfl, hrow, hz⟩, hf⟩
  have HZ24 : Hid (NetZ w24 (fun j => j < w.heap.size) mp m4) := hidIn (hz.less (fun j hj => Or.inl hj))
  have HB24 := hidIn (HB23.out.trans (hf.below HB23.out.size (fun j hj => Nat.le_of_not_lt (fun h => hj h))))
  obtain ⟨va24, vc24, rfl⟩ := row_shape hrow
  clear hrow hz hf HX
  have HX := hidIn (by
    have := ztick HZ24.out (m_ok.2.2.2.2.1) (by omega)
    rw [m1_f.2.2.2.1] at this
    exact this)
  go_wp2_with fail
  refine HX.out.mono ?_
  rintro e w25 ⟨⟨v, rfl, hrow, hz⟩, hf⟩
  have HZ25 : Hid (NetZ w25 (fun j => j < w.heap.size) mp m5) := hidIn (hz.less (fun j hj => Or.inl hj))
  have HB25 := hidIn (HB24.out.trans (hf.below HB24.out.size (fun j hj => Nat.le_of_not_lt (fun h => hj h))))
  obtain ⟨va25, vc25, rfl⟩ := row_shape hrow
  clear hrow hz hf HX
  have HX := hidIn (by
    have := ztick HZ25.out (m_ok.2.2.2.2.2) (by omega)
    rw [m1_f.2.2.2.2] at this
    exact this)
  go_wp2_with fail
  refine HX.out.mono ?_
  rintro e w26 ⟨⟨v, rfl, hrow, hz⟩, hf⟩
  have HZ26 : Hid (NetZ w26 (fun j => j < w.heap.size) mp m6) := hidIn (hz.less (fun j hj => Or.inl hj))
  have HB26 := hidIn (HB25.out.trans (hf.below HB25.out.size (fun j hj => Nat.le_of_not_lt (fun h => hj h))))
  obtain ⟨va26, vc26, rfl⟩ := row_shape hrow
  have HO := hidIn (one_any (slAt_of_row (cs := arC) (fun _ => rfl) hrow rfl) 1 2 ⟨#[97]⟩)
  have HE : Hid (oneB [(1, 2, ⟨#[97]⟩)] 1 2 ⟨#[97]⟩ = true) := hidIn (by simp [oneB])
  rw [HE.out] at HO
  clear hrow hz hf HX
  go_wp2_with fail
  refine HO.out.mono ?_
  rintro e w99 ⟨rfl, hw99⟩
  rw [hw99]
  clear hw99 w99 HO HE
  obtain ⟨W27, hW27⟩ : ∃ V, (w26.alloc (.cells #[.int .i64 1, .int .i64 2] 3)).alloc (.cells #[.int .i64 1, .int .i64 2, .int .i64 5] 52) = V := ⟨_, rfl⟩
  have b27 : Below w26.heap.size w26 W27 := by rw [← hW27]; exact ((Below.refl _ w26).alloc (Nat.le_refl _) _).alloc (by simp) _
  have hA : W27.heap[w26.heap.size]? = some (.cells #[.int .i64 1, .int .i64 2] 3) := by rw [← hW27, Below.heap_alloc _ _ _ (by simp)]; exact heap_alloc_last w26 _
  have hB : W27.heap[w26.heap.size + 1]? = some (.cells #[.int .i64 1, .int .i64 2, .int .i64 5] 52) := by
    rw [← hW27]
    have := heap_alloc_last (w26.alloc (.cells #[.int .i64 1, .int .i64 2] 3)) (.cells #[.int .i64 1, .int .i64 2, .int .i64 5] 52)
    rwa [World.size_alloc] at this
  have s1 := slAt_block (cs := ic) (sz := 1) (l := [1, 2]) (cap := 2) (fun _ => rfl) hA (by decide) (by omega)
  have s2 := slAt_block (cs := ec) (sz := 3) (l := [(1, 2, 5)]) (cap := 1) (fun _ => rfl) hB (by decide) (by omega)
  have HX := hidIn (new_no2 (lt := 0) (r := .slice none 0 0) s1 s2 ⟨none, 0, 0, rfl⟩ ofA (by omega))
  have HB27 := hidIn (HB26.out.trans (b27.mono HB26.out.size))
  have HV27 := hidIn hW27
  clear b27 hA hB s1 s2 hW27 HZ26 HB26
  go_wp2_with fail
  rw [HV27.out]
  refine HX.out.mono ?_
  rintro e w28 ⟨rfl, hb⟩
  have HB28 := hidIn (HB27.out.trans (hb.mono HB27.out.size))
  clear hb HX HV27 HB27
  obtain ⟨W29, hW29⟩ : ∃ V, w28.alloc (.cells #[.int .i64 1, .int .i64 1] 3) = V := ⟨_, rfl⟩
  have b29 : Below w28.heap.size w28 W29 := by rw [← hW29]; exact (Below.refl _ w28).alloc (Nat.le_refl _) _
  have hA : W29.heap[w28.heap.size]? = some (.cells #[.int .i64 1, .int .i64 1] 3) := by rw [← hW29]; exact heap_alloc_last w28 _
  have s1 := slAt_block (cs := ic) (sz := 1) (l := [1, 1]) (cap := 2) (fun _ => rfl) hA (by decide) (by omega)
  have HX := hidIn (by
    have := new_no1 (lt := 1) (r := .slice none 0 0) s1 (sl_nil ec 3 W29) ⟨none, 0, 0, rfl⟩ (by rw [ofB]; omega)
    rw [ofB] at this
    exact this)
  have HB29 := hidIn (HB28.out.trans (b29.mono HB28.out.size))
  have HV29 := hidIn hW29
  clear b29 hA s1 hW29 HB28
  go_wp2_with fail
  rw [HV29.out]
  refine HX.out.mono ?_
  rintro e w30 ⟨rfl, hb⟩
  have HB30 := hidIn (HB29.out.trans (hb.mono HB29.out.size))
  clear hb HX HV29 HB29
  obtain ⟨ZR, hZR⟩ : ∃ Z, (List.replicate 325 (Value.int .i64 0)).toArray = Z := ⟨_, rfl⟩
  have hmk : ∀ w, (Instr.makeSlice 22 (.int .i64 65) (.int .i64 65)).run Try.prog w = .ok (.slice (some ⟨w.heap.size, 0, none⟩) 65 65) (w.alloc (.cells ZR 70)) := fun w => by rw [← hZR]; exact make65 w
  obtain ⟨W31, hW31⟩ : ∃ V, (w30.alloc (.cells #[.int .i64 1, .int .i64 2] 3)).alloc (.cells ZR 70) = V := ⟨_, rfl⟩
  have b31 : Below w30.heap.size w30 W31 := by rw [← hW31]; exact ((Below.refl _ w30).alloc (Nat.le_refl _) _).alloc (by simp) _
  have hA : W31.heap[w30.heap.size]? = some (.cells #[.int .i64 1, .int .i64 2] 3) := by rw [← hW31, Below.heap_alloc _ _ _ (by simp)]; exact heap_alloc_last w30 _
  have hB : W31.heap[w30.heap.size + 1]? = some (.cells ZR 70) := by
    rw [← hW31]
    have := heap_alloc_last (w30.alloc (.cells #[.int .i64 1, .int .i64 2] 3)) (.cells ZR 70)
    rwa [World.size_alloc] at this
  have s1 := slAt_block (cs := ic) (sz := 1) (l := [1, 2]) (cap := 2) (fun _ => rfl) hA (by decide) (by omega)
  have HX := hidIn (new_no3 (lt := 1) s1 (sl_nil ec 3 W31) (row65 hZR hB) ofD (by omega) r65_chk (by omega))
  have HB31 := hidIn (HB30.out.trans (b31.mono HB30.out.size))
  have HV31 := hidIn hW31
  clear b31 hA hB s1 hW31 HB30 hZR
  go_wp2_with fail
  rw [HV31.out]
  refine HX.out.mono ?_
  rintro e w32 ⟨rfl, hb⟩
  have HB32 := hidIn (HB31.out.trans (hb.mono HB31.out.size))
  clear hb HX HV31 HB31 hmk
  obtain ⟨W33, hW33⟩ : ∃ V, w32.alloc (.cells nzC 76) = V := ⟨_, rfl⟩
  have b33 : Below w32.heap.size w32 W33 := by rw [← hW33]; exact (Below.refl _ w32).alloc (Nat.le_refl _) _
  have hE : None8 W33 (pp w32.heap.size) := by rw [← hW33]; exact none_new w32
  obtain ⟨eb, heb⟩ : ∃ b, w32.heap.size = b := ⟨_, rfl⟩
  rw [heb] at hE
  have HE33 := hidIn hE
  have HB33 := hidIn (HB32.out.trans (b33.mono HB32.out.size))
  have HX := hidIn (send_none (w := W33) (.inl rfl) 1 2 ⟨#[97]⟩)
  have HV33 := hidIn hW33
  have Heb := hidIn heb
  clear b33 hE hW33 heb HB32
  go_upto_region 26 with (refine l_buildNt0 rfl rfl ?_)
  rw [HV33.out, Heb.out]
  clear HV33 Heb
  go_wp2_with fail
  refine HX.out.mono ?_
  rintro e w34 ⟨rfl, hb⟩
  have HB34 := hidIn (HB33.out.trans (hb.mono HB33.out.size))
  have HE34 := hidIn (HE33.out.keep hb)
  clear hb HX HB33 HE33
  obtain ⟨W35, hW35⟩ : ∃ V, w34.alloc (.cells #[.int .i64 0, .int .i64 0, .int .i64 0] 33) = V := ⟨_, rfl⟩
  have b35 : Below w34.heap.size w34 W35 := by rw [← hW35]; exact (Below.refl _ w34).alloc (Nat.le_refl _) _
  have HE35 := hidIn (HE34.out.keep b35)
  have HB35 := hidIn (HB34.out.trans (b35.mono HB34.out.size))
  have HV35 := hidIn hW35
  clear b35 hW35 HE34 HB34
  have HX := hidIn (cut_none HE35.out 1 2)
  go_wp2_with fail
  rw [HV35.out]
  refine HX.out.mono ?_
  rintro e w36 ⟨rfl, hb⟩
  have HB36 := hidIn (HB35.out.trans (hb.mono HB35.out.size))
  have HE36 := hidIn (HE35.out.keep hb)
  have HX2 := hidIn (near_none8 (w := w36) (.inl rfl) 1)
  have HX3 := hidIn (graph_none HE36.out)
  clear hb HX HV35 HB35 HE35
  go_wp2_with (go_at_call 21; refine HX2.out.mono ?_; rintro e w9 ⟨rfl, hw9⟩; rw [hw9]; clear hw9 w9)
  refine HX3.out.mono ?_
  rintro e w37 ⟨rfl, hb⟩
  have HB37 := hidIn (HB36.out.trans (hb.mono HB36.out.size))
  have HE37 := hidIn (HE36.out.keep hb)
  clear hb HX2 HX3 HB36 HE36
  obtain ⟨W38, hW38⟩ : ∃ V, w37.alloc nilG = V := ⟨_, rfl⟩
  have b38 : Below w37.heap.size w37 W38 := by rw [← hW38]; exact (Below.refl _ w37).alloc (Nat.le_refl _) _
  have HE38 := hidIn (HE37.out.keep b38)
  have HB38 := hidIn (HB37.out.trans (b38.mono HB37.out.size))
  have HV38 := hidIn hW38
  have HX := hidIn (nworks_any W38)
  clear b38 hW38 HE37 HB37
  go_wp2_with fail
  rw [HV38.out]
  refine HX.out.mono ?_
  rintro e w39 ⟨rfl, hb⟩
  have HB39 := hidIn (HB38.out.trans (hb.mono HB38.out.size))
  have HE39 := hidIn (HE38.out.keep hb)
  have HX1 := hidIn (tick_none (w := w39) (.inl rfl))
  have HX2 := hidIn (now_none HE39.out)
  have HX3 := hidIn (flying_none (w := w39) (.inl rfl))
  have HX4 := hidIn (up_none HE39.out 1 2)
  clear hb HX HV38 HB38 HE38
  go_wp2_with (first
    | (go_at_call 16; refine HX1.out.mono ?_; rintro e w9 ⟨rfl, hw9⟩; rw [hw9]; clear hw9 w9)
    | (go_at_call 18; refine HX2.out.mono ?_; rintro e w9 ⟨rfl, hw9⟩; rw [hw9]; clear hw9 w9)
    | (go_at_call 17; refine HX3.out.mono ?_; rintro e w9 ⟨rfl, hw9⟩; rw [hw9]; clear hw9 w9))
  refine HX4.out.mono ?_
  rintro e w40 ⟨rfl, hb⟩
  have HB40 := hidIn (HB39.out.trans (hb.mono HB39.out.size))
  have HE40 := hidIn (HE39.out.keep hb)
  have HX5 := hidIn (mend_none (w := w40) (.inl rfl) 1 2)
  clear hb HX1 HX2 HX3 HX4 HB39 HE39
  go_wp2_with fail
  refine HX5.out.mono ?_
  rintro e w41 ⟨rfl, hb⟩
  have HB41 := hidIn (HB40.out.trans (hb.mono HB40.out.size))
  have HX6 := hidIn (start_none (HE40.out.keep hb) 1)
  clear hb HX5 HB40 HE40
  go_wp2_with (go_at_call 15; refine HX6.out.mono ?_; rintro e w9 ⟨rfl, hw9⟩; rw [hw9]; clear hw9 w9)
  go_returns
  exact ⟨rfl, HB41.out⟩
end Go.Proofs.Ytkhfpcnmnnboeaa.Nt
