/- byOrigin. -/
import Derived.Test.YtpdpdhnllmlfdaaN10
namespace Go.Proofs.Ytpdpdhnllmlfdaa
open Go.RowKit Go.Maps

theorem Arr.st {w : World} {b : Nat} {f : Nat → Ed} (h : Arr w b 84 (gs f)) {n : Nat} (hn : n < 25) : w.cell? ⟨b, n * 3, none⟩ = some (.int .i64 (f n).1) ∧ w.cell? ⟨b, n * 3 + 1, none⟩ = some (.int .u32 (f n).2.1) ∧ w.cell? ⟨b, n * 3 + 2, none⟩ = some (.int .u32 (f n).2.2) :=
  ⟨(h.cell _).trans (gs_get f (s := 0) hn (by omega)), (h.cell _).trans (gs_get f (s := 1) hn (by omega)), (h.cell _).trans (gs_get f (s := 2) hn (by omega))⟩
theorem Arr.stPut {w : World} {b : Nat} {f : Nat → Ed} (h : Arr w b 84 (gs f)) {n : Nat} (hn : n < 25) (x : Ed) : Arr (((w.setCell ⟨b, n * 3, none⟩ (.int .i64 x.1)).setCell ⟨b, n * 3 + 1, none⟩ (.int .u32 x.2.1)).setCell ⟨b, n * 3 + 2, none⟩ (.int .u32 x.2.2)) b 84 (gs (upS f n x)) := by
  rw [← gs_put f hn x]
  exact ((h.set _ _).set _ _).set _ _
theorem eqZ (x : Ed) (w : World) : (Op.equalIn 10000 71 (.agg #[.int .i64 x.1, .int .u32 x.2.1, .int .u32 x.2.2]) (.agg #[.int .i64 0, .int .u32 0, .int .u32 0])).run Try.prog w = Result.ok (decide (x = (0, 0, 0))) w := eqSt x (0, 0, 0) w
set_option maxRecDepth 100000 in
set_option maxHeartbeats 2000000 in
theorem byOrigin_any {l : List Ed} {v : Value} {w : World} (h : SlAt sc3 3 w v l) (hB : ∀ y ∈ l, (0 ≤ y.2.1 ∧ y.2.1 < 4294967296) ∧ 0 ≤ y.2.2 ∧ y.2.2 < 4294967296) :
    Calls Try.prog 44 #[v] w fun e w' => ByAns (byS l) e ∧ Below w.heap.size w w' := by
  obtain ⟨aa, cap, rfl, hl, hq⟩ := h
  have Hat := hidIn (SlAt.sts ⟨aa, cap, rfl, hl, hq⟩)
  obtain ⟨LL, hLL⟩ : ∃ LL, l.length = LL := ⟨_, rfl⟩
  rw [hLL] at Hat hl ⊢
  have HLL := hidIn hLL
  have HB := hidIn hB
  have hz := zeroSts
  clear hq hLL hB
  obtain ⟨W1, hW1⟩ : ∃ W1, (w.alloc (.cells (gs no3).toArray 84)).alloc (.cells (gs no3).toArray 84) = W1 := ⟨_, rfl⟩
  have b1 : Below w.heap.size w W1 := by rw [← hW1]; exact ((Below.refl _ w).alloc (Nat.le_refl _) _).alloc (by simp) _
  have hA2 : Arr W1 w.heap.size 84 (gs no3) := by
    show W1.heap[w.heap.size]? = _
    rw [← hW1, Below.heap_alloc _ _ _ (by simp)]
    exact heap_alloc_last w _
  have hA4 : Arr W1 (w.heap.size + 1) 84 (gs no3) := by
    have := heap_alloc_last (w.alloc (.cells (gs no3).toArray 84)) (.cells (gs no3).toArray 84)
    rw [World.size_alloc, hW1] at this
    exact this
  have HW := hidIn hW1
  have HA2 := hidIn hA2
  have HA4 := hidIn hA4
  have Hb1 := hidIn b1
  clear hW1 hA2 hA4 b1
  obtain ⟨B2, hB2⟩ : ∃ B2, w.heap.size = B2 := ⟨_, rfl⟩
  have HB2 := hidIn hB2
  rw [hB2] at HA2 HA4
  obtain ⟨G0, hG0⟩ : ∃ G0, (gs no3).toArray = G0 := ⟨_, rfl⟩
  rw [hG0] at HW hz
  have HG0 := hidIn hG0
  clear hG0
  go_enter Try.func44, Try.ntmps44
  go_upto_region 2 with fail
  rw [HW.out]
  clear HW hB2 hz
  go_wp2_with fail
  go_loopw [11] (fun q wr => ∃ k : Nat, k ≤ LL ∧ q = .int .i64 k ∧ Hid (∃ f, byS (l.take k) = some f ∧ Arr wr (B2 + 1) 84 (gs f) ∧ Arr wr B2 84 (gs no3) ∧ Below w.heap.size w wr)) (fun q _ => LL - (intOf q).toNat)
  case atStart => exact ⟨0, Nat.zero_le _, rfl, hidIn ⟨no3, by rw [List.take_zero]; rfl, HA4.out, HA2.out, Hb1.out⟩⟩
  case round =>
    clear HA2 HA4 Hb1
    obtain ⟨k, hk, rfl, HR⟩ := hrel
    by_cases hlt : k < LL
    · have hki : (k : Int) < (LL : Int) := by omega
      obtain ⟨f, hf, hA4, hA2, hbel⟩ := HR.out
      obtain ⟨x, hx⟩ : ∃ x, l[k]? = some x := ⟨l[k]'(by rw [HLL.out]; exact hlt), List.getElem?_eq_getElem _⟩
      obtain ⟨bk, o, rfl, hbk, hcell⟩ := Hat.out (by omega)
      obtain ⟨q0, q1, q2⟩ := hcell k x hx
      have p0 := (hbel.cell (p := ⟨bk, o + k * 3, none⟩) hbk).trans q0
      have p1 := (hbel.cell (p := ⟨bk, o + k * 3 + 1, none⟩) hbk).trans q1
      have p2 := (hbel.cell (p := ⟨bk, o + k * 3 + 2, none⟩) hbk).trans q2
      obtain ⟨hby, hbn⟩ := byS_take hf hx
      have hxb := HB.out x (List.mem_of_getElem? hx)
      have HEn := hidIn (fun wq => encSt_any x.1 x.2.1 x.2.2 hxb.1 hxb.2 wq)
      obtain ⟨W4, hW4⟩ : ∃ W4, wr.alloc (.cells #[.int .i64 x.1, .int .u32 x.2.1, .int .u32 x.2.2] 71) = W4 := ⟨_, rfl⟩
      have b4 : Below wr.heap.size wr W4 := by rw [← hW4]; exact (Below.refl _ wr).alloc (Nat.le_refl _) _
      have hX : W4.heap[wr.heap.size]? = some (.cells #[.int .i64 x.1, .int .u32 x.2.1, .int .u32 x.2.2] 71) := by rw [← hW4]; exact heap_alloc_last wr _
      have hlt4 : B2 + 1 < wr.heap.size := hA4.lt
      have HA4 := hidIn (hA4.keep b4 hA4.lt)
      have HA2 := hidIn (hA2.keep b4 hA2.lt)
      have HBel := hidIn (hbel.trans (b4.mono hbel.size))
      have HW := hidIn hW4
      obtain ⟨b6, hb6⟩ : ∃ b6, wr.heap.size = b6 := ⟨_, rfl⟩
      rw [hb6] at hX hlt4
      have HX := hidIn hX
      have Hby := hidIn hby
      have Hbn := hidIn hbn
      have Hne := hidIn hlt4
      obtain ⟨xo, xe, xs⟩ := x
      simp only at p0 p1 p2 HEn HX HW Hby Hbn
      have y0 := cell_of_row _ _ 0 _ _ _ HX.out
      have y1 := cell_of_row _ _ 1 _ _ _ HX.out
      have y2 := cell_of_row _ _ 2 _ _ _ HX.out
      simp at y0 y1 y2
      clear HR hf hA4 hA2 hbel hx hcell q0 q1 q2 hby hbn hxb b4 hX hW4 hbk hlt4
      go_upto_region 5 with fail
      rw [HW.out]
      clear HW hb6 p0 p1 p2
      go_wp2_with fail
      refine (HEn.out _).mono ?_
      rintro e w5 ⟨rfl, hb5⟩
      clear HEn y0 y1 y2
      have HA4' := hidIn (HA4.out.keep hb5 HA4.out.lt)
      have HA2' := hidIn (HA2.out.keep hb5 HA2.out.lt)
      have HBel' := hidIn (HBel.out.trans (hb5.mono HBel.out.size))
      have HX' := hidIn ((hb5.block _ (block_lt HX.out)).trans HX.out)
      clear HA4 HA2 HBel HX hb5
      by_cases hmay : mayS xo xe xs = true
      · have hcode : (esA xo xe xs).2 = 0 := by unfold esA; rw [if_pos hmay]
        have hr := (mayS_iff.1 hmay).1
        obtain ⟨n, rfl⟩ : ∃ n : Nat, xo = (n : Int) := ⟨xo.toNat, by omega⟩
        have hn25 : n < 25 := by omega
        rw [hcode]
        generalize (esA (n : Int) xe xs).1 = sv
        obtain ⟨z0, z1, z2⟩ := HA4'.out.st hn25
        have f0 := HA4'.out.frozen (n * 3)
        have f1 := HA4'.out.frozen (n * 3 + 1)
        have f2 := HA4'.out.frozen (n * 3 + 2)
        have y0 := cell_of_row _ _ 0 _ _ _ HX'.out
        have y1 := cell_of_row _ _ 1 _ _ _ HX'.out
        have y2 := cell_of_row _ _ 2 _ _ _ HX'.out
        simp at y0 y1 y2
        have hnI : (n : Int) < 25 := by omega
        have hn0 : (0 : Int) ≤ (n : Int) := by omega
        by_cases hzero : f n = (0, 0, 0)
        · have HB1 : Hid (byS (l.take (k + 1)) = some (upS f n ((n : Int), xe, xs))) := hidIn (by rw [Hby.out]; unfold addS; simp [hmay, hzero])
          rw [hzero] at z0 z1 z2
          simp only at z0 z1 z2
          have heq : ∀ w, (Op.equalIn 10000 71 (.agg #[.int .i64 0, .int .u32 0, .int .u32 0]) (.agg #[.int .i64 0, .int .u32 0, .int .u32 0])).run Try.prog w = Result.ok true w := fun w => eqZ (0, 0, 0) w
          clear hzero hcode hmay hr
          go_wp2_with fail
          have hBw : w.heap.size ≤ B2 + 1 := by have := HB2.out; omega
          go_roundw
          case rel => exact ⟨k + 1, by omega, by go_num, hidIn ⟨_, HB1.out, HA4'.out.stPut hn25 ((n : Int), xe, xs), ((HA2'.out.other (by show B2 ≠ B2 + 1; omega) _).other (by show B2 ≠ B2 + 1; omega) _).other (by show B2 ≠ B2 + 1; omega) _, ((HBel'.out.setCell (p := ⟨B2 + 1, n * 3, none⟩) hBw _).setCell (p := ⟨B2 + 1, n * 3 + 1, none⟩) hBw _).setCell (p := ⟨B2 + 1, n * 3 + 2, none⟩) hBw _⟩⟩
          case measure => simp [intOf]; omega
        · have HNo : Hid (byS l = none) := hidIn (Hbn.out (by unfold addS; simp [hzero]))
          have heq : ∀ w, (Op.equalIn 10000 71 (.agg #[.int .i64 (f n).1, .int .u32 (f n).2.1, .int .u32 (f n).2.2]) (.agg #[.int .i64 0, .int .u32 0, .int .u32 0])).run Try.prog w = Result.ok false w := fun w => (eqZ (f n) w).trans (by rw [decide_eq_false hzero])
          clear hzero hcode hmay hr
          go_wp2_with (first
            | (refine l_buildS rfl rfl ?_)
            | (refine l_storeS rfl _ _ rfl B2 no3 no3 rfl rfl HA2'.out ?_; intro W hWr hWb))
          refine bodyPost_ret (v := .tuple #[.agg (gs no3).toArray, .int .i64 2]) (by simp [results, Try.results44, asAddr, Result.andThen, load_sts hWr]) rfl ⟨.inr ⟨HNo.out, rfl⟩, HBel'.out.trans (hWb _ (by rw [HB2.out]; exact Nat.le_refl _))⟩
      · have hcode : (esA xo xe xs).2 = 2 := by unfold esA; rw [if_neg hmay]
        have HNo : Hid (byS l = none) := hidIn (Hbn.out (by unfold addS; simp [hmay]))
        rw [hcode]
        generalize (esA xo xe xs).1 = sv
        clear hcode hmay
        go_wp2_with (first
          | (refine l_buildS rfl rfl ?_)
          | (refine l_storeS rfl _ _ rfl B2 no3 no3 rfl rfl HA2'.out ?_; intro W hWr hWb))
        refine bodyPost_ret (v := .tuple #[.agg (gs no3).toArray, .int .i64 2]) (by simp [results, Try.results44, asAddr, Result.andThen, load_sts hWr]) rfl ⟨.inr ⟨HNo.out, rfl⟩, HBel'.out.trans (hWb _ (by rw [HB2.out]; exact Nat.le_refl _))⟩
    · have hki : ¬ (k : Int) < (LL : Int) := by omega
      obtain ⟨f, hf, hA4, hA2, hbel⟩ := HR.out
      have HA4 := hidIn hA4
      have HA2 := hidIn hA2
      have HBel := hidIn hbel
      have Hf : Hid (byS l = some f) := hidIn (by rw [List.take_of_length_le (by rw [HLL.out]; omega)] at hf; exact hf)
      clear HR hf hA4 hA2 hbel
      go_wp2_with (first
        | (refine l_loadS rfl _ rfl (B2 + 1) f rfl HA4.out.range ?_)
        | (refine l_storeS rfl _ _ rfl B2 f no3 rfl rfl HA2.out ?_; intro W hWr hWb))
      refine bodyPost_ret (v := .tuple #[.agg (gs f).toArray, .int .i64 0]) (by simp [results, Try.results44, asAddr, Result.andThen, load_sts hWr]) rfl ⟨.inl ⟨f, Hf.out, rfl⟩, HBel.out.trans (hWb _ (by rw [HB2.out]; exact Nat.le_refl _))⟩
end Go.Proofs.Ytpdpdhnllmlfdaa
