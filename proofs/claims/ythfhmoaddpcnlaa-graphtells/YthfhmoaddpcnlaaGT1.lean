/- The document's Part. -/
import Derived.Test.YthfhmoaddpcnlaaGT0
namespace Go.Proofs.Ythfhmoaddpcnlaa
open Go.RowKit

/-- What is marked after some rounds. -/
structure RInv (ns : List Int) (es : List Ed) (n : Int) (f : Nat → Bool) (r : Nat) : Prop where
  so : ∀ i, f i = true → Rch es n (i : Int)
  nn : f n.toNat = true
  mem : ∀ i, f i = true → (i : Int) ∈ ns
  go : (∀ e ∈ es, f e.1.toNat = true → f e.2.1.toNat = true) ∨ r + 1 ≤ cnt f
structure RMid (ns : List Int) (es : List Ed) (n : Int) (f g : Nat → Bool) (k : Nat) : Prop where
  so : ∀ i, g i = true → Rch es n (i : Int)
  nn : g n.toNat = true
  mem : ∀ i, g i = true → (i : Int) ∈ ns
  go : (g = f ∧ ∀ e ∈ es.take k, f e.1.toNat = true → f e.2.1.toNat = true) ∨ ((¬ ∀ e ∈ es, f e.1.toNat = true → f e.2.1.toNat = true) ∧ cnt f + 1 ≤ cnt g)
theorem cnt_mk1 (f : Nat → Bool) {i : Nat} (hi : i < 25) (h : f i = false) : cnt (mk1 f i) = cnt f + 1 := by
  have h1 := unm_mk1 h hi
  have h2 := cnt_unm f
  have h3 := cnt_unm (mk1 f i)
  omega
theorem mk1_again {f : Nat → Bool} {i : Nat} (h : f i = true) : mk1 f i = f := by
  funext j
  unfold mk1
  by_cases hj : j = i
  · rw [if_pos hj, hj, h]
  · rw [if_neg hj]
theorem RInv.start {ns : List Int} {es : List Ed} {n : Int} {f : Nat → Bool} {r : Nat} (h : RInv ns es n f r) : RMid ns es n f f 0 := ⟨h.so, h.nn, h.mem, .inl ⟨rfl, by simp⟩⟩
theorem RMid.no {ns : List Int} {es : List Ed} {n : Int} {f g : Nat → Bool} {k : Nat} {e : Ed} (h : RMid ns es n f g k) (he : es[k]? = some e) (hg : g e.1.toNat = false) : RMid ns es n f g (k + 1) := by
  refine ⟨h.so, h.nn, h.mem, ?_⟩
  rcases h.go with ⟨h1, h2⟩ | h1
  · refine .inl ⟨h1, fun x hx hf => ?_⟩
    rw [take_snoc he] at hx
    rcases List.mem_append.1 hx with hx | hx
    · exact h2 x hx hf
    · simp at hx
      rw [hx, ← h1, hg] at hf
      cases hf
  · exact .inr h1
theorem RMid.yes {ns : List Int} {es : List Ed} {n : Int} {f g : Nat → Bool} {k : Nat} {e : Ed} (hb : ∀ z ∈ ns, 1 ≤ z ∧ z ≤ 24) (hed : ∀ e ∈ es, e.1 ∈ ns ∧ e.2.1 ∈ ns) (h : RMid ns es n f g k) (he : es[k]? = some e) (hg : g e.1.toNat = true) : RMid ns es n f (mk1 g e.2.1.toNat) (k + 1) := by
  have hm := List.mem_of_getElem? he
  have h3 := hed e hm
  have b1 := hb _ h3.1
  have b2 := hb _ h3.2
  by_cases hy : g e.2.1.toNat = true
  · rw [mk1_again hy]
    refine ⟨h.so, h.nn, h.mem, ?_⟩
    rcases h.go with ⟨h1, h2⟩ | h1
    · refine .inl ⟨h1, fun x hx hf => ?_⟩
      rw [take_snoc he] at hx
      rcases List.mem_append.1 hx with hx | hx
      · exact h2 x hx hf
      · simp at hx
        rw [hx, ← h1]
        exact hy
    · exact .inr h1
  · have hy' : g e.2.1.toNat = false := by simpa using hy
    have hc := cnt_mk1 g (show e.2.1.toNat < 25 by omega) hy'
    refine ⟨fun i hi => ?_, mk1_iff.2 (.inr h.nn), fun i hi => ?_, .inr ?_⟩
    · rcases mk1_iff.1 hi with rfl | hi
      · have h5 := h.so _ hg
        rw [Int.toNat_of_nonneg (by omega)] at h5 ⊢
        exact h5.step hm
      · exact h.so i hi
    · rcases mk1_iff.1 hi with rfl | hi
      · rw [Int.toNat_of_nonneg (by omega)]
        exact h3.2
      · exact h.mem i hi
    · rcases h.go with ⟨h1, _⟩ | ⟨h1, h2⟩
      · refine ⟨fun hall => ?_, by rw [hc, h1]; exact Nat.le_refl _⟩
        have := hall e hm (by rw [← h1]; exact hg)
        rw [← h1, hy'] at this
        cases this
      · exact ⟨h1, by omega⟩
theorem RMid.stop {ns : List Int} {es : List Ed} {n : Int} {f g : Nat → Bool} {r k : Nat} (h : RInv ns es n f r) (hm : RMid ns es n f g k) (hk : es.length ≤ k) : RInv ns es n g (r + 1) := by
  refine ⟨hm.so, hm.nn, hm.mem, ?_⟩
  rcases hm.go with ⟨h1, h2⟩ | ⟨h1, h2⟩
  · left
    rw [h1]
    rw [List.take_of_length_le hk] at h2
    exact h2
  · right
    rcases h.go with h3 | h3
    · exact absurd h3 h1
    · omega
theorem RInv.part {ns : List Int} {es : List Ed} {n : Int} {f : Nat → Bool} (hn : n ∈ ns) (hed : ∀ e ∈ es, e.1 ∈ ns ∧ e.2.1 ∈ ns) (h : RInv ns es n f ns.length) : IsPart es n f := by
  refine isPart_of hn hed h.so h.nn ?_
  rcases h.go with h1 | h1
  · exact h1
  · exfalso
    have h2 := count_tos (ns.map fun x => (x, (0 : Int))) (List.range 25) List.nodup_range
    rw [List.length_map] at h2
    have h3 : cnt f ≤ ((List.range 25).filter fun b => (ns.map fun x => (x, (0 : Int))).any fun x => decide (x.1.toNat = b)).length := by
      refine filter_len _ fun b _ hb => ?_
      rw [List.any_eq_true]
      exact ⟨((b : Int), 0), List.mem_map.2 ⟨(b : Int), h.mem b hb, rfl⟩, by simp⟩
    omega
theorem rInv_one {ns : List Int} {es : List Ed} {n : Int} (hb : ∀ z ∈ ns, 1 ≤ z ∧ z ≤ 24) (hn : n ∈ ns) : RInv ns es n (mk1 no1 n.toNat) 0 := by
  have h1 := hb n hn
  refine ⟨fun i hi => ?_, mk1_same _ _, fun i hi => ?_, .inr ?_⟩
  · rcases mk1_iff.1 hi with rfl | h
    · rw [Int.toNat_of_nonneg (by omega)]; exact Rch.refl _ _
    · simp [no1] at h
  · rcases mk1_iff.1 hi with rfl | h
    · rw [Int.toNat_of_nonneg (by omega)]; exact hn
    · simp [no1] at h
  · rw [cnt_mk1 no1 (show n.toNat < 25 by omega) rfl]
    omega
theorem make_met (w : World) : (Instr.makeSlice 63 (.int .i64 25) (.int .i64 25)).run Try.prog w = .ok (.slice (some ⟨w.heap.size, 0, none⟩) 25 25) (w.alloc (.cells (mcl no1).toArray 4)) := by kernel_rfl

set_option maxRecDepth 100000 in
set_option maxHeartbeats 2000000 in
theorem rpart_any {ns : List Int} {es : List Ed} {vn ve : Value} {w : World} (h : GrAt w vn ve ns es) (n : Int) :
    Calls Try.prog 13 #[grV vn ve, .int .i64 n] w fun e w' => PartAns w ns es n e w' ∧ Below w.heap.size w w' := by
  have Hgr := hidIn h
  obtain ⟨ea, eca, rfl, hel, _, hea⟩ := h.e.eds
  have Hea := hidIn hea
  clear h hea
  obtain ⟨na, nca, hvn, hnl, _⟩ := Hgr.out.n
  subst hvn
  obtain ⟨W1, hW1⟩ : ∃ W1, w.alloc (.cells #[.slice na ns.length nca, .slice ea es.length eca] 25) = W1 := ⟨_, rfl⟩
  have bA : Below w.heap.size w W1 := by rw [← hW1]; exact (Below.refl _ w).alloc (Nat.le_refl _) _
  have hGB : W1.heap[w.heap.size]? = some (.cells #[.slice na ns.length nca, .slice ea es.length eca] 25) := by rw [← hW1]; exact heap_alloc_last w _
  have hlt0 := block_lt hGB
  have HF : Hid (∀ wq, Below W1.heap.size W1 wq → (wq.cell? ⟨w.heap.size, 0, none⟩ = some (.slice na ns.length nca) ∧ wq.cell? ⟨w.heap.size, 1, none⟩ = some (.slice ea es.length eca)) ∧ Below w.heap.size w wq) := hidIn fun wq h => by
    have j0 := (h.block _ hlt0).trans hGB
    exact ⟨⟨cell_of_row _ _ 0 _ _ _ j0, cell_of_row _ _ 1 _ _ _ j0⟩, bA.trans (h.mono bA.size)⟩
  have HW := hidIn hW1
  clear hW1 bA hGB
  obtain ⟨⟨f0, f1⟩, hbw1⟩ := HF.out W1 (Below.refl _ _)
  obtain ⟨b1, hb1⟩ : ∃ b1, graphOk ns es = b1 := ⟨_, rfl⟩
  have Hb1 := hidIn hb1
  have HC : Hid (Calls Try.prog 17 #[grV (.slice na ns.length nca) (.slice ea es.length eca)] W1 fun e w' => e = .returned (.int .i64 (if b1 = true then 0 else 2)) ∧ Below W1.heap.size W1 w') := hidIn (by rw [← hb1]; exact rcheck_any (Hgr.out.keep hbw1 (Nat.le_refl _)))
  clear hb1
  go_enter Try.func13, Try.ntmps13
  go_upto_region 1 with fail
  rw [HW.out]
  clear HW
  go_wp2_with fail
  refine HC.out.mono ?_
  rintro e w2 ⟨rfl, hb2⟩
  have HB2 := hidIn hb2
  clear hb2 HC f0 f1 hbw1
  obtain ⟨⟨f0, f1⟩, hbw2⟩ := HF.out w2 HB2.out
  cases b1
  · simp only [Bool.false_eq_true, if_false]
    go_wp2_with fail
    go_ret2
    exact ⟨.inr ⟨by rw [Hb1.out]; rfl, rfl⟩, hbw2⟩
  simp only [if_true]
  go_wp2_with fail
  refine (rhas_any (Hgr.out.n.keep hbw2 (Nat.le_refl _)) n).mono ?_
  rintro e w3 ⟨rfl, hw3⟩
  rw [hw3]
  clear hw3 w3
  obtain ⟨b2, hb2⟩ : ∃ b2, hasN ns n = b2 := ⟨_, rfl⟩
  have Hb2 := hidIn hb2
  rw [hb2]
  clear hb2
  cases b2
  · go_wp2_with fail
    go_ret2
    exact ⟨.inr ⟨by rw [Hb1.out, Hb2.out]; rfl, rfl⟩, hbw2⟩
  obtain ⟨hbd, hed, h384⟩ := graphOk_bd Hb1.out
  have hn := hasN_iff.1 Hb2.out
  obtain ⟨m, rfl⟩ : ∃ m : Nat, n = (m : Int) := ⟨n.toNat, by have := hbd n hn; omega⟩
  have hmb := hbd _ hn
  have hm : m < 25 := by omega
  have hmi : (m : Int) < 25 := by omega
  have Hbd := hidIn hbd
  have Hed := hidIn hed
  have HI0 := hidIn (rInv_one (es := es) hbd hn)
  rw [Int.toNat_natCast] at HI0
  have Hn := hidIn hn
  clear hbd hed hn
  have hmk := make_met
  have hA3 := arr_new w2 4 (mcl no1)
  have bA3 : Below w2.heap.size w2 (w2.alloc (.cells (mcl no1).toArray 4)) := (Below.refl _ w2).alloc (Nat.le_refl _) _
  have HB3 := hidIn (HB2.out.trans (bA3.mono HB2.out.size))
  clear bA3 f0 f1 hbw2
  go_upto_region 4 with fail
  generalize w2.alloc (.cells (mcl no1).toArray 4) = W3 at *
  have hbm : W1.heap.size ≤ w2.heap.size := HB2.out.size
  generalize w2.heap.size = bm at *
  have mc := hA3.cell m
  rw [mcl_get _ hm] at mc
  have mf := hA3.frozen m
  have HA4 : Hid (Arr (W3.setCell ⟨bm, m, none⟩ (.bool true)) bm 4 (mcl (mk1 no1 m))) := hidIn (by rw [← mcl_set no1 hm]; exact hA3.set m _)
  have HB4 : Hid (Below W1.heap.size W1 (W3.setCell ⟨bm, m, none⟩ (.bool true))) := hidIn (HB3.out.setCell (p := ⟨bm, m, none⟩) hbm _)
  clear hA3 hmk
  go_upto_region 5 with fail
  generalize W3.setCell ⟨bm, m, none⟩ (.bool true) = W4 at *
  clear mc mf HB3
  go_wp2_with fail
  go_loopw [7] (fun i wr => ∃ r : Nat, r ≤ ns.length ∧ i = .int .i64 r ∧ Hid (∃ f, Arr wr bm 4 (mcl f) ∧ RInv ns es (m : Int) f r ∧ Below W1.heap.size W1 wr)) (fun i _ => ns.length - (intOf i).toNat)
  case atStart => exact ⟨0, Nat.zero_le _, rfl, hidIn ⟨_, HA4.out, HI0.out, HB4.out⟩⟩
  case round =>
    obtain ⟨r, hr, rfl, HR⟩ := hrel
    obtain ⟨f, hA, hI, hbel⟩ := HR.out
    clear HR HA4 HB4 HI0
    obtain ⟨⟨f0, f1⟩, hbw⟩ := HF.out wr hbel
    by_cases hlt : r < ns.length
    · have hri : (r : Int) < (ns.length : Int) := by omega
      have HA := hidIn hA
      have HI := hidIn hI
      have HB := hidIn hbel
      clear hA hI hbel
      generalize hwo : wr = wo at *
      clear hwo
      go_wp2_with fail
      clear f0 f1 hbw
      go_loopw [8] (fun i wr => ∃ k : Nat, k ≤ es.length ∧ i = .int .i64 k ∧ Hid (∃ g, Arr wr bm 4 (mcl g) ∧ RMid ns es (m : Int) f g k ∧ Below W1.heap.size W1 wr)) (fun i _ => es.length - (intOf i).toNat)
      case atStart => exact ⟨0, Nat.zero_le _, rfl, hidIn ⟨f, HA.out, HI.out.start, HB.out⟩⟩
      case round =>
        obtain ⟨k, hk, rfl, HR⟩ := hrel
        obtain ⟨g, hA, hM, hbel⟩ := HR.out
        clear HR
        obtain ⟨⟨f0, f1⟩, hbw⟩ := HF.out wr hbel
        by_cases hlt2 : k < es.length
        · obtain ⟨bk, o, rfl, hbk, hcell⟩ := Hea.out (by omega)
          obtain ⟨⟨x, y, c⟩, hz⟩ : ∃ z, es[k]? = some z := ⟨es[k], List.getElem?_eq_getElem hlt2⟩
          have hxy := Hed.out _ (List.mem_of_getElem? hz)
          simp only at hxy
          have hxb := Hbd.out _ hxy.1
          have hyb := Hbd.out _ hxy.2
          obtain ⟨p, rfl⟩ : ∃ p : Nat, x = (p : Int) := ⟨x.toNat, by omega⟩
          obtain ⟨q, rfl⟩ : ∃ q : Nat, y = (q : Int) := ⟨y.toNat, by omega⟩
          have hp : p < 25 := by omega
          have hq : q < 25 := by omega
          have hpi : (p : Int) < 25 := by omega
          have hqi : (q : Int) < 25 := by omega
          obtain ⟨q0, q1, q2⟩ := hcell k _ hz
          have c0 := (hbw.cell (p := ⟨bk, o + k * 3, none⟩) hbk).trans q0
          have c1 := (hbw.cell (p := ⟨bk, o + k * 3 + 1, none⟩) hbk).trans q1
          simp only at c0 c1
          have mc := hA.cell p
          rw [mcl_get _ hp] at mc
          have mq := hA.cell q
          rw [mcl_get _ hq] at mq
          have mf := hA.frozen q
          have hki : (k : Int) < (es.length : Int) := by omega
          have Hz := hidIn hz
          have HA2 := hidIn hA
          have HM := hidIn hM
          have HB2' := hidIn hbel
          clear hcell q0 q1 q2 hz hxy hxb hyb hA hM hbel hbw
          obtain ⟨b2, hb2⟩ : ∃ b2, g p = b2 := ⟨_, rfl⟩
          have Hg := hidIn hb2
          rw [hb2] at mc
          clear hb2
          cases b2
          · go_wp2_with fail
            go_roundw
            case rel => exact ⟨k + 1, by omega, by go_num, hidIn ⟨g, HA2.out, HM.out.no Hz.out (by simpa using Hg.out), HB2'.out⟩⟩
            case measure => simp [intOf]; omega
          · go_wp2_with fail
            go_roundw
            case rel =>
              have h7 := HM.out.yes Hbd.out Hed.out Hz.out (by simpa using Hg.out)
              simp only [Int.toNat_natCast] at h7
              exact ⟨k + 1, by omega, by go_num, hidIn ⟨mk1 g q, by rw [← mcl_set g hq]; exact HA2.out.set q _, h7, HB2'.out.setCell (p := ⟨bm, q, none⟩) hbm _⟩⟩
            case measure => simp [intOf]; omega
        · have hki : ¬ ((k : Int) < (es.length : Int)) := by omega
          have HA2 := hidIn hA
          have HI2 := hidIn (hM.stop HI.out (by omega))
          have HB2' := hidIn hbel
          clear hA hM hbel hbw
          go_wp2_with fail
          go_roundw
          case rel => exact ⟨r + 1, by omega, by go_num, hidIn ⟨g, HA2.out, HI2.out, HB2'.out⟩⟩
          case measure => simp [intOf]; omega
    · have hri : ¬ ((r : Int) < (ns.length : Int)) := by omega
      obtain rfl : r = ns.length := by omega
      have HP := hidIn (hI.part Hn.out Hed.out)
      have Hf0 : Hid (f 0 = false) := hidIn (by
        cases h0 : f 0 with
        | false => rfl
        | true => have := Hbd.out _ (hI.mem 0 h0); simp at this)
      have HA := hidIn hA
      have HB := hidIn hbel
      clear hA hI hbel hbw
      generalize hwo : wr = wo at *
      clear hwo
      go_wp2_with fail
      clear f0 f1
      go_loopw [9, 10] (fun u i wr => ∃ k : Nat, k ≤ 24 ∧ i = .int .i64 ((k : Int) + 1) ∧ Hid (wr.ownsRow wo.heap.size 3 1 u (upTo f (k + 1)).length (fl ic (upTo f (k + 1))) ∧ Arr wr bm 4 (mcl f) ∧ Below W1.heap.size W1 wr ∧ wo.heap.size ≤ wr.heap.size)) (fun _ i _ => 25 - (intOf i).toNat)
      case atStart =>
        refine ⟨0, by omega, rfl, hidIn ⟨?_, HA.out, HB.out, Nat.le_refl _⟩⟩
        rw [upTo_no Hf0.out]
        exact World.ownsRow_nil _ _ _ _
      case round =>
        obtain ⟨k, hk, rfl, HR⟩ := hrel
        obtain ⟨hrow, hA, hbel, hsz⟩ := HR.out
        clear HR
        obtain ⟨ua, ucap, rfl⟩ := row_shape hrow
        by_cases hlt2 : k < 24
        · have hki : (k : Int) + 1 ≤ 24 := by omega
          have hki2 : (k : Int) + 1 < 25 := by omega
          have mc := hA.cell (k + 1)
          rw [mcl_get _ (by omega)] at mc
          have hle := upTo_len f (k + 1)
          obtain ⟨b2, hb2⟩ : ∃ b2, f (k + 1) = b2 := ⟨_, rfl⟩
          rw [hb2] at mc
          cases b2
          · have HU := hidIn (upTo_no hb2)
            have HRow := hidIn hrow
            have HA2 := hidIn hA
            have HB3 := hidIn hbel
            clear hrow hA hbel hb2
            go_wp2_with fail
            go_roundw
            case rel => exact ⟨k + 1, by omega, by go_num, hidIn ⟨by rw [HU.out]; exact HRow.out, HA2.out, HB3.out, hsz⟩⟩
            case measure => simp [intOf]; omega
          · have HU := hidIn (upTo_yes hb2)
            obtain ⟨g, gcap, w6, hrun, hown, _, _, hb6⟩ := append_int hrow ((k + 1 : Nat) : Int) (by omega) hsz
            have e1 : ((k + 1 : Nat) : Int) = (k : Int) + 1 := by omega
            rw [e1] at hrun
            have HRun := hidIn hrun
            have HO := hidIn hown
            have HA6 := hidIn (hA.keep hb6 (by have := HA.out.lt; omega))
            have HB6 := hidIn (hbel.trans (hb6.mono HB.out.size))
            have HS6 := hidIn (Nat.le_trans hsz hb6.size)
            clear hrun hown hrow hA hbel hb6 hb2 e1
            obtain ⟨L, hL⟩ : ∃ L, upTo f (k + 1) = L := ⟨_, rfl⟩
            have HLL := hidIn hL
            rw [hL] at HRun HO hle ⊢
            clear hL
            go_wp2_with (refine l_append rfl _ _ 22 rfl HRun.out ?_)
            go_roundw
            case rel =>
              refine ⟨k + 1, by omega, by go_num, hidIn ⟨?_, HA6.out, HB6.out, HS6.out⟩⟩
              rw [HU.out, HLL.out, List.length_append]
              exact HO.out
            case measure => simp [intOf]; omega
        · have hke : k = 24 := by omega
          have hki : ¬ ((k : Int) + 1 ≤ 24) := by omega
          rw [hke] at hrow
          have HRow : Hid (wr.ownsRow w.heap.size 3 1 (.slice ua (upTo f (k + 1)).length ucap) (markedL f).length (fl ic (markedL f))) := hidIn (by
            have h7 := row_low hrow (show w.heap.size ≤ wo.heap.size by have := HB.out.size; omega)
            rw [hke]
            exact h7)
          have HBW := hidIn (HF.out wr hbel).2
          clear hrow hA hbel hke
          go_wp2_with fail
          go_returns
          exact ⟨.inl ⟨by rw [Hb1.out, Hb2.out]; rfl, f, _, HP.out, rfl, HRow.out⟩, HBW.out⟩
end Go.Proofs.Ythfhmoaddpcnlaa
