/- edgesMayBe, Check. -/
import Derived.Test.YtgeoghhajjlofaaGreatDoorG2
namespace Go.Proofs.YtgeoghhajjlofaaGreatDoor
open Go.RowKit

/-- A graph, the last edge and this edge in their blocks. -/
structure EdM (w : World) (b l c : Nat) (vn ve : Value) (last e : Ed) : Prop where
  g0 : w.cell? ⟨b, 0, none⟩ = some vn
  g1 : w.cell? ⟨b, 1, none⟩ = some ve
  l0 : w.cell? ⟨l, 0, none⟩ = some (.int .i64 last.1)
  l1 : w.cell? ⟨l, 1, none⟩ = some (.int .i64 last.2.1)
  l2 : w.cell? ⟨l, 2, none⟩ = some (.int .i64 last.2.2)
  lf : ∀ j, w.frozen? ⟨l, j, none⟩ = false
  e0 : w.cell? ⟨c, 0, none⟩ = some (.int .i64 e.1)
  e1 : w.cell? ⟨c, 1, none⟩ = some (.int .i64 e.2.1)
  e2 : w.cell? ⟨c, 2, none⟩ = some (.int .i64 e.2.2)
  hb : b < w.heap.size
  hl : l < w.heap.size
  hc : c < w.heap.size
theorem EdM.keep {w w' : World} {b l c B : Nat} {vn ve : Value} {last e : Ed} (h : EdM w b l c vn ve last e) (k : Below B w w') (hB : w.heap.size ≤ B) : EdM w' b l c vn ve last e := by
  have hb := h.hb
  have hl := h.hl
  have hc := h.hc
  have hs := k.size
  exact ⟨(k.cell (p := ⟨b, 0, none⟩) (by show b < B; omega)).trans h.g0, (k.cell (p := ⟨b, 1, none⟩) (by show b < B; omega)).trans h.g1, (k.cell (p := ⟨l, 0, none⟩) (by show l < B; omega)).trans h.l0, (k.cell (p := ⟨l, 1, none⟩) (by show l < B; omega)).trans h.l1, (k.cell (p := ⟨l, 2, none⟩) (by show l < B; omega)).trans h.l2, fun j => (k.frozen (p := ⟨l, j, none⟩) (by show l < B; omega)).trans (h.lf j),
    (k.cell (p := ⟨c, 0, none⟩) (by show c < B; omega)).trans h.e0, (k.cell (p := ⟨c, 1, none⟩) (by show c < B; omega)).trans h.e1, (k.cell (p := ⟨c, 2, none⟩) (by show c < B; omega)).trans h.e2, by omega, by omega, by omega⟩
/-- A graph and the last edge in their blocks. -/
structure EdL (w : World) (b l : Nat) (vn ve : Value) (last : Ed) : Prop where
  g : w.heap[b]? = some (.cells #[vn, ve] 53)
  l : w.heap[l]? = some (.cells #[.int .i64 last.1, .int .i64 last.2.1, .int .i64 last.2.2] 97)
theorem EdL.keep {w w' : World} {b l B : Nat} {vn ve : Value} {last : Ed} (h : EdL w b l vn ve last) (k : Below B w w') (hB : w.heap.size ≤ B) : EdL w' b l vn ve last := by
  have h1 := block_lt h.g
  have h2 := block_lt h.l
  exact ⟨(k.block b (by omega)).trans h.g, (k.block l (by omega)).trans h.l⟩
theorem EdL.new {w : World} {b l : Nat} {vn ve : Value} {last : Ed} (h : EdL w b l vn ve last) (e : Ed) : EdM (w.alloc (.cells #[.int .i64 e.1, .int .i64 e.2.1, .int .i64 e.2.2] 97)) b l w.heap.size vn ve last e := by
  have h1 := block_lt h.g
  have h2 := block_lt h.l
  have k := h.keep ((Below.refl _ w).alloc (Nat.le_refl _) (.cells #[.int .i64 e.1, .int .i64 e.2.1, .int .i64 e.2.2] 97)) (Nat.le_refl _)
  have hh := heap_alloc_last w (.cells #[.int .i64 e.1, .int .i64 e.2.1, .int .i64 e.2.2] 97)
  exact ⟨cell_of_row _ _ 0 _ _ _ k.g, cell_of_row _ _ 1 _ _ _ k.g, cell_of_row _ _ 0 _ _ _ k.l, cell_of_row _ _ 1 _ _ _ k.l, cell_of_row _ _ 2 _ _ _ k.l, fun j => frozen_new k.l j, cell_of_row _ _ 0 _ _ _ hh, cell_of_row _ _ 1 _ _ _ hh, cell_of_row _ _ 2 _ _ _ hh, by simp; omega, by simp; omega, by simp⟩
theorem EdL.put {w : World} {b l : Nat} {vn ve : Value} {last : Ed} (h : EdL w b l vn ve last) (hne : b ≠ l) (e : Ed) : EdL (((w.setCell ⟨l, 0, none⟩ (.int .i64 e.1)).setCell ⟨l, 1, none⟩ (.int .i64 e.2.1)).setCell ⟨l, 2, none⟩ (.int .i64 e.2.2)) b l vn ve e := by
  refine ⟨?_, ?_⟩
  · rw [Below.heap_setCell _ _ _ _ hne, Below.heap_setCell _ _ _ _ hne, Below.heap_setCell _ _ _ _ hne]; exact h.g
  · exact heap_setCell_same _ _ _ _ _ _ (heap_setCell_same _ _ _ _ _ _ (heap_setCell_same _ _ _ _ _ _ h.l))

set_option maxRecDepth 100000 in
set_option maxHeartbeats 1000000 in
theorem edges_any {ns : List Int} {es : List Ed} {vn ve : Value} {w : World} (hn : SlAt ic 1 w vn ns) (he : SlAt ec 3 w ve es) :
    Calls Tryz.prog 88 #[grV vn ve] w fun e w' => e = .returned (.bool (decide (es.length ≤ 384) && edgesOk ns (0, 0, 0) es)) ∧ Below w.heap.size w w' := by
  obtain ⟨a, cap, rfl, hl, _, hat⟩ := he.eds
  have Ha := hidIn hat
  have Hn := hidIn hn
  clear hat hn he
  by_cases h384 : es.length ≤ 384
  · have h384' : ¬ (384 : Int) < (es.length : Int) := by omega
    have Hd : Hid ((decide (es.length ≤ 384) && edgesOk ns (0, 0, 0) es) = edgesOk ns (0, 0, 0) es) := hidIn (by simp [h384])
    rw [Hd.out]
    clear Hd
    go_enter Tryz.func88, Tryz.ntmps88
    go_wp2
    go_loopw [13] (fun i wr => ∃ (k : Nat) (last : Ed), k ≤ es.length ∧ i = .int .i64 k ∧ Hid (EdL wr w.heap.size (w.heap.size + 1) vn (.slice a es.length cap) last ∧ Below w.heap.size w wr ∧ edgesOk ns (0, 0, 0) es = edgesOk ns last (es.drop k))) (fun i _ => es.length - (intOf i).toNat)
    case atStart =>
      refine ⟨0, (0, 0, 0), Nat.zero_le _, rfl, hidIn ⟨⟨?_, ?_⟩, by go_grown, by rw [List.drop_zero]⟩⟩
      · rw [Below.heap_alloc _ _ _ (by simp)]
        exact heap_alloc_last w _
      · have := heap_alloc_last (w.alloc (.cells #[vn, .slice a es.length cap] 53)) (.cells #[.int .i64 0, .int .i64 0, .int .i64 0] 97)
        rw [World.size_alloc] at this
        exact this
    case round =>
      obtain ⟨k, last, hk, rfl, HR⟩ := hrel
      by_cases hlt : k < es.length
      · obtain ⟨bk, o, rfl, hbk, hcell⟩ := Ha.out (by omega)
        obtain ⟨⟨x, y, c⟩, hz⟩ : ∃ z, es[k]? = some z := ⟨es[k], List.getElem?_eq_getElem hlt⟩
        obtain ⟨hL, hbel, hrest⟩ := HR.out
        obtain ⟨q0, q1, q2⟩ := hcell k _ hz
        have c0 := (hbel.cell (p := ⟨bk, o + k * 3, none⟩) hbk).trans q0
        have c1 := (hbel.cell (p := ⟨bk, o + k * 3 + 1, none⟩) hbk).trans q1
        have c2 := (hbel.cell (p := ⟨bk, o + k * 3 + 2, none⟩) hbk).trans q2
        simp only at c0 c1 c2
        have HN : Hid (edgesOk ns (0, 0, 0) es = (edgeOk ns last (x, y, c) && edgesOk ns (x, y, c) (es.drop (k + 1)))) := hidIn (by rw [hrest, drop_next hz, edgesOk])
        obtain ⟨W1, hW1⟩ : ∃ W1, wr.alloc (.cells #[.int .i64 x, .int .i64 y, .int .i64 c] 97) = W1 := ⟨_, rfl⟩
        have hM1 : EdM W1 w.heap.size (w.heap.size + 1) wr.heap.size vn (.slice (some ⟨bk, o, none⟩) es.length cap) last (x, y, c) := by rw [← hW1]; exact hL.new (x, y, c)
        have hb1 : Below w.heap.size w W1 := by rw [← hW1]; exact hbel.alloc hbel.size _
        have HL1 : Hid (EdL W1 w.heap.size (w.heap.size + 1) vn (.slice (some ⟨bk, o, none⟩) es.length cap) last) := hidIn (by rw [← hW1]; exact hL.keep ((Below.refl _ wr).alloc (Nat.le_refl _) _) (Nat.le_refl _))
        have HW := hidIn hW1
        obtain ⟨g0, g1, l0, l1, l2, lf, e0, e1, e2, hgb, hgl, hgc⟩ := hM1
        have HM : Hid (EdM W1 w.heap.size (w.heap.size + 1) wr.heap.size vn (.slice (some ⟨bk, o, none⟩) es.length cap) last (x, y, c)) := hidIn ⟨g0, g1, l0, l1, l2, lf, e0, e1, e2, hgb, hgl, hgc⟩
        have HB := hidIn hb1
        clear hL hbel hrest q0 q1 q2 hcell hz HR hW1 hb1
        simp only at l0 l1 l2 e0 e1 e2
        have hki : (k : Int) < (es.length : Int) := by omega
        go_upto_region 7 with fail
        rw [HW.out]
        go_wp2_with fail
        refine (isNode_any (Hn.out.keep HB.out (Nat.le_refl _)) x).mono ?_
        rintro e' w2 ⟨rfl, hb2⟩
        have HM2 := hidIn (HM.out.keep hb2 (Nat.le_refl _))
        have HB2 := hidIn (HB.out.trans (hb2.mono HB.out.size))
        have HL2 := hidIn (HL1.out.keep hb2 (Nat.le_refl _))
        clear g0 g1 l0 l1 l2 lf e0 e1 e2 hgb hgl hgc hb2
        have HH : ∃ b1, hasN ns x = b1 := ⟨_, rfl⟩
        obtain ⟨b1, hb1⟩ := HH
        have Hb1 := hidIn hb1
        rw [hb1]
        clear hb1
        cases b1
        · go_wp2_with fail
          go_returns
          exact ⟨by rw [HN.out]; simp [edgeOk, Hb1.out], HB2.out⟩
        obtain ⟨g0, g1, l0, l1, l2, lf, e0, e1, e2, hgb, hgl, hgc⟩ := HM2.out
        simp only at l0 l1 l2 e0 e1 e2
        go_wp2_with fail
        refine (isNode_any (Hn.out.keep HB2.out (Nat.le_refl _)) y).mono ?_
        rintro e' w3 ⟨rfl, hb3⟩
        have HM3 := hidIn (HM2.out.keep hb3 (Nat.le_refl _))
        have HB3 := hidIn (HB2.out.trans (hb3.mono HB2.out.size))
        have HL3 := hidIn (HL2.out.keep hb3 (Nat.le_refl _))
        clear g0 g1 l0 l1 l2 lf e0 e1 e2 hgb hgl hgc hb3
        have HH : ∃ b1, hasN ns y = b1 := ⟨_, rfl⟩
        obtain ⟨b1, hb1⟩ := HH
        have Hb2 := hidIn hb1
        rw [hb1]
        clear hb1
        cases b1
        · go_wp2_with fail
          go_returns
          exact ⟨by rw [HN.out]; simp [edgeOk, Hb1.out, Hb2.out], HB3.out⟩
        obtain ⟨g0, g1, l0, l1, l2, lf, e0, e1, e2, hgb, hgl, hgc⟩ := HM3.out
        simp only at l0 l1 l2 e0 e1 e2
        by_cases hxy : x = y
        · have hxy' : (x == y) = true := by simpa using hxy
          go_wp2_with fail
          go_returns
          exact ⟨by rw [HN.out]; simp [edgeOk, hxy], HB3.out⟩
        have hxy' : (x == y) = false := by simpa using hxy
        go_wp2_with fail
        refine (isC_any c _).mono ?_
        rintro e' w4 ⟨rfl, hw4⟩
        rw [hw4]
        clear hw4 w4
        have HH : ∃ b1, isC c = b1 := ⟨_, rfl⟩
        obtain ⟨b1, hb1⟩ := HH
        have Hb3 := hidIn hb1
        rw [hb1]
        clear hb1
        cases b1
        · go_wp2_with fail
          go_returns
          exact ⟨by rw [HN.out]; simp [edgeOk, Hb1.out, Hb2.out, Hb3.out], HB3.out⟩
        go_wp2_with fail
        refine (rises_any last (x, y, c) _).mono ?_
        rintro e' w4 ⟨rfl, hb4⟩
        have HM4 := hidIn (HM3.out.keep hb4 (Nat.le_refl _))
        have HB4 := hidIn (HB3.out.trans (hb4.mono HB3.out.size))
        have HL4 := hidIn (HL3.out.keep hb4 (Nat.le_refl _))
        clear g0 g1 l0 l1 l2 lf e0 e1 e2 hgb hgl hgc hb4
        have HH : ∃ b1, risesE last (x, y, c) = b1 := ⟨_, rfl⟩
        obtain ⟨b1, hb1⟩ := HH
        have Hb4 := hidIn hb1
        rw [hb1]
        clear hb1
        cases b1
        · go_wp2_with fail
          go_returns
          exact ⟨by rw [HN.out]; simp [edgeOk, Hb1.out, Hb2.out, Hb3.out, Hb4.out], HB4.out⟩
        obtain ⟨g0, g1, l0, l1, l2, lf, e0, e1, e2, hgb, hgl, hgc⟩ := HM4.out
        simp only at l0 l1 l2 e0 e1 e2
        have f0 := lf 0
        have f1 := lf 1
        have f2 := lf 2
        go_wp2_with fail
        go_roundw
        case rel =>
          refine ⟨k + 1, (x, y, c), by omega, by go_num, hidIn ⟨HL4.out.put (by omega) (x, y, c), ?_, ?_⟩⟩
          · exact Below.setCell (Below.setCell (HB4.out.setCell (p := ⟨w.heap.size + 1, 0, none⟩) (Nat.le_succ _) _) (p := ⟨w.heap.size + 1, 1, none⟩) (Nat.le_succ _) _) (p := ⟨w.heap.size + 1, 2, none⟩) (Nat.le_succ _) _
          · rw [HN.out]; simp [edgeOk, Hb1.out, Hb2.out, Hb3.out, Hb4.out, hxy]
        case measure => simp [intOf]; omega
      · obtain ⟨hL, hbel, hrest⟩ := HR.out
        have HB := hidIn hbel
        have hke : k = es.length := by omega
        have HE : Hid (edgesOk ns (0, 0, 0) es = true) := hidIn (by rw [hrest, hke, List.drop_length]; rfl)
        have hki : ¬ ((k : Int) < (es.length : Int)) := by omega
        clear hL hbel hrest HR
        go_wp2_with fail
        go_returns
        exact ⟨by rw [HE.out]; rfl, HB.out⟩
  · have h384' : (384 : Int) < (es.length : Int) := by omega
    go_enter Tryz.func88, Tryz.ntmps88
    go_wp2
    go_ret
    exact ⟨by simp [h384], by go_grown⟩
/-- A graph handed in. -/
structure GrAt (w : World) (vn ve : Value) (ns : List Int) (es : List Ed) : Prop where
  n : SlAt ic 1 w vn ns
  e : SlAt ec 3 w ve es
theorem GrAt.keep {w w' : World} {vn ve : Value} {ns : List Int} {es : List Ed} {B : Nat} (h : GrAt w vn ve ns es) (hb : Below B w w') (hB : w.heap.size ≤ B) : GrAt w' vn ve ns es := ⟨h.n.keep hb hB, h.e.keep hb hB⟩
theorem check_any {ns : List Int} {es : List Ed} {vn ve : Value} {w : World} (h : GrAt w vn ve ns es) :
    Calls Tryz.prog 55 #[grV vn ve] w fun e w' => e = .returned (.int .i64 (if graphOk ns es = true then 0 else 2)) ∧ Below w.heap.size w w' := by
  have HN := hidIn (fun w1 (hb : Below w.heap.size w w1) => nodes_any (h.n.keep hb (Nat.le_refl _)))
  have HE := hidIn (fun w1 (hb : Below w.heap.size w w1) => edges_any (h.n.keep hb (Nat.le_refl _)) (h.e.keep hb (Nat.le_refl _)))
  clear h
  unfold graphOk
  generalize nodesOk 0 ns = b1 at HN ⊢
  generalize (decide (es.length ≤ 384) && edgesOk ns (0, 0, 0) es) = b2 at HE ⊢
  cases b1
  · go_enter Tryz.func55, Tryz.ntmps55
    go_wp2_with fail
    refine (HN.out _ (by go_grown)).mono ?_
    rintro e w1 ⟨rfl, hw1⟩
    rw [hw1]
    clear hw1 w1
    go_wp2_with fail
    go_ret
    exact ⟨by simp, by go_grown⟩
  · go_enter Tryz.func55, Tryz.ntmps55
    go_wp2_with fail
    refine (HN.out _ (by go_grown)).mono ?_
    rintro e w1 ⟨rfl, hw1⟩
    rw [hw1]
    clear hw1 w1
    go_wp2_with fail
    refine (HE.out _ (by go_grown)).mono ?_
    rintro e w1 ⟨rfl, hb1⟩
    have HB : Hid (Below w.heap.size w w1) := hidIn (Below.trans (by go_grown) (hb1.mono (by simp)))
    clear hb1
    cases b2
    · go_wp2_with fail
      go_ret
      exact ⟨by simp, HB.out⟩
    · go_wp2_with fail
      go_ret
      exact ⟨by simp, HB.out⟩
end Go.Proofs.YtgeoghhajjlofaaGreatDoor
