/- from, Near; marks in an array; marked. -/
import Derived.Test.YtpifkhcjogilfabG3
namespace Go.Proofs.Ytpifkhcjogilfab
open Go.RowKit

theorem infoAdj : (Try.prog.info? 41).map (fun i => (i.zero, i.size, i.bytes)) = some (some (.agg #[.int .i64 0, .int .i64 0]), 2, 16) := by kernel_rfl
theorem infoInt : (Try.prog.info? 3).map (fun i => (i.zero, i.size, i.bytes)) = some (some (.int .i64 0), 1, 8) := by kernel_rfl
theorem infoEdge : (Try.prog.info? 47).map (fun i => (i.zero, i.size, i.bytes)) = some (some (.agg #[.int .i64 0, .int .i64 0, .int .i64 0]), 3, 24) := by kernel_rfl
theorem append_adj {W : World} {base k : Nat} {u : Value} {l : List (Int × Int)} (hr : W.ownsRow base 41 2 u k (fl ac l)) (x : (Int × Int)) (hk : (k + 1) * 16 ≤ 140737488355328) (hbase : base ≤ W.heap.size) :
    ∃ g cap w6, (Builtin.append_ #[31, 31] 31 #[u, .slice (some ⟨W.heap.size, 0, none⟩) 1 1]).run Try.prog (W.alloc (.cells (ac x).toArray 41)) = .ok (.slice (some ⟨g, 0, none⟩) (k + 1) cap) w6 ∧
      w6.ownsRow base 41 2 (.slice (some ⟨g, 0, none⟩) (k + 1) cap) (k + 1) (fl ac (l ++ [x])) ∧ (u.ownBlock = some g ∨ g = W.heap.size + 1) ∧ W.grownBy w6 u.ownBlock ∧ Below base W w6 :=
  append_one (P := Try.prog) (cs := ac) (T := 31) (fun _ => rfl) (fun _ => by simp [Value.oneCell']) Try.underlying31 infoAdj rfl (by decide) hr x hk (by unfold maxLen; omega) hbase
theorem append_int {W : World} {base k : Nat} {u : Value} {l : List Int} (hr : W.ownsRow base 3 1 u k (fl ic l)) (x : Int) (hk : (k + 1) * 8 ≤ 140737488355328) (hbase : base ≤ W.heap.size) :
    ∃ g cap w6, (Builtin.append_ #[22, 22] 22 #[u, .slice (some ⟨W.heap.size, 0, none⟩) 1 1]).run Try.prog (W.alloc (.cells (ic x).toArray 3)) = .ok (.slice (some ⟨g, 0, none⟩) (k + 1) cap) w6 ∧
      w6.ownsRow base 3 1 (.slice (some ⟨g, 0, none⟩) (k + 1) cap) (k + 1) (fl ic (l ++ [x])) ∧ (u.ownBlock = some g ∨ g = W.heap.size + 1) ∧ W.grownBy w6 u.ownBlock ∧ Below base W w6 :=
  append_one (P := Try.prog) (cs := ic) (T := 22) (fun _ => rfl) (fun _ => by simp [Value.oneCell']) Try.underlying22 infoInt rfl (by decide) hr x hk (by unfold maxLen; omega) hbase
theorem append_edge {W : World} {base k : Nat} {u : Value} {l : List Ed} (hr : W.ownsRow base 47 3 u k (fl ec l)) (x : Ed) (hk : (k + 1) * 24 ≤ 140737488355328) (hbase : base ≤ W.heap.size) :
    ∃ g cap w6, (Builtin.append_ #[23, 23] 23 #[u, .slice (some ⟨W.heap.size, 0, none⟩) 1 1]).run Try.prog (W.alloc (.cells (ec x).toArray 47)) = .ok (.slice (some ⟨g, 0, none⟩) (k + 1) cap) w6 ∧
      w6.ownsRow base 47 3 (.slice (some ⟨g, 0, none⟩) (k + 1) cap) (k + 1) (fl ec (l ++ [x])) ∧ (u.ownBlock = some g ∨ g = W.heap.size + 1) ∧ W.grownBy w6 u.ownBlock ∧ Below base W w6 :=
  append_one (P := Try.prog) (cs := ec) (T := 23) (fun _ => rfl) (fun _ => by simp [Value.oneCell']) Try.underlying23 infoEdge rfl (by decide) hr x hk (by unfold maxLen; omega) hbase
theorem take_snoc {α : Type} {l : List α} {k : Nat} {x : α} (h : l[k]? = some x) : l.take (k + 1) = l.take k ++ [x] := by rw [List.take_add_one, h]; rfl
theorem nearL_snoc_yes {es : List Ed} {n y c : Int} : nearL (es ++ [(n, y, c)]) n = nearL es n ++ [(y, c)] := by simp [nearL, List.filter_append]
theorem nearL_snoc_no {es : List Ed} {n x y c : Int} (h : x ≠ n) : nearL (es ++ [(x, y, c)]) n = nearL es n := by simp [nearL, List.filter_append, h]
theorem nearL_length (es : List Ed) (n : Int) : (nearL es n).length ≤ es.length := by unfold nearL; rw [List.length_map]; exact List.length_filter_le _ _

set_option maxRecDepth 100000 in
set_option maxHeartbeats 1000000 in
theorem from_any {es : List Ed} {vn ve : Value} {w : World} (he : SlAt ec 3 w ve es) (n : Int) (h384 : es.length ≤ 384) :
    Calls Try.prog 15 #[grV vn ve, .int .i64 n] w fun e w' => (∃ u, e = .returned u ∧ w'.ownsRow w.heap.size 41 2 u (nearL es n).length (fl ac (nearL es n))) ∧ Below w.heap.size w w' := by
  obtain ⟨a, cap, rfl, hl, _, hat⟩ := he.eds
  have Ha := hidIn hat
  clear hat he
  go_enter Try.func15, Try.ntmps15
  go_wp2
  go_loopw [5, 11] (fun u i wr => ∃ (k : Nat), k ≤ es.length ∧ i = .int .i64 k ∧ Hid (wr.ownsRow w.heap.size 41 2 u (nearL (es.take k) n).length (fl ac (nearL (es.take k) n)) ∧ Below w.heap.size w wr)) (fun _ i _ => es.length - (intOf i).toNat)
  case atStart => exact ⟨0, Nat.zero_le _, rfl, hidIn ⟨World.ownsRow_nil _ _ _ _, by go_grown⟩⟩
  case round =>
    obtain ⟨k, hk, rfl, HR⟩ := hrel
    obtain ⟨hrow, hbel⟩ := HR.out
    clear HR
    by_cases hlt : k < es.length
    · obtain ⟨bk, o, rfl, hbk, hcell⟩ := Ha.out (by omega)
      obtain ⟨⟨x, y, c⟩, hz⟩ : ∃ z, es[k]? = some z := ⟨es[k], List.getElem?_eq_getElem hlt⟩
      obtain ⟨q0, q1, q2⟩ := hcell k _ hz
      have c0 := (hbel.cell (p := ⟨bk, o + k * 3, none⟩) hbk).trans q0
      have c1 := (hbel.cell (p := ⟨bk, o + k * 3 + 1, none⟩) hbk).trans q1
      have c2 := (hbel.cell (p := ⟨bk, o + k * 3 + 2, none⟩) hbk).trans q2
      simp only at c0 c1 c2
      have hki : (k : Int) < (es.length : Int) := by omega
      by_cases hxn : x = n
      · subst hxn
        have HN : Hid (nearL (es.take (k + 1)) x = nearL (es.take k) x ++ [(y, c)]) := hidIn (by rw [take_snoc hz, nearL_snoc_yes])
        have hle : (nearL (es.take k) x).length ≤ 384 := by have := nearL_length (es.take k) x; rw [List.length_take] at this; omega
        obtain ⟨g, gcap, w6, hrun, hown, _, hgrow, hb6⟩ := append_adj (row_below hrow ((Below.refl _ wr).alloc (Nat.le_refl _) (.cells #[.int .i64 x, .int .i64 y, .int .i64 c] 47)) (Nat.le_refl _)) (y, c) (by omega) (Nat.le_trans hbel.size (by simp))
        rw [World.size_alloc] at hrun
        have HRun := hidIn hrun
        have HO := hidIn hown
        have HB : Hid (Below w.heap.size w w6) := hidIn ((hbel.alloc hbel.size (.cells #[.int .i64 x, .int .i64 y, .int .i64 c] 47)).trans hb6)
        clear hrun hown hgrow hb6 hrow hbel hcell q0 q1 q2 hz
        generalize nearL (es.take k) x = L at *
        go_wp2_with (refine l_append rfl _ _ 31 rfl HRun.out ?_)
        go_roundw
        case rel => exact ⟨k + 1, by omega, by go_num, hidIn ⟨by rw [HN.out, List.length_append]; exact HO.out, HB.out⟩⟩
        case measure => simp [intOf]; omega
      · have hne : (x == n) = false := by simpa using hxn
        have HN : Hid (nearL (es.take (k + 1)) n = nearL (es.take k) n) := hidIn (by rw [take_snoc hz, nearL_snoc_no hxn])
        have HRow := hidIn (row_below hrow ((Below.refl _ wr).alloc (Nat.le_refl _) (.cells #[.int .i64 x, .int .i64 y, .int .i64 c] 47)) (Nat.le_refl _))
        have HB := hidIn (hbel.alloc hbel.size (.cells #[.int .i64 x, .int .i64 y, .int .i64 c] 47))
        clear hrow hbel hcell q0 q1 q2 hz
        go_wp2
        go_roundw
        case rel => exact ⟨k + 1, by omega, by go_num, hidIn ⟨by rw [HN.out]; exact HRow.out, HB.out⟩⟩
        case measure => simp [intOf]; omega
    · have hke : k = es.length := by omega
      rw [hke, List.take_length] at hrow
      have HRow := hidIn hrow
      have HB := hidIn hbel
      have hki : ¬ ((k : Int) < (es.length : Int)) := by omega
      clear hrow hbel
      go_wp2
      go_returns
      exact ⟨⟨_, rfl, HRow.out⟩, HB.out⟩
theorem near_any {ns : List Int} {es : List Ed} {vn ve : Value} {w : World} (h : GrAt w vn ve ns es) (n : Int) :
    Calls Try.prog 6 #[grV vn ve, .int .i64 n] w fun e w' =>
      (((graphOk ns es && hasN ns n) = true ∧ ∃ u, e = .returned (.tuple #[u, .int .i64 0]) ∧ w'.ownsRow w.heap.size 41 2 u (nearL es n).length (fl ac (nearL es n))) ∨ ((graphOk ns es && hasN ns n) = false ∧ e = .returned (.tuple #[.slice none 0 0, .int .i64 2]))) ∧ Below w.heap.size w w' := by
  have HC := hidIn (fun w1 (hb : Below w.heap.size w w1) => check_any (h.keep hb (Nat.le_refl _)))
  have HI := hidIn (fun w1 (hb : Below w.heap.size w w1) => isNode_any (ve := ve) (h.n.keep hb (Nat.le_refl _)) n)
  have HF := hidIn (fun w1 (hb : Below w.heap.size w w1) (h3 : es.length ≤ 384) => from_any (vn := vn) (h.e.keep hb (Nat.le_refl _)) n h3)
  have H3 : Hid (graphOk ns es = true → es.length ≤ 384) := hidIn fun h1 => (graphOk_bd h1).2.2
  clear h
  have hb0 : Below w.heap.size w (w.alloc (.cells #[vn, ve] 25)) := (Below.refl _ w).alloc (Nat.le_refl _) _
  generalize graphOk ns es = b1 at HC H3 ⊢
  go_enter Try.func6, Try.ntmps6
  go_wp2_with fail
  refine (HC.out _ hb0).mono ?_
  rintro e w1 ⟨rfl, hb1⟩
  have hbw := hb0.trans (hb1.mono hb0.size)
  have g0 := cell_later hb1 (cell_of_row _ _ 0 _ _ _ (heap_alloc_last w (.cells #[vn, ve] 25)))
  have g1 := cell_later hb1 (cell_of_row _ _ 1 _ _ _ (heap_alloc_last w (.cells #[vn, ve] 25)))
  have hs1 := hb1.size
  have hlt : w.heap.size < w1.heap.size := by simp at hs1; omega
  simp at g0 g1
  clear hb1
  cases b1
  · simp only [Bool.false_eq_true, if_false]
    go_wp2_with fail
    go_ret2
    exact ⟨.inr ⟨by simp, rfl⟩, hbw⟩
  · have h3 := H3.out rfl
    clear H3 HC
    simp only [if_true]
    go_wp2_with fail
    refine (HI.out _ hbw).mono ?_
    rintro e w2 ⟨rfl, hb2⟩
    have hbw2 := hbw.trans (hb2.mono hbw.size)
    have g0 := (hb2.cell (p := ⟨w.heap.size, 0, none⟩) hlt).trans g0
    have g1 := (hb2.cell (p := ⟨w.heap.size, 1, none⟩) hlt).trans g1
    clear hb2
    obtain ⟨b2, hb2⟩ : ∃ b2, hasN ns n = b2 := ⟨_, rfl⟩
    have Hb2 := hidIn hb2
    rw [hb2]
    clear hb2
    cases b2
    · go_wp2_with fail
      go_ret2
      exact ⟨.inr ⟨by simp [Hb2.out], rfl⟩, hbw2⟩
    · go_wp2_with fail
      refine (HF.out _ hbw2 h3).mono ?_
      rintro e w3 ⟨⟨u, rfl, hu⟩, hb3⟩
      have HU := hidIn (row_low hu hbw2.size)
      have HB := hidIn (hbw2.trans (hb3.mono hbw2.size))
      clear hu hb3
      go_wp2_with fail
      go_ret2
      exact ⟨.inl ⟨by simp [Hb2.out], _, rfl, HU.out⟩, HB.out⟩
end Go.Proofs.Ytpifkhcjogilfab
