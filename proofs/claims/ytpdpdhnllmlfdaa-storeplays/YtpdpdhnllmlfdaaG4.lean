/- from, Near; marks in an array; marked. -/
import Derived.Test.YtpdpdhnllmlfdaaG3
namespace Go.Proofs.Ytpdpdhnllmlfdaa
open Go.RowKit

theorem infoAdj : (Try.prog.info? 75).map (fun i => (i.zero, i.size, i.bytes)) = some (some (.agg #[.int .i64 0, .int .i64 0]), 2, 16) := by kernel_rfl
theorem infoInt : (Try.prog.info? 3).map (fun i => (i.zero, i.size, i.bytes)) = some (some (.int .i64 0), 1, 8) := by kernel_rfl
theorem infoEdge : (Try.prog.info? 79).map (fun i => (i.zero, i.size, i.bytes)) = some (some (.agg #[.int .i64 0, .int .i64 0, .int .i64 0]), 3, 24) := by kernel_rfl
theorem append_adj {W : World} {base k : Nat} {u : Value} {l : List (Int × Int)} (hr : W.ownsRow base 75 2 u k (fl ac l)) (x : (Int × Int)) (hk : (k + 1) * 16 ≤ 140737488355328) (hbase : base ≤ W.heap.size) :
    ∃ g cap w6, (Builtin.append_ #[26, 26] 26 #[u, .slice (some ⟨W.heap.size, 0, none⟩) 1 1]).run Try.prog (W.alloc (.cells (ac x).toArray 75)) = .ok (.slice (some ⟨g, 0, none⟩) (k + 1) cap) w6 ∧
      w6.ownsRow base 75 2 (.slice (some ⟨g, 0, none⟩) (k + 1) cap) (k + 1) (fl ac (l ++ [x])) ∧ (u.ownBlock = some g ∨ g = W.heap.size + 1) ∧ W.grownBy w6 u.ownBlock ∧ Below base W w6 :=
  append_one (P := Try.prog) (cs := ac) (T := 26) (fun _ => rfl) (fun _ => by simp [Value.oneCell']) Try.underlying26 infoAdj rfl (by decide) hr x hk (by unfold maxLen; omega) hbase
theorem append_int {W : World} {base k : Nat} {u : Value} {l : List Int} (hr : W.ownsRow base 3 1 u k (fl ic l)) (x : Int) (hk : (k + 1) * 8 ≤ 140737488355328) (hbase : base ≤ W.heap.size) :
    ∃ g cap w6, (Builtin.append_ #[46, 46] 46 #[u, .slice (some ⟨W.heap.size, 0, none⟩) 1 1]).run Try.prog (W.alloc (.cells (ic x).toArray 3)) = .ok (.slice (some ⟨g, 0, none⟩) (k + 1) cap) w6 ∧
      w6.ownsRow base 3 1 (.slice (some ⟨g, 0, none⟩) (k + 1) cap) (k + 1) (fl ic (l ++ [x])) ∧ (u.ownBlock = some g ∨ g = W.heap.size + 1) ∧ W.grownBy w6 u.ownBlock ∧ Below base W w6 :=
  append_one (P := Try.prog) (cs := ic) (T := 46) (fun _ => rfl) (fun _ => by simp [Value.oneCell']) Try.underlying46 infoInt rfl (by decide) hr x hk (by unfold maxLen; omega) hbase
theorem append_edge {W : World} {base k : Nat} {u : Value} {l : List Ed} (hr : W.ownsRow base 79 3 u k (fl ec l)) (x : Ed) (hk : (k + 1) * 24 ≤ 140737488355328) (hbase : base ≤ W.heap.size) :
    ∃ g cap w6, (Builtin.append_ #[47, 47] 47 #[u, .slice (some ⟨W.heap.size, 0, none⟩) 1 1]).run Try.prog (W.alloc (.cells (ec x).toArray 79)) = .ok (.slice (some ⟨g, 0, none⟩) (k + 1) cap) w6 ∧
      w6.ownsRow base 79 3 (.slice (some ⟨g, 0, none⟩) (k + 1) cap) (k + 1) (fl ec (l ++ [x])) ∧ (u.ownBlock = some g ∨ g = W.heap.size + 1) ∧ W.grownBy w6 u.ownBlock ∧ Below base W w6 :=
  append_one (P := Try.prog) (cs := ec) (T := 47) (fun _ => rfl) (fun _ => by simp [Value.oneCell']) Try.underlying47 infoEdge rfl (by decide) hr x hk (by unfold maxLen; omega) hbase
theorem take_snoc {α : Type} {l : List α} {k : Nat} {x : α} (h : l[k]? = some x) : l.take (k + 1) = l.take k ++ [x] := by rw [List.take_add_one, h]; rfl
theorem nearL_snoc_yes {es : List Ed} {n y c : Int} : nearL (es ++ [(n, y, c)]) n = nearL es n ++ [(y, c)] := by simp [nearL, List.filter_append]
theorem nearL_snoc_no {es : List Ed} {n x y c : Int} (h : x ≠ n) : nearL (es ++ [(x, y, c)]) n = nearL es n := by simp [nearL, List.filter_append, h]
theorem nearL_length (es : List Ed) (n : Int) : (nearL es n).length ≤ es.length := by unfold nearL; rw [List.length_map]; exact List.length_filter_le _ _

set_option maxRecDepth 100000 in
set_option maxHeartbeats 1000000 in
theorem from_any {es : List Ed} {vn ve : Value} {w : World} (he : SlAt ec 3 w ve es) (n : Int) (h384 : es.length ≤ 384) :
    Calls Try.prog 59 #[grV vn ve, .int .i64 n] w fun e w' => (∃ u, e = .returned u ∧ w'.ownsRow w.heap.size 75 2 u (nearL es n).length (fl ac (nearL es n))) ∧ Below w.heap.size w w' := by
  obtain ⟨a, cap, rfl, hl, _, hat⟩ := he.eds
  have Ha := hidIn hat
  clear hat he
  go_enter Try.func59, Try.ntmps59
  go_wp2
  go_loopw [5, 11] (fun u i wr => ∃ (k : Nat), k ≤ es.length ∧ i = .int .i64 k ∧ Hid (wr.ownsRow w.heap.size 75 2 u (nearL (es.take k) n).length (fl ac (nearL (es.take k) n)) ∧ Below w.heap.size w wr)) (fun _ i _ => es.length - (intOf i).toNat)
  case atStart => exact ⟨0, Nat.zero_le _, rfl, hidIn ⟨World.ownsRow_nil _ _ _ _, by go_grown⟩⟩
  case round =>
    obtain ⟨k, hk, rfl, HR⟩ := hrel
    obtain ⟨hrow, hbel⟩ := HR.out
    clear HR
    by_cases hlt : k < es.length
    · obtain ⟨bk, o, rfl, hbk, hcell⟩ := Ha.out (by omega)
      obtain ⟨⟨x, y, c⟩, hz⟩ : ∃ z, es[k]? = some z := ⟨es[k], List.getElem?_eq_getElem hlt⟩
      obtain ⟨q0, q1, q2⟩ := hcell k _ hz
      have c0 := (hbel.cell (p := ⟨bk, o + k * 3, none⟩) hbk).trans q0
      have c1 := (hbel.cell (p := ⟨bk, o + k * 3 + 1, none⟩) hbk).trans q1
      have c2 := (hbel.cell (p := ⟨bk, o + k * 3 + 2, none⟩) hbk).trans q2
      simp only at c0 c1 c2
      have hki : (k : Int) < (es.length : Int) := by omega
      by_cases hxn : x = n
      · subst hxn
        have HN : Hid (nearL (es.take (k + 1)) x = nearL (es.take k) x ++ [(y, c)]) := hidIn (by rw [take_snoc hz, nearL_snoc_yes])
        have hle : (nearL (es.take k) x).length ≤ 384 := by have := nearL_length (es.take k) x; rw [List.length_take] at this; omega
        obtain ⟨g, gcap, w6, hrun, hown, _, hgrow, hb6⟩ := append_adj (row_below hrow ((Below.refl _ wr).alloc (Nat.le_refl _) (.cells #[.int .i64 x, .int .i64 y, .int .i64 c] 79)) (Nat.le_refl _)) (y, c) (by omega) (Nat.le_trans hbel.size (by simp))
        rw [World.size_alloc] at hrun
        have HRun := hidIn hrun
        have HO := hidIn hown
        have HB : Hid (Below w.heap.size w w6) := hidIn ((hbel.alloc hbel.size (.cells #[.int .i64 x, .int .i64 y, .int .i64 c] 79)).trans hb6)
        clear hrun hown hgrow hb6 hrow hbel hcell q0 q1 q2 hz
        generalize nearL (es.take k) x = L at *
        go_wp2_with (refine l_append rfl _ _ 26 rfl HRun.out ?_)
        go_roundw
        case rel => exact ⟨k + 1, by omega, by go_num, hidIn ⟨by rw [HN.out, List.length_append]; exact HO.out, HB.out⟩⟩
        case measure => simp [intOf]; omega
      · have hne : (x == n) = false := by simpa using hxn
        have HN : Hid (nearL (es.take (k + 1)) n = nearL (es.take k) n) := hidIn (by rw [take_snoc hz, nearL_snoc_no hxn])
        have HRow := hidIn (row_below hrow ((Below.refl _ wr).alloc (Nat.le_refl _) (.cells #[.int .i64 x, .int .i64 y, .int .i64 c] 79)) (Nat.le_refl _))
        have HB := hidIn (hbel.alloc hbel.size (.cells #[.int .i64 x, .int .i64 y, .int .i64 c] 79))
        clear hrow hbel hcell q0 q1 q2 hz
        go_wp2
        go_roundw
        case rel => exact ⟨k + 1, by omega, by go_num, hidIn ⟨by rw [HN.out]; exact HRow.out, HB.out⟩⟩
        case measure => simp [intOf]; omega
    · have hke : k = es.length := by omega
      rw [hke, List.take_length] at hrow
      have HRow := hidIn hrow
      have HB := hidIn hbel
      have hki : ¬ ((k : Int) < (es.length : Int)) := by omega
      clear hrow hbel
      go_wp2
      go_returns
      exact ⟨⟨_, rfl, HRow.out⟩, HB.out⟩
end Go.Proofs.Ytpdpdhnllmlfdaa
