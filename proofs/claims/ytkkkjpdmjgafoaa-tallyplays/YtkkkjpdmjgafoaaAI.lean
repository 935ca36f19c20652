/- The document's list of counts: New, Add, Clear, All. -/
import Derived.Test.YtkkkjpdmjgafoaaAH
namespace Go.Proofs.Ytkkkjpdmjgafoaa
open Go.RowKit

/-- A list of counts in memory. -/
def OwAt (w : World) (v : Value) (T : Nat → Cn) : Prop := ∃ g cap cur, v = .slice (some ⟨g, 0, none⟩) 25 cap ∧ 25 ≤ cap ∧ cap ≤ 9223372036854775807 ∧ w.heap[g]? = some (.cells cur 37) ∧ cur.toList.take 150 = tcl T
theorem ow_cell {w : World} {g : Nat} {cur : Array Value} {T : Nat → Cn} (h : w.heap[g]? = some (.cells cur 37)) (hT : cur.toList.take 150 = tcl T) {r k : Nat} (hr : r < 25) (hk : k < 6) : w.cell? ⟨g, r * 6 + k, none⟩ = some (.int .u64 (T r k)) := by
  rw [cell_of_row w g (r * 6 + k) _ _ _ h]
  have h1 := tcl_at T hr hk
  rw [← hT, List.getElem?_take, if_pos (by omega)] at h1
  rw [← h1, Array.getElem?_toList]
theorem OwAt.keep {w w' : World} {v : Value} {T : Nat → Cn} (h : OwAt w v T) (k : Below w.heap.size w w') : OwAt w' v T := by
  obtain ⟨g, cap, cur, rfl, h1, h2, h3, h4⟩ := h
  exact ⟨g, cap, cur, rfl, h1, h2, (k.block g (block_lt h3)).trans h3, h4⟩
theorem OwAt.fr {w w' : World} {v : Value} {T : Nat → Cn} {q : Nat} (h : OwAt w v T) (k : Fr (fun j => j = q) w w') {cs : Array Value} {t : TypeId} (hq : w.heap[q]? = some (.cells cs t)) (ht : t ≠ 37) : OwAt w' v T := by
  obtain ⟨g, cap, cur, rfl, h1, h2, h3, h4⟩ := h
  refine ⟨g, cap, cur, rfl, h1, h2, (k.block g (block_lt h3) (fun e => ?_)).trans h3, h4⟩
  subst e
  rw [h3] at hq
  simp only [Option.some.injEq, Obj.cells.injEq] at hq
  exact ht hq.2.1.symm
theorem fl_tcl (T : Nat → Cn) : fl cL ((List.range 25).map T) = tcl T := by kernel_rfl
theorem OwAt.slAt {w : World} {g cap : Nat} {cur : Array Value} {T : Nat → Cn} (h1 : 25 ≤ cap) (h : w.heap[g]? = some (.cells cur 37)) (hT : cur.toList.take 150 = tcl T) : SlAt cL 6 w (.slice (some ⟨g, 0, none⟩) 25 cap) ((List.range 25).map T) := by
  refine ⟨some ⟨g, 0, none⟩, cap, by simp, by simp, by simp; exact h1, fun _ => ⟨g, 0, rfl, block_lt h, fun j x hx k u hu => ?_⟩⟩
  rw [List.getElem?_map] at hx
  by_cases hj : j < 25
  · rw [List.getElem?_range hj] at hx
    simp only [Option.map_some, Option.some.injEq] at hx
    subst hx
    have hk : k < 6 := by
      by_cases hk : k < 6
      · exact hk
      · rw [List.getElem?_eq_none (by simp; omega)] at hu; cases hu
    rw [Nat.zero_add, ow_cell h hT hj hk]
    match k, hk with
    | 0, _ => exact hu
    | 1, _ => exact hu
    | 2, _ => exact hu
    | 3, _ => exact hu
    | 4, _ => exact hu
    | 5, _ => exact hu
  · rw [List.getElem?_eq_none (by simp; omega)] at hx; cases hx
def setR (w : World) (b r : Nat) (c : Cn) : World :=
  (((((w.setCell ⟨b, r * 6, none⟩ (.int .u64 (c 0))).setCell ⟨b, r * 6 + 1, none⟩ (.int .u64 (c 1))).setCell ⟨b, r * 6 + 2, none⟩ (.int .u64 (c 2))).setCell ⟨b, r * 6 + 3, none⟩ (.int .u64 (c 3))).setCell ⟨b, r * 6 + 4, none⟩ (.int .u64 (c 4))).setCell ⟨b, r * 6 + 5, none⟩ (.int .u64 (c 5))
theorem fr_setR (w : World) (b r : Nat) (c : Cn) : Fr (fun j => j = b) w (setR w b r c) :=
  (((((fr_one w b _ _).trans (fr_one _ b _ _)).trans (fr_one _ b _ _)).trans (fr_one _ b _ _)).trans (fr_one _ b _ _)).trans (fr_one _ b _ _)
theorem tcl_put6 (T : Nat → Cn) {r : Nat} (hr : r < 25) (c : Cn) : ((((((tcl T).set (r * 6) (.int .u64 (c 0))).set (r * 6 + 1) (.int .u64 (c 1))).set (r * 6 + 2) (.int .u64 (c 2))).set (r * 6 + 3) (.int .u64 (c 3))).set (r * 6 + 4) (.int .u64 (c 4))).set (r * 6 + 5) (.int .u64 (c 5)) = tcl (putC T r c) := by
  have h := tcl_put T hr c
  rw [show 1 + r * 6 = r * 6 + 1 from by omega] at h
  unfold tlV at h
  rw [List.set_cons_succ, show r * 6 + 1 + 1 = (r * 6 + 1) + 1 from rfl, List.set_cons_succ, show r * 6 + 1 + 2 = (r * 6 + 2) + 1 from rfl, List.set_cons_succ, show r * 6 + 1 + 3 = (r * 6 + 3) + 1 from rfl, List.set_cons_succ, show r * 6 + 1 + 4 = (r * 6 + 4) + 1 from rfl, List.set_cons_succ, show r * 6 + 1 + 5 = (r * 6 + 5) + 1 from rfl, List.set_cons_succ] at h
  exact (List.cons.inj h).2
theorem ow_set {w : World} {g cap : Nat} {cur : Array Value} {T : Nat → Cn} (h1 : 25 ≤ cap) (h2 : cap ≤ 9223372036854775807) (h : w.heap[g]? = some (.cells cur 37)) (hT : cur.toList.take 150 = tcl T) {r : Nat} (hr : r < 25) (c : Cn) : OwAt (setR w g r c) (.slice (some ⟨g, 0, none⟩) 25 cap) (putC T r c) := by
  have e0 := heap_setCell_same w g (r * 6) _ _ (.int .u64 (c 0)) h
  have e1 := heap_setCell_same _ g (r * 6 + 1) _ _ (.int .u64 (c 1)) e0
  have e2 := heap_setCell_same _ g (r * 6 + 2) _ _ (.int .u64 (c 2)) e1
  have e3 := heap_setCell_same _ g (r * 6 + 3) _ _ (.int .u64 (c 3)) e2
  have e4 := heap_setCell_same _ g (r * 6 + 4) _ _ (.int .u64 (c 4)) e3
  have e5 := heap_setCell_same _ g (r * 6 + 5) _ _ (.int .u64 (c 5)) e4
  refine ⟨g, cap, _, rfl, h1, h2, e5, ?_⟩
  simp only [Array.toList_setIfInBounds, List.take_set]
  rw [hT]
  exact tcl_put6 T hr c
theorem OwAt.lt {w : World} {v : Value} {T : Nat → Cn} (h : OwAt w v T) : ∃ g cap, v = .slice (some ⟨g, 0, none⟩) 25 cap ∧ g < w.heap.size := by
  obtain ⟨g, cap, cur, rfl, _, _, h3, _⟩ := h
  exact ⟨g, cap, rfl, block_lt h3⟩
/-- Appended to nothing. -/
theorem ow_append {w : World} {v : Value} {T : Nat → Cn} (h : OwAt w v T) : ∃ g cap cur w6, (Builtin.append_ #[25, 25] 25 #[.slice none 0 0, v]).run Try.prog w = .ok (.slice (some ⟨g, 0, none⟩) 25 cap) w6 ∧ w.heap.size ≤ g ∧ 25 ≤ cap ∧ cap ≤ 9223372036854775807 ∧ w6.heap[g]? = some (.cells cur 37) ∧ cur.toList.take 150 = tcl T ∧ Below w.heap.size w w6 := by
  obtain ⟨g, cap, cur, rfl, h1, h2, h3, h4⟩ := h
  obtain ⟨v', w6, hrun, hrow, hb, _⟩ := append_all (P := Try.prog) (cs := cL) (T := 25) (fun _ => rfl) (fun _ => by simp [Value.oneCell']) Try.underlying25 infoC3 rfl (by decide) (W := w) (base := w.heap.size) (k := 0) (u := .slice none 0 0) (l := []) (World.ownsRow_nil _ _ _ _) (OwAt.slAt h1 h3 h4) (by simp) (by simp [maxLen]) (Nat.le_refl _) (.inl ⟨_, _, _, rfl⟩)
  rw [List.nil_append, fl_tcl, Nat.zero_add, show ((List.range 25).map T).length = 25 from by simp] at hrow
  rcases hrow.2 with ⟨_, h⟩ | ⟨g', cap', cur', rfl, hg, hh, hc1, hc2, _, ht⟩
  · omega
  · exact ⟨g', cap', cur', w6, hrun, hg, hc1, by unfold maxLen at hc2; omega, hh, ht, hb⟩
theorem make_own (w : World) : (Instr.makeSlice 25 (.int .i64 25) (.int .i64 25)).run Try.prog w = .ok (.slice (some ⟨w.heap.size, 0, none⟩) 25 25) (w.alloc (.cells (tcl noT).toArray 37)) := by kernel_rfl
theorem down_any (w : World) : Calls Try.prog 8 #[] w fun e w' => (∃ v, e = .returned v ∧ OwAt w' v noT) ∧ Below w.heap.size w w' := by
  have hm := make_own w
  have HO : Hid (OwAt (w.alloc (.cells (tcl noT).toArray 37)) (.slice (some ⟨w.heap.size, 0, none⟩) 25 25) noT) := hidIn ⟨_, _, _, rfl, Nat.le_refl _, by omega, heap_alloc_last w _, by rw [List.take_of_length_le (by simp [tcl_len])]⟩
  have HB : Hid (Below w.heap.size w (w.alloc (.cells (tcl noT).toArray 37))) := hidIn ((Below.refl _ w).alloc (Nat.le_refl _) _)
  generalize (w.alloc (.cells (tcl noT).toArray 37)) = W1 at hm HO HB
  go_enter Try.func8, Try.ntmps8
  go_wp2_with fail
  go_ret
  exact ⟨⟨_, rfl, HO.out⟩, HB.out⟩
end Go.Proofs.Ytkkkjpdmjgafoaa
