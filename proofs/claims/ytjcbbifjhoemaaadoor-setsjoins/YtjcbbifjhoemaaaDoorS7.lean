/- dandelionlaw04.works. -/
import Derived.Test.YtjcbbifjhoemaaaDoorS6
import Derived.Deep.AppendLies
import Derived.Laws.OwnMore
namespace Go.Proofs.YtjcbbifjhoemaaaDoor
open Go.RowKit

theorem exSets : setsOf (srt 8 [9, 1, 3, 1]) = [0, 1] := by kernel_rfl
theorem exCells : pcls (srt 8 [9, 1, 3, 1]) [0, 1] = [.int .i64 0, .int .u64 5, .int .u64 0, .int .u64 0, .int .u64 0, .int .i64 1, .int .u64 1, .int .u64 0, .int .u64 0, .int .u64 0] := by kernel_rfl
theorem exIds : allIds [9, 1, 3, 1] := by intro z hz; simp at hz; omega
theorem exEq0 (w : World) : (Op.equalIn 10000 37 (.agg #[.int .i64 0, .int .u64 5, .int .u64 0, .int .u64 0, .int .u64 0]) (.agg #[.int .i64 0, .int .u64 5, .int .u64 0, .int .u64 0, .int .u64 0])).run Tryd.prog w = .ok true w := by kernel_rfl
theorem exEq1 (w : World) : (Op.equalIn 10000 37 (.agg #[.int .i64 1, .int .u64 1, .int .u64 0, .int .u64 0, .int .u64 0]) (.agg #[.int .i64 1, .int .u64 1, .int .u64 0, .int .u64 0, .int .u64 0])).run Tryd.prog w = .ok true w := by kernel_rfl
/-- The block of the example's ids. -/
abbrev exOb : Obj := .cells #[.int .i64 9, .int .i64 1, .int .i64 3, .int .i64 1] 3
theorem exAt (w : World) : IdsAt (w.alloc exOb) (.slice (some ⟨w.heap.size, 0, none⟩) 4 4) [9, 1, 3, 1] := by
  refine .inr ⟨w.heap.size, 0, 4, rfl, by simp, by simp, fun j hj => ?_⟩
  rw [Nat.zero_add, cell_of_row _ _ j _ _ _ (heap_alloc_last w exOb)]
  have hj' : j < 4 := hj
  match j, hj' with
  | 0, _ => rfl
  | 1, _ => rfl
  | 2, _ => rfl
  | 3, _ => rfl
theorem exSplit (w : World) (ht : Wid w) : Calls Tryd.prog 5 #[.slice (some ⟨w.heap.size, 0, none⟩) 4 4, .int .i64 8] (w.alloc exOb) fun e w' =>
    (∃ g cap, e = .returned (.tuple #[.slice (some ⟨g, 0, none⟩) 2 cap, .int .i64 0]) ∧ w'.cell? ⟨g, 0, none⟩ = some (.int .i64 0) ∧ w'.cell? ⟨g, 1, none⟩ = some (.int .u64 5) ∧ w'.cell? ⟨g, 2, none⟩ = some (.int .u64 0) ∧ w'.cell? ⟨g, 3, none⟩ = some (.int .u64 0) ∧ w'.cell? ⟨g, 4, none⟩ = some (.int .u64 0) ∧
      w'.cell? ⟨g, 5, none⟩ = some (.int .i64 1) ∧ w'.cell? ⟨g, 6, none⟩ = some (.int .u64 1) ∧ w'.cell? ⟨g, 7, none⟩ = some (.int .u64 0) ∧ w'.cell? ⟨g, 8, none⟩ = some (.int .u64 0) ∧ w'.cell? ⟨g, 9, none⟩ = some (.int .u64 0)) ∧ Below w.heap.size w w' := by
  have b1 : Below w.heap.size w (w.alloc exOb) := (Below.refl _ w).alloc (Nat.le_refl _) _
  refine (split_right (W := 8) (.inl rfl) exIds (exAt w) (ht.keep b1)).mono ?_
  rw [exSets, exCells]
  rintro e w' ⟨⟨_, pv, rfl, hr⟩ | ⟨h, _⟩, hb⟩
  · obtain ⟨g, cap, rfl, hg1, hg2⟩ := hr.form (by decide)
    have hc := fun j hj => hr.cellAt j hj
    exact ⟨⟨g, cap, rfl, hc 0 (by decide), hc 1 (by decide), hc 2 (by decide), hc 3 (by decide), hc 4 (by decide), hc 5 (by decide), hc 6 (by decide), hc 7 (by decide), hc 8 (by decide), hc 9 (by decide)⟩, b1.trans (hb.mono (by simp))⟩
  · exact absurd h (by decide)

set_option maxHeartbeats 1000000 in
theorem works_any (w : World) (ht : Wid w) : Calls Tryd.prog 8 #[] w fun e w' => e = .returned (.bool true) ∧ Below w.heap.size w w' := by
  have hp := hidIn (place_yes 8 8 (by decide) (.inl rfl) w ht)
  have h0 := exEq0
  have h1 := exEq1
  go_enter Tryd.func8, Tryd.ntmps8
  go_wp2_with (first
    | (go_at_call 19; refine Calls.mono hp.out ?_; rintro e w1 ⟨rfl, hb1⟩)
    | (go_at_call 5; refine (exSplit _ (ht.keep hb1)).mono ?_; rintro e w2 ⟨⟨g, cap, rfl, c0, c1, c2, c3, c4, c5, c6, c7, c8, c9⟩, hb2⟩))
  go_ret
  exact ⟨rfl, hb1.trans (hb2.mono hb1.size)⟩
end Go.Proofs.YtjcbbifjhoemaaaDoor
