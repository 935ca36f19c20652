/- sets.Split and Sets, at what is no width. -/
import Derived.Test.YtjcbbifjhoemaaaDoorSM
namespace Go.Proofs.YtjcbbifjhoemaaaDoor
open Go.RowKit Go.Shelf

attribute [local go_sem] Oper.semAt_some

set_option maxRecDepth 100000 in
set_option maxHeartbeats 1000000 in
theorem split_wide {v : Value} {W : Int} (h : ¬ IsW W) {w : World} (ht : Wid w) :
    Calls Tryd.prog 5 #[v, .int .i64 W] w fun e w' => e = .returned (.tuple #[.slice none 0 0, .int .i64 2]) ∧ Below w.heap.size w w' := by
  have b0 : Below w.heap.size w ((w.alloc (.cells #[.slice none 0 0] 23)).alloc (.cells #[.int .i64 0] 24)) := ((Below.refl _ w).alloc (Nat.le_refl _) _).alloc (by simp) _
  have hs : Hid (Calls Tryd.prog 13 #[v, .int .i64 W] ((w.alloc (.cells #[.slice none 0 0] 23)).alloc (.cells #[.int .i64 0] 24)) fun e w' => e = .returned (srtV none0 2) ∧ Below (w.heap.size + 2) ((w.alloc (.cells #[.slice none 0 0] 23)).alloc (.cells #[.int .i64 0] 24)) w') := hidIn (by
    have := sorted_bad v W h _ (ht.keep b0)
    simpa using this)
  have hz := zero_by
  have x4 := (Boxed.new w 23 (.slice none 0 0)).alloc (.cells #[.int .i64 0] 24)
  have x5 := Boxed.new (w.alloc (.cells #[.slice none 0 0] 23)) 24 (.int .i64 0)
  rw [World.size_alloc] at x5
  refine (callsIn_wide (n := 5)).1 ?_
  refine callsIn_of_wp_marks Tryd.func5 rfl trivial ?_ rfl
  simp only [Tryd.ntmps5, List.size_toArray, List.length_cons, List.length_nil, Nat.reduceAdd, Nat.reduceSub, Array.replicate_succ, Array.replicate_zero, List.push_toArray, List.append_toArray, List.nil_append, List.cons_append]
  gi_wp2_with (first
    | (refine ⟨trivial, ?_⟩; gi_at_call 13; refine (callsIn_wide.2 hs.out).mono ?_; rintro e w1 ⟨rfl, hb1⟩; have y4 := (boxed_below x4 hb1 (by omega)).alloc (.cells (cl none0).toArray 44); have y5 := (boxed_below x5 hb1 (by omega)).alloc (.cells (cl none0).toArray 44); have c4 := y4.cell; have f4 := y4.frozen; have c5 := y5.cell; have f5 := y5.frozen)
    | (refine lIn_store rfl 44 _ _ rfl (store_new _ _ _) ?_))
  have z4 := (y4.set (.slice none 0 0)).other (show w.heap.size ≠ w.heap.size + 1 by omega) (.int .i64 2)
  have z5 := (y5.other (show w.heap.size + 1 ≠ w.heap.size by omega) (.slice none 0 0)).set (.int .i64 2)
  have d4 := z4.cell
  have d5 := z5.cell
  have hs1 := hb1.size
  refine ⟨_, by simp [results, Tryd.results5, go_sem, d4, d5], rfl, ?_⟩
  refine Below.setCell (Below.setCell ((b0.trans (hb1.mono (by omega))).alloc ?_ _) (p := ⟨w.heap.size, 0, none⟩) (Nat.le_refl _) _) (p := ⟨w.heap.size + 1, 0, none⟩) (Nat.le_succ _) _
  simp at hs1
  omega


set_option maxRecDepth 100000 in
set_option maxHeartbeats 1000000 in
theorem sets_wide {v : Value} {W : Int} (h : ¬ IsW W) {w : World} (ht : Wid w) :
    Calls Tryd.prog 7 #[v, .int .i64 W] w fun e w' => e = .returned (.tuple #[.int .i64 0, .int .i64 2]) ∧ Below w.heap.size w w' := by
  have hs : Hid (Calls Tryd.prog 13 #[v, .int .i64 W] w fun e w' => e = .returned (srtV none0 2) ∧ Below w.heap.size w w') := hidIn (sorted_bad v W h w ht)
  have hz := zero_by
  refine (callsIn_wide (n := 5)).1 ?_
  refine callsIn_of_wp_marks Tryd.func7 rfl trivial ?_ rfl
  simp only [Tryd.ntmps7, List.size_toArray, List.length_cons, List.length_nil, Nat.reduceAdd, Nat.reduceSub, Array.replicate_succ, Array.replicate_zero, List.push_toArray, List.append_toArray, List.nil_append, List.cons_append]
  gi_wp2_with (first
    | (refine ⟨trivial, ?_⟩; gi_at_call 13; refine (callsIn_wide.2 hs.out).mono ?_; rintro e w1 ⟨rfl, hb1⟩)
    | (refine lIn_store rfl 44 _ _ rfl (store_new _ _ _) ?_))
  exact ⟨_, by simp [results, Tryd.results7, go_sem], rfl, hb1.trans ((Below.refl _ w1).alloc (Nat.le_refl _) _ |>.mono hb1.size)⟩


end Go.Proofs.YtjcbbifjhoemaaaDoor
