/- sets.Split. -/
import Derived.Test.YtjcbbifjhoemaaaDoorS5
import Derived.Maps.AppendAt
namespace Go.Proofs.YtjcbbifjhoemaaaDoor
open Go.RowKit Go.Shelf

attribute [local go_sem] Oper.semAt_some

/-- A part's cells. -/
abbrev pcl (s N : Nat) : List Value := [.int .i64 (s : Int), .int .u64 (wd N 0), .int .u64 (wd N 1), .int .u64 (wd N 2), .int .u64 (wd N 3)]
/-- The cells of parts. -/
def pcls (f : Nat → Nat) (l : List Nat) : List Value := l.flatMap fun s => pcl s (f s)
theorem pcls_snoc (f : Nat → Nat) (l : List Nat) (s : Nat) : pcls f (l ++ [s]) = pcls f l ++ pcl s (f s) := by simp [pcls, List.flatMap_append]
theorem infoPart : (Tryd.prog.info? 37).map (fun i => (i.zero, i.size, i.bytes)) = some (some (.agg #[.int .i64 0, .int .u64 0, .int .u64 0, .int .u64 0, .int .u64 0]), 5, 40) := by kernel_rfl
theorem cell_row_new (w : World) (cs : Array Value) (t : TypeId) : ∀ j u, cs.toList[j]? = some u → (w.alloc (.cells cs t)).cell? ((⟨w.heap.size, 0, none⟩ : Addr).add j) = some u := by
  intro j u h
  rw [Addr.add_mid, Nat.zero_add, cell_of_row _ _ j cs t (0, 0) (heap_alloc_last w _)]
  simpa using h
theorem boxed_below {W W' : World} {B c : Nat} {t : TypeId} {v : Value} (h : Boxed W B t v) (hb : Below c W W') (hc : B < c) : Boxed W' B t v := (hb.block B hc).trans h
theorem row_grows {w4 w6 : World} {base : Nat} {e : TypeId} {size k : Nat} {v : Value} {xs : List Value} {o : Obj} (hr : w4.ownsRow base e size v k xs) (hgrow : (w4.alloc o).grownBy w6 v.ownBlock) (hbase : base ≤ w4.heap.size) : Below base w4 w6 :=
  ((Below.refl _ w4).alloc hbase _).grown hgrow (by simp; omega) (fun j e => by
    rcases hr.2 with ⟨rfl, _⟩ | ⟨g', cap', cur, rfl, hb, _⟩
    · simp [Value.ownBlock] at e
    · simp [Value.ownBlock] at e; omega)
theorem row_shape {w : World} {base : Nat} {e : TypeId} {size k : Nat} {v : Value} {xs : List Value} (hr : w.ownsRow base e size v k xs) : ∃ a cap, v = .slice a k cap := by
  rcases hr.2 with ⟨rfl, rfl⟩ | ⟨g', cap', cur, rfl, _⟩
  · exact ⟨none, 0, rfl⟩
  · exact ⟨_, _, rfl⟩
theorem row_less {w : World} {b b' : Nat} {e : TypeId} {size k : Nat} {v : Value} {xs : List Value} (hr : w.ownsRow b e size v k xs) (h : b' ≤ b) : w.ownsRow b' e size v k xs := by
  refine ⟨hr.1, ?_⟩
  rcases hr.2 with ⟨rfl, rfl⟩ | ⟨g', cap', cur, rfl, hb, hh⟩
  · exact .inl ⟨rfl, rfl⟩
  · exact .inr ⟨g', cap', cur, rfl, by omega, hh⟩
theorem row_below {W W' : World} {base c : Nat} {e : TypeId} {size k : Nat} {v : Value} {xs : List Value} (h : W.ownsRow base e size v k xs) (hb : Below c W W') (hc : W.heap.size ≤ c) : W'.ownsRow base e size v k xs :=
  h.kept (row := none) ⟨hb.os, hb.tape, hb.output, hb.size, fun k hk _ => hb.block k (by omega)⟩ (by cases v.ownBlock <;> simp)

set_option maxRecDepth 100000 in
set_option maxHeartbeats 1000000 in
theorem split_wrong {zs : List Int} {v : Value} {W : Nat} (h : ¬ IsW W ∨ ¬ allIds zs) {w : World} (hv : IdsAt w v zs) (ht : Wid w) :
    Calls Tryd.prog 5 #[v, .int .i64 W] w fun e w' => e = .returned (.tuple #[.slice none 0 0, .int .i64 2]) ∧ Below w.heap.size w w' := by
  have b0 : Below w.heap.size w ((w.alloc (.cells #[.slice none 0 0] 23)).alloc (.cells #[.int .i64 0] 24)) := ((Below.refl _ w).alloc (Nat.le_refl _) _).alloc (by simp) _
  have hs : Hid (Calls Tryd.prog 13 #[v, .int .i64 W] ((w.alloc (.cells #[.slice none 0 0] 23)).alloc (.cells #[.int .i64 0] 24)) fun e w' => e = .returned (srtV none0 2) ∧ Below (w.heap.size + 2) ((w.alloc (.cells #[.slice none 0 0] 23)).alloc (.cells #[.int .i64 0] 24)) w') := hidIn (by
    by_cases hW : IsW W
    · have := sorted_no hW (by rcases h with h | h; exact absurd hW h; exact h) (hv.keep b0) (ht.keep b0)
      simpa using this
    · have := sorted_bad v W hW _ (ht.keep b0)
      simpa using this)
  have hz := zero_by
  have x4 := (Boxed.new w 23 (.slice none 0 0)).alloc (.cells #[.int .i64 0] 24)
  have x5 := Boxed.new (w.alloc (.cells #[.slice none 0 0] 23)) 24 (.int .i64 0)
  rw [World.size_alloc] at x5
  refine (callsIn_wide (n := 5)).1 ?_
  refine callsIn_of_wp_marks Tryd.func5 rfl trivial ?_ rfl
  simp only [Tryd.ntmps5, List.size_toArray, List.length_cons, List.length_nil, Nat.reduceAdd, Nat.reduceSub, Array.replicate_succ, Array.replicate_zero, List.push_toArray, List.append_toArray, List.nil_append, List.cons_append]
  gi_wp2_with (first
    | (refine ⟨trivial, ?_⟩; gi_at_call 13; refine (callsIn_wide.2 hs.out).mono ?_; rintro e w1 ⟨rfl, hb1⟩; have y4 := (boxed_below x4 hb1 (by omega)).alloc (.cells (cl none0).toArray 44); have y5 := (boxed_below x5 hb1 (by omega)).alloc (.cells (cl none0).toArray 44); have c4 := y4.cell; have f4 := y4.frozen; have c5 := y5.cell; have f5 := y5.frozen)
    | (refine lIn_store rfl 44 _ _ rfl (store_new _ _ _) ?_))
  have z4 := (y4.set (.slice none 0 0)).other (show w.heap.size ≠ w.heap.size + 1 by omega) (.int .i64 2)
  have z5 := (y5.other (show w.heap.size + 1 ≠ w.heap.size by omega) (.slice none 0 0)).set (.int .i64 2)
  have d4 := z4.cell
  have d5 := z5.cell
  have hs1 := hb1.size
  refine ⟨_, by simp [results, Tryd.results5, go_sem, d4, d5], rfl, ?_⟩
  refine Below.setCell (Below.setCell ((b0.trans (hb1.mono (by omega))).alloc ?_ _) (p := ⟨w.heap.size, 0, none⟩) (Nat.le_refl _) _) (p := ⟨w.heap.size + 1, 0, none⟩) (Nat.le_succ _) _
  simp at hs1
  omega

set_option maxRecDepth 100000 in
set_option maxHeartbeats 2000000 in
theorem split_right {zs : List Int} {v : Value} {W : Nat} (hW : IsW W) (hall : allIds zs) {w : World} (hv : IdsAt w v zs) (ht : Wid w) :
    Calls Tryd.prog 5 #[v, .int .i64 W] w fun e w' =>
      (((setsOf (srt W zs)).length ≤ 4 ∧ ∃ pv, e = .returned (.tuple #[pv, .int .i64 0]) ∧ w'.ownsRow w.heap.size 37 5 pv (setsOf (srt W zs)).length (pcls (srt W zs) (setsOf (srt W zs)))) ∨
        (4 < (setsOf (srt W zs)).length ∧ e = .returned (.tuple #[.slice none 0 0, .int .i64 10]))) ∧ Below w.heap.size w w' := by
  have b0 : Below w.heap.size w ((w.alloc (.cells #[.slice none 0 0] 23)).alloc (.cells #[.int .i64 0] 24)) := ((Below.refl _ w).alloc (Nat.le_refl _) _).alloc (by simp) _
  have hs : Hid (Calls Tryd.prog 13 #[v, .int .i64 W] ((w.alloc (.cells #[.slice none 0 0] 23)).alloc (.cells #[.int .i64 0] 24)) fun e w' => e = .returned (srtV (srt W zs) 0) ∧ Below (w.heap.size + 2) ((w.alloc (.cells #[.slice none 0 0] 23)).alloc (.cells #[.int .i64 0] 24)) w') := hidIn (by
    have := sorted_yes hW hall (hv.keep b0) (ht.keep b0)
    simpa using this)
  have hlt := hidIn (srt_lt hW zs)
  generalize srt W zs = f at hs hlt
  have hz := zero_by
  obtain ⟨i0, hi, hz0, hz1, hz2⟩ := info_parts infoPart
  have x4 := (Boxed.new w 23 (.slice none 0 0)).alloc (.cells #[.int .i64 0] 24)
  have x5 := Boxed.new (w.alloc (.cells #[.slice none 0 0] 23)) 24 (.int .i64 0)
  rw [World.size_alloc] at x5
  refine (callsIn_wide (n := 5)).1 ?_
  refine callsIn_of_wp_marks Tryd.func5 rfl trivial ?_ rfl
  simp only [Tryd.ntmps5, List.size_toArray, List.length_cons, List.length_nil, Nat.reduceAdd, Nat.reduceSub, Array.replicate_succ, Array.replicate_zero, List.push_toArray, List.append_toArray, List.nil_append, List.cons_append]
  gi_wp2_with (first
    | (refine ⟨trivial, ?_⟩; gi_at_call 13; refine (callsIn_wide.2 hs.out).mono ?_; rintro e w1 ⟨rfl, hb1⟩; have hA1 := (hasAll_new w1 f).keep ((Below.refl _ _).alloc (Nat.le_refl _) (.cells #[.slice none 0 0] 23)) (by simp))
    | (refine lIn_store rfl 44 _ _ rfl (store_new _ _ _) ?_)
    | (refine lIn_load rfl 44 _ rfl _ (loadAt_all hA1) ?_)
    | (refine ⟨trivial, ?_⟩; gi_at_call 14; refine (callsIn_wide.2 (parts_any f _)).mono ?_; rintro e w2 ⟨rfl, rfl⟩))
  have hs1 := hb1.size
  simp only [World.size_alloc] at hs1
  have hb2 : Below (w.heap.size + 2) w1 (((w1.alloc (.cells (cl f).toArray 44)).alloc (.cells #[.slice none 0 0] 23)).alloc (.cells (cl f).toArray 44)) := (((Below.refl _ w1).alloc (Nat.le_refl _) _).alloc (by simp) _).alloc (by simp; omega) _ |>.mono (by omega)
  have x4' := boxed_below (boxed_below x4 hb1 (by omega)) hb2 (by omega)
  have x5' := boxed_below (boxed_below x5 hb1 (by omega)) hb2 (by omega)
  have hb3 := b0.trans ((hb1.trans hb2).mono (by omega))
  have hA2 := hasAll_new ((w1.alloc (.cells (cl f).toArray 44)).alloc (.cells #[.slice none 0 0] 23)) f
  have bX := (Boxed.new (w1.alloc (.cells (cl f).toArray 44)) 23 (.slice none 0 0)).alloc (.cells (cl f).toArray 44)
  have sV : (((w1.alloc (.cells (cl f).toArray 44)).alloc (.cells #[.slice none 0 0] 23)).alloc (.cells (cl f).toArray 44)).heap.size = w1.heap.size + 3 := by simp
  simp only [World.size_alloc] at hA2 bX
  clear hb2 x4 x5 hA1 hv ht
  generalize ((w1.alloc _).alloc _).alloc _ = V at hb3 hA2 bX sV x4' x5' ⊢
  refine wpIn_eachX (T := fun _ => True) rfl (by omega) (gf := 28) (lb := #[.pointer (some ⟨w1.heap.size + 1 + 1, 0, none⟩)]) rfl trivial (enters_of Tryd.func28 (by kernel_rfl) rfl) (parts_gives f hlt.out (w1.heap.size + 1 + 1) 4 (by omega) V hA2) (fun _ => rfl)
    (fun pre W => ((∃ v, Boxed W (w1.heap.size + 1) 23 v ∧ W.ownsRow (w1.heap.size + 6) 37 5 v pre.length (pcls f pre)) ∧ Boxed W w.heap.size 23 (.slice none 0 0) ∧ Boxed W (w.heap.size + 1) 24 (.int .i64 0)) ∧ Below w.heap.size w W ∧ pre.length ≤ 4)
    (fun c pre W => c = .ret ∧ (Boxed W w.heap.size 23 (.slice none 0 0) ∧ Boxed W (w.heap.size + 1) 24 (.int .i64 10)) ∧ Below w.heap.size w W ∧ 4 < pre.length) (fun _ _ _ => trivial) ?own ?ownx ⟨⟨⟨_, bX, World.ownsRow_nil _ _ _ _⟩, x4', x5'⟩, hb3, by simp⟩
    (fun x a' A => ∃ Bx, w1.heap.size + 5 < Bx ∧ Bx < A.heap.size ∧ A.heap[Bx]? = some (.cells (pcl x (f x)).toArray 37) ∧ a' = { tmps := #[v, .int .i64 W, undef, undef, .pointer (some ⟨w.heap.size, 0, none⟩), .pointer (some ⟨w.heap.size + 1, 0, none⟩), .pointer (some ⟨w1.heap.size, 0, none⟩), .int .i64 0, .pointer (some ⟨w1.heap.size + 1, 0, none⟩), .pointer (some ⟨Bx, 0, none⟩), srtV f 0, v, .int .i64 W, srtV f 0, .agg (cl f).toArray, .int .i64 0, .int .i64 0, .bool false, undef, .agg (cl f).toArray, .func (.func 28) #[] #[.pointer (some ⟨w1.heap.size + 1 + 1, 0, none⟩)], partV x (f x), undef, undef, undef, undef, undef, undef, undef, undef], defers := [] }) ?ax ?assign ?body ?done ?stop
  case own =>
    rintro s A A' q ⟨⟨⟨u, hx, hr⟩, h4, h5⟩, hb, hl⟩ hg h1 h2
    rw [sV] at h1 h2
    refine ⟨⟨⟨u, hx.kept hg (by simp; omega), hr.kept hg ?_⟩, h4.kept hg (by simp; omega), h5.kept hg (by simp; omega)⟩, hb.grown hg hb.size (fun k e => by cases e; omega), hl⟩
    rcases hr.2 with ⟨rfl, _⟩ | ⟨g, cap, cur, rfl, hbase, _⟩
    · exact .inl rfl
    · right; simp [Value.ownBlock]; omega
  case ownx =>
    rintro c s A A' q ⟨hc, ⟨h4, h5⟩, hb, hl⟩ hg h1 h2
    rw [sV] at h1 h2
    exact ⟨hc, ⟨h4.kept hg (by simp; omega), h5.kept hg (by simp; omega)⟩, hb.grown hg hb.size (fun k e => by cases e; omega), hl⟩
  case ax =>
    rintro x a' A A' q ⟨Bx, h1, h2, h3, h4⟩ hg h5 h6
    rw [sV] at h5 h6
    exact ⟨Bx, h1, Nat.lt_of_lt_of_le h2 hg.size, (hg.block Bx h2 (by simp; omega)).trans h3, h4⟩
  case assign =>
    rintro l pre x W' K ⟨⟨⟨u, hx, hr⟩, h4, h5⟩, hb, hl⟩ hpre hsz hK
    rw [sV] at hsz hK
    have hbs := hb.size
    gi_wp2
    refine hK _ _ (Keep3.of_below ((Below.refl _ W').alloc (Nat.le_refl _) _) hsz) ⟨⟨⟨u, hx.alloc _, hr.alloc _⟩, h4.alloc _, h5.alloc _⟩, hb.alloc hbs _, hl⟩ ⟨W'.heap.size, hsz, by simp, heap_alloc_last W' _, rfl⟩
  case body =>
    rintro l pre x a' W' ⟨⟨⟨u, hx, hr⟩, h4, h5⟩, hb, hl⟩ ⟨Bx, hB1, hB2, hB3, rfl⟩ hpre hsz
    rw [sV] at hsz ⊢
    obtain ⟨ua, ucap, rfl⟩ := row_shape hr
    have hbs := hb.size
    have hc := hx.cell
    have c4 := h4.cell
    have f4 := h4.frozen
    have c5 := h5.cell
    have f5 := h5.frozen
    have p0 := cell_of_row W' Bx 0 _ _ _ hB3
    have p1 := cell_of_row W' Bx 1 _ _ _ hB3
    have p2 := cell_of_row W' Bx 2 _ _ _ hB3
    have p3 := cell_of_row W' Bx 3 _ _ _ hB3
    have p4 := cell_of_row W' Bx 4 _ _ _ hB3
    by_cases h44 : pre.length = 4
    · have h44' : (pre.length : Int) = 4 := by omega
      gi_wp2
      refine ⟨(Keep3.set _ _ _ (by omega)).trans (Keep3.set _ _ _ (by omega)), rfl, ⟨(h4.set _).other (by omega) _, (h5.other (by omega) _).set _⟩, Below.setCell (hb.setCell (p := ⟨w.heap.size, 0, none⟩) (Nat.le_refl _) _) (p := ⟨w.heap.size + 1, 0, none⟩) (Nat.le_succ _) _, by simp; omega⟩
    · have h44' : ¬ (pre.length : Int) = 4 := by omega
      have hl3 : pre.length ≤ 3 := by omega
      gi_wp2_with (refine wpListIn_append_own _ rfl _ _ 23 rfl (w1.heap.size + 6) 37 i0 _ 5 40 Tryd.underlying23 hi hz0 hz1 hz2 rfl (by decide) _ _ _ rfl (hr.alloc _) ⟨W'.heap.size, 0, none⟩ 1 1 (pcl x (f x)) rfl rfl (cell_row_new _ _ _) (by simp [Value.oneCell']) (by unfold maxLen; omega) (by omega) (by simp; omega) ?_; intro v2 w6 hown hgrow _; obtain ⟨g', cap', rfl⟩ := ownsRow_succ hown; have hb6 := row_grows hr hgrow (by omega); have hx6 := boxed_below hx hb6 (by omega); have hc6 := hx6.cell; have hf6 := hx6.frozen)
      have y4 := boxed_below h4 hb6 (by omega)
      have y5 := boxed_below h5 hb6 (by omega)
      refine ⟨(Keep3.of_below hb6 (by omega)).trans (Keep3.set _ _ _ (by omega)), ⟨⟨_, hx6.set _, ?_⟩, y4.other (by omega) _, y5.other (by omega) _⟩, Below.setCell (hb.trans (hb6.mono (by omega))) (p := ⟨w1.heap.size + 1, 0, none⟩) (by show w.heap.size ≤ w1.heap.size + 1; omega) _, by simp; omega⟩
      have := ownsRow_setCell_below hown (a := ⟨w1.heap.size + 1, 0, none⟩) (show w1.heap.size + 1 < w1.heap.size + 6 by omega) (.slice (some ⟨g', 0, none⟩) (pre.length + 1) cap')
      rw [pcls_snoc, List.length_append, List.length_singleton]
      exact this
  case done =>
    rintro D W' hD ⟨⟨⟨u, hx, hr⟩, h4, h5⟩, hb, hl⟩ hK
    have hc := hx.cell
    have c4 := h4.cell
    have f4 := h4.frozen
    have c5 := h5.cell
    have f5 := h5.frozen
    have hbs := hb.size
    rw [sV] at hD
    clear hA2 bX
    obtain ⟨ua, ucap, rfl⟩ := row_shape hr
    gi_wp2
    have hK2 := (KeepsOthers.setCell (W'.setCell ⟨w.heap.size, 0, none⟩ (.slice ua (setsOf f).length ucap)) ⟨w.heap.size + 1, 0, none⟩ (.int .i64 0)).same D _ ((KeepsOthers.setCell W' ⟨w.heap.size, 0, none⟩ (.slice ua (setsOf f).length ucap)).same D _ hK rfl) rfl
    refine ⟨by simp, .inl ⟨_, _, rfl, run_takeDeferred hK2, ?_⟩⟩
    have z4 := ((h4.set (.slice ua (setsOf f).length ucap)).other (show w.heap.size ≠ w.heap.size + 1 by omega) (.int .i64 0)).kept (grownBy_putObj' _ D (.deferred none)) (by simp; omega)
    have z5 := ((h5.other (show w.heap.size + 1 ≠ w.heap.size by omega) (.slice ua (setsOf f).length ucap)).set (.int .i64 0)).kept (grownBy_putObj' _ D (.deferred none)) (by simp; omega)
    have d4 := z4.cell
    have d5 := z5.cell
    refine ⟨.tuple #[.slice ua (setsOf f).length ucap, .int .i64 0], by simp [results, Tryd.results5, go_sem, d4, d5], .inl ⟨hl, _, rfl, ?_⟩, ?_⟩
    · have r1 := ownsRow_setCell_below hr (a := ⟨w.heap.size, 0, none⟩) (show w.heap.size < w1.heap.size + 6 by omega) (.slice ua (setsOf f).length ucap)
      have r2 := ownsRow_setCell_below r1 (a := ⟨w.heap.size + 1, 0, none⟩) (show w.heap.size + 1 < w1.heap.size + 6 by omega) (.int .i64 0)
      exact row_less (ownsRow_putObj r2 _ hK2 rfl) (by omega)
    · exact (Below.setCell (hb.setCell (p := ⟨w.heap.size, 0, none⟩) (Nat.le_refl _) _) (p := ⟨w.heap.size + 1, 0, none⟩) (Nat.le_succ _) _).trans (belowK_b (w := w) (Nat.le_refl _) _ D _ _ (by omega) hK2 rfl rfl)
  case stop =>
    rintro D c pre W' hD hpre ⟨rfl, ⟨h4, h5⟩, hb, hl⟩ hK
    have hl' : 4 < (setsOf f).length := Nat.lt_of_lt_of_le hl hpre.length_le
    rw [sV] at hD
    gi_wp2
    refine ⟨by simp, .inl ⟨_, _, rfl, run_takeDeferred hK, ?_⟩⟩
    have z4 := h4.kept (grownBy_putObj' W' D (.deferred none)) (by simp; omega)
    have z5 := h5.kept (grownBy_putObj' W' D (.deferred none)) (by simp; omega)
    have d4 := z4.cell
    have d5 := z5.cell
    exact ⟨_, by simp [results, Tryd.results5, go_sem, d4, d5], .inr ⟨hl', rfl⟩, hb.trans (belowK_b (w := w) (Nat.le_refl _) _ D _ _ (by omega) hK rfl rfl)⟩
end Go.Proofs.YtjcbbifjhoemaaaDoor
