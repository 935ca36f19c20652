/- sets.listed. -/
import Derived.Test.YtjcbbifjhoemaaaDoorSA
namespace Go.Proofs.YtjcbbifjhoemaaaDoor
open Go.RowKit Go.Shelf

attribute [local go_sem] Oper.semAt_some

/-- The ids of sets. -/
def idsL (W : Nat) (f : Nat → Nat) (l : List Nat) : List Value := l.flatMap fun s => (lst (f s)).map (idN W s)
theorem idsL_snoc (W : Nat) (f : Nat → Nat) (l : List Nat) (s : Nat) : idsL W f (l ++ [s]) = idsL W f l ++ (lst (f s)).map (idN W s) := by simp [idsL, List.flatMap_append]
theorem lst_len (N : Nat) : (lst N).length ≤ 256 := by have := cntTo_le 256 N; rw [← lst_length] at this; exact this
theorem idsL_len (W : Nat) (f : Nat → Nat) (l : List Nat) : (idsL W f l).length ≤ 256 * l.length := by
  induction l with
  | nil => simp [idsL]
  | cons s l ih =>
    have h := lst_len (f s)
    unfold idsL at ih ⊢
    rw [List.flatMap_cons, List.length_append, List.length_map, List.length_cons]
    omega
theorem setsOf_len (f : Nat → Nat) : (setsOf f).length ≤ 128 := by unfold setsOf upto; have := List.length_filter_le (fun s => decide (f s ≠ 0)) (List.range 128); simpa using this
/-- All places are ids. -/
def Fits (W : Nat) (f : Nat → Nat) : Prop := ∀ s, s < 128 → ∀ m ∈ lst (f s), m < W ∧ s * W + m + 1 ≤ 1024
theorem mem_upto {f : Nat → Nat} {k s : Nat} : s ∈ upto f k ↔ s < k ∧ f s ≠ 0 := by simp [upto]

set_option maxRecDepth 100000 in
set_option maxHeartbeats 2000000 in
theorem listed_any {f : Nat → Nat} {W : Nat} (hW : IsW W) (hf : ∀ s, f s < 2 ^ 256) (hfit : Fits W f) {w : World} (ht : Tb w) :
    Calls Tryd.prog 24 #[.agg (cl f).toArray, .int .i64 W] w fun e w' =>
      (∃ u, e = .returned (.tuple #[u, .int .i64 0]) ∧ w'.ownsRow w.heap.size 3 1 u (idsL W f (setsOf f)).length (idsL W f (setsOf f))) ∧ Below w.heap.size w w' := by
  have hAa := hasAll_new w f
  have hA1 := hAa.keep (((((Below.refl (w.heap.size + 1) (w.alloc (.cells (cl f).toArray 44))).alloc (by simp) (.cells #[.int .i64 W] 3)).alloc (by simp) (.cells #[.slice none 0 0] 22)).alloc (by simp) (.cells #[.int .i64 0] 24)).alloc (by simp) (.cells #[.slice none 0 0] 22)) (by omega)
  refine (callsIn_wide (n := 5)).1 ?_
  refine callsIn_of_wp_marks Tryd.func24 rfl trivial ?_ rfl
  simp only [Tryd.ntmps24, List.size_toArray, List.length_cons, List.length_nil, Nat.reduceAdd, Nat.reduceSub, Array.replicate_succ, Array.replicate_zero, List.push_toArray, List.append_toArray, List.nil_append, List.cons_append]
  gi_wp2_with (first
    | (refine lIn_load rfl 44 _ rfl _ (loadAt_all hA1) ?_)
    | (refine ⟨trivial, ?_⟩; gi_at_call 14; refine (callsIn_wide.2 (parts_any f _)).mono ?_; rintro e w2 ⟨rfl, rfl⟩))
  have sV : ((((((w.alloc (.cells (cl f).toArray 44)).alloc (.cells #[.int .i64 W] 3)).alloc (.cells #[.slice none 0 0] 22)).alloc (.cells #[.int .i64 0] 24)).alloc (.cells #[.slice none 0 0] 22)).alloc (.cells (cl f).toArray 44)).heap.size = w.heap.size + 6 := by simp
  have bV : Below w.heap.size w ((((((w.alloc (.cells (cl f).toArray 44)).alloc (.cells #[.int .i64 W] 3)).alloc (.cells #[.slice none 0 0] 22)).alloc (.cells #[.int .i64 0] 24)).alloc (.cells #[.slice none 0 0] 22)).alloc (.cells (cl f).toArray 44)) := by go_grown
  have x1 := ((((Boxed.new (w.alloc (.cells (cl f).toArray 44)) 3 (.int .i64 W)).alloc (.cells #[.slice none 0 0] 22)).alloc (.cells #[.int .i64 0] 24)).alloc (.cells #[.slice none 0 0] 22)).alloc (.cells (cl f).toArray 44)
  have x2 := (((Boxed.new ((w.alloc (.cells (cl f).toArray 44)).alloc (.cells #[.int .i64 W] 3)) 22 (.slice none 0 0)).alloc (.cells #[.int .i64 0] 24)).alloc (.cells #[.slice none 0 0] 22)).alloc (.cells (cl f).toArray 44)
  have x3 := ((Boxed.new (((w.alloc (.cells (cl f).toArray 44)).alloc (.cells #[.int .i64 W] 3)).alloc (.cells #[.slice none 0 0] 22)) 24 (.int .i64 0)).alloc (.cells #[.slice none 0 0] 22)).alloc (.cells (cl f).toArray 44)
  have x4 := (Boxed.new ((((w.alloc (.cells (cl f).toArray 44)).alloc (.cells #[.int .i64 W] 3)).alloc (.cells #[.slice none 0 0] 22)).alloc (.cells #[.int .i64 0] 24)) 22 (.slice none 0 0)).alloc (.cells (cl f).toArray 44)
  have x5 := hasAll_new (((((w.alloc (.cells (cl f).toArray 44)).alloc (.cells #[.int .i64 W] 3)).alloc (.cells #[.slice none 0 0] 22)).alloc (.cells #[.int .i64 0] 24)).alloc (.cells #[.slice none 0 0] 22)) f
  simp only [World.size_alloc, Nat.add_assoc, Nat.reduceAdd] at x1 x2 x3 x4 x5 ⊢
  clear hAa hA1
  generalize (((((w.alloc _).alloc _).alloc _).alloc _).alloc _).alloc _ = V at sV bV x1 x2 x3 x4 x5 ⊢
  have hlt := ht.lt
  refine wpIn_eachX (T := fun _ => True) rfl (by omega) (gf := 28) (lb := #[.pointer (some ⟨w.heap.size + 5, 0, none⟩)]) rfl trivial (enters_of Tryd.func28 (by kernel_rfl) rfl) (parts_gives f hf (w.heap.size + 5) 4 (by omega) V x5) (fun _ => rfl)
    (fun pre W' => ((∃ u, Boxed W' (w.heap.size + 4) 22 u ∧ W'.ownsRow (w.heap.size + 9) 3 1 u (idsL W f pre).length (idsL W f pre)) ∧ Boxed W' (w.heap.size + 1) 3 (.int .i64 W) ∧ Boxed W' (w.heap.size + 2) 22 (.slice none 0 0) ∧ Boxed W' (w.heap.size + 3) 24 (.int .i64 0)) ∧ Below w.heap.size w W')
    (fun _ _ _ => False) (fun _ _ _ => trivial) ?own (fun _ _ _ _ _ h _ _ _ => h) ⟨⟨⟨_, x4, World.ownsRow_nil _ _ _ _⟩, x1, x2, x3⟩, bV⟩
    (fun x a' A => ∃ Bx, w.heap.size + 8 < Bx ∧ Bx < A.heap.size ∧ A.heap[Bx]? = some (.cells (pcl x (f x)).toArray 37) ∧ a' = { tmps := #[.agg (cl f).toArray, .int .i64 W, .pointer (some ⟨w.heap.size, 0, none⟩), .pointer (some ⟨w.heap.size + 1, 0, none⟩), .pointer (some ⟨w.heap.size + 2, 0, none⟩), .pointer (some ⟨w.heap.size + 3, 0, none⟩), .pointer (some ⟨w.heap.size + 4, 0, none⟩), .pointer (some ⟨Bx, 0, none⟩), undef, .agg (cl f).toArray, .func (.func 28) #[] #[.pointer (some ⟨w.heap.size + 5, 0, none⟩)], partV x (f x), undef, undef, undef, undef, undef, undef, undef, undef, undef, undef, undef], defers := [] })
    ?ax ?assign ?body ?done (fun _ _ _ _ _ _ h => h.elim)
  case own =>
    rintro s A A' q ⟨⟨⟨u, hx, hr⟩, h1, h2, h3⟩, hb⟩ hg g1 g2
    rw [sV] at g1 g2
    refine ⟨⟨⟨u, hx.kept hg (by simp; omega), hr.kept hg ?_⟩, h1.kept hg (by simp; omega), h2.kept hg (by simp; omega), h3.kept hg (by simp; omega)⟩, hb.grown hg hb.size (fun k e => by cases e; omega)⟩
    rcases hr.2 with ⟨rfl, _⟩ | ⟨g, cap, cur, rfl, hbase, _⟩
    · exact .inl rfl
    · right; simp [Value.ownBlock]; omega
  case ax =>
    rintro x a' A A' q ⟨Bx, h1, h2, h3, h4⟩ hg h5 h6
    rw [sV] at h5 h6
    exact ⟨Bx, h1, Nat.lt_of_lt_of_le h2 hg.size, (hg.block Bx h2 (by simp; omega)).trans h3, h4⟩
  case assign =>
    rintro l pre x W' K ⟨⟨⟨u, hx, hr⟩, h1, h2, h3⟩, hb⟩ hpre hsz hK
    rw [sV] at hsz hK
    have hbs := hb.size
    gi_wp2
    exact hK _ _ (Keep3.of_below ((Below.refl _ W').alloc (Nat.le_refl _) _) hsz) ⟨⟨⟨u, hx.alloc _, hr.alloc _⟩, h1.alloc _, h2.alloc _, h3.alloc _⟩, hb.alloc hbs _⟩ ⟨W'.heap.size, hsz, by simp, heap_alloc_last W' _, rfl⟩
  case body =>
    rintro l pre x a' W' ⟨⟨⟨u, hx, hr⟩, h1, h2, h3⟩, hb⟩ ⟨Bx, hB1, hB2, hB3, rfl⟩ hpre hsz
    rw [sV] at hsz ⊢
    have hxs : x < 128 ∧ f x ≠ 0 := by
      obtain ⟨t, ht'⟩ := hpre
      exact mem_upto.1 (show x ∈ upto f 128 from by have : x ∈ setsOf f := by rw [← ht']; simp
                                                    exact this)
    have hpl : pre.length < 128 := by
      have h5 := hpre.length_le
      have := setsOf_len f
      simp at h5
      omega
    have hk := idsL_len W f pre
    have htw := ht.keep hb hlt.1 hlt.2
    have Hw := hidIn (withIds_any (v := u) (s := x) (N := f x) hW hxs.1 (hf x) (fun m hm => (hfit x hxs.1 m hm).1) hr (by omega) (by omega) htw (by omega) (by omega))
    have hok := hfit x hxs.1
    obtain ⟨ua, ucap, rfl⟩ := row_shape hr
    have hc := hx.cell
    have c1 := h1.cell
    have p0 := cell_of_row W' Bx 0 _ _ _ hB3
    have p1 := cell_of_row W' Bx 1 _ _ _ hB3
    have p2 := cell_of_row W' Bx 2 _ _ _ hB3
    have p3 := cell_of_row W' Bx 3 _ _ _ hB3
    have p4 := cell_of_row W' Bx 4 _ _ _ hB3
    clear hpre hk
    gi_wp2_with (refine ⟨trivial, ?_⟩; gi_at_call 23; refine (CallsIn.inRound l (callsIn_wide.2 Hw.out)).mono ?_; rintro e w6 ⟨⟨_, u6, rfl, hr6⟩ | ⟨⟨m, hm, hlong⟩, _⟩, hb6⟩; rotate_left; (exact absurd (hok m hm).2 (by omega)); obtain ⟨ua6, ucap6, rfl⟩ := row_shape hr6; have x6 := boxed_below hx hb6 (by omega); have c6 := x6.cell; have f6 := x6.frozen)
    refine ⟨(Keep3.of_below hb6 (by omega)).trans (Keep3.set _ _ _ (by omega)), ⟨⟨_, x6.set _, ?_⟩, (boxed_below h1 hb6 (by omega)).other (by omega) _, (boxed_below h2 hb6 (by omega)).other (by omega) _, (boxed_below h3 hb6 (by omega)).other (by omega) _⟩, Below.setCell (hb.trans (hb6.mono (by omega))) (p := ⟨w.heap.size + 4, 0, none⟩) (by show w.heap.size ≤ w.heap.size + 4; omega) _⟩
    have := ownsRow_setCell_below hr6 (a := ⟨w.heap.size + 4, 0, none⟩) (show w.heap.size + 4 < w.heap.size + 9 by omega) (.slice ua6 ((idsL W f pre).length + (lst (f x)).length) ucap6)
    rw [idsL_snoc, List.length_append, List.length_map]
    exact this
  case done =>
    rintro D W' hD ⟨⟨⟨u, hx, hr⟩, h1, h2, h3⟩, hb⟩ hK
    rw [sV] at hD
    have hc := hx.cell
    have c2 := h2.cell
    have f2 := h2.frozen
    have c3 := h3.cell
    have f3 := h3.frozen
    obtain ⟨ua, ucap, rfl⟩ := row_shape hr
    gi_wp2
    have hK2 := (KeepsOthers.setCell (W'.setCell ⟨w.heap.size + 2, 0, none⟩ (.slice ua (idsL W f (setsOf f)).length ucap)) ⟨w.heap.size + 3, 0, none⟩ (.int .i64 0)).same D _ ((KeepsOthers.setCell W' ⟨w.heap.size + 2, 0, none⟩ (.slice ua (idsL W f (setsOf f)).length ucap)).same D _ hK rfl) rfl
    refine ⟨by simp, .inl ⟨_, _, rfl, run_takeDeferred hK2, ?_⟩⟩
    have z3 := ((h2.set (.slice ua (idsL W f (setsOf f)).length ucap)).other (show w.heap.size + 2 ≠ w.heap.size + 3 by omega) (.int .i64 0)).kept (grownBy_putObj' _ D (.deferred none)) (by simp; omega)
    have z4 := ((h3.other (show w.heap.size + 3 ≠ w.heap.size + 2 by omega) (.slice ua (idsL W f (setsOf f)).length ucap)).set (.int .i64 0)).kept (grownBy_putObj' _ D (.deferred none)) (by simp; omega)
    have d3 := z3.cell
    have d4 := z4.cell
    refine ⟨.tuple #[.slice ua (idsL W f (setsOf f)).length ucap, .int .i64 0], by simp [results, Tryd.results24, go_sem, d3, d4], ⟨_, rfl, ?_⟩, ?_⟩
    · have r1 := ownsRow_setCell_below hr (a := ⟨w.heap.size + 2, 0, none⟩) (show w.heap.size + 2 < w.heap.size + 9 by omega) (.slice ua (idsL W f (setsOf f)).length ucap)
      have r2 := ownsRow_setCell_below r1 (a := ⟨w.heap.size + 3, 0, none⟩) (show w.heap.size + 3 < w.heap.size + 9 by omega) (.int .i64 0)
      exact row_less (ownsRow_putObj r2 _ hK2 rfl) (by omega)
    · exact (Below.setCell (hb.setCell (p := ⟨w.heap.size + 2, 0, none⟩) (by show w.heap.size ≤ w.heap.size + 2; omega) _) (p := ⟨w.heap.size + 3, 0, none⟩) (by show w.heap.size ≤ w.heap.size + 3; omega) _).trans (belowK_b (w := w) (Nat.le_refl _) _ D _ _ (by omega) hK2 rfl rfl)
end Go.Proofs.YtjcbbifjhoemaaaDoor
