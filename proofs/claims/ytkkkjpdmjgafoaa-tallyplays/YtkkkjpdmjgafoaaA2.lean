/- tally.added, isThere, check, New. -/
import Derived.Test.YtkkkjpdmjgafoaaA1
import Derived.Test.YtkkkjpdmjgafoaaA1B
namespace Go.Proofs.Ytkkkjpdmjgafoaa
open Go.RowKit

set_option maxRecDepth 100000 in
set_option maxHeartbeats 1000000 in
theorem added_any {a b : Cn} (ha : OkC a) (hb : OkC b) (w : World) :
    Calls Try.prog 30 #[cV a, cV b] w fun e w' => e = .returned (cV (addC a b)) ∧ Below w.heap.size w w' := by
  obtain ⟨W1, hW1⟩ : ∃ W1, ((w.alloc (cO a)).alloc (cO b)).alloc (cO0) = W1 := ⟨_, rfl⟩
  have b1 : Below w.heap.size w W1 := by rw [← hW1]; exact (((Below.refl _ w).alloc (Nat.le_refl _) _).alloc (by simp) _).alloc (by simp; omega) _
  have hA : W1.heap[w.heap.size]? = some (cO a) := by
    rw [← hW1, Below.heap_alloc _ _ _ (by simp; omega), Below.heap_alloc _ _ _ (by simp)]
    exact heap_alloc_last w _
  have hB : W1.heap[w.heap.size + 1]? = some (cO b) := by
    rw [← hW1, Below.heap_alloc _ _ _ (by simp)]
    have := heap_alloc_last (w.alloc (cO a)) (cO b)
    rwa [World.size_alloc] at this
  have hC : W1.heap[w.heap.size + 1 + 1]? = some (cO0) := by
    rw [← hW1]
    have := heap_alloc_last ((w.alloc (cO a)).alloc (cO b)) (cO0)
    rwa [World.size_alloc, World.size_alloc] at this
  obtain ⟨q, hq⟩ : ∃ q, w.heap.size = q := ⟨_, rfl⟩
  have Hq := hidIn hq
  rw [hq] at hA hB hC
  have HF : Hid (∀ wq, Below W1.heap.size W1 wq → wq.heap[q]? = some (cO a) ∧ wq.heap[q + 1]? = some (cO b) ∧ wq.heap[q + 1 + 1]? = some (cO0) ∧ Below w.heap.size w wq) := hidIn fun wq h =>
    ⟨(h.block _ (block_lt hA)).trans hA, (h.block _ (block_lt hB)).trans hB, (h.block _ (block_lt hC)).trans hC, b1.trans (h.mono b1.size)⟩
  have HW := hidIn hW1
  have Ha := hidIn ha
  have Hb := hidIn hb
  obtain ⟨r, hr⟩ : ∃ r, addC a b = r := ⟨_, rfl⟩
  have HR := hidIn hr
  rw [hr]
  clear hW1 b1 hA hB hC ha hb hr
  go_enter Try.func30, Try.ntmps30
  go_upto_region 1 with fail
  rw [HW.out]
  clear HW hq
  go_wp2_with fail
  obtain ⟨hA, hB, hx, hy⟩ := HF.out _ (Below.refl _ W1)
  refine (fld0_any Ha.out Hb.out hA hB).mono ?_
  rintro e w2 ⟨rfl, hb2⟩
  clear hA hB hx hy
  have HB2 := hidIn (hb2)
  clear hb2
  go_wp2_with fail
  obtain ⟨hA, hB, hx, hy⟩ := HF.out _ HB2.out
  refine (fld1_any Ha.out Hb.out hA hB).mono ?_
  rintro e w3 ⟨rfl, hb3⟩
  clear hA hB hx hy
  have HB3 := hidIn (HB2.out.trans (hb3.mono HB2.out.size))
  clear hb3
  go_wp2_with fail
  obtain ⟨hA, hB, hx, hy⟩ := HF.out _ HB3.out
  refine (fld2_any Ha.out Hb.out hA hB).mono ?_
  rintro e w4 ⟨rfl, hb4⟩
  clear hA hB hx hy
  have HB4 := hidIn (HB3.out.trans (hb4.mono HB3.out.size))
  clear hb4
  go_wp2_with fail
  obtain ⟨hA, hB, hx, hy⟩ := HF.out _ HB4.out
  refine (fld3_any Ha.out Hb.out hA hB).mono ?_
  rintro e w5 ⟨rfl, hb5⟩
  clear hA hB hx hy
  have HB5 := hidIn (HB4.out.trans (hb5.mono HB4.out.size))
  clear hb5
  go_wp2_with fail
  obtain ⟨hA, hB, hx, hy⟩ := HF.out _ HB5.out
  refine (fld4_any Ha.out Hb.out hA hB).mono ?_
  rintro e w6 ⟨rfl, hb6⟩
  clear hA hB hx hy
  have HB6 := hidIn (HB5.out.trans (hb6.mono HB5.out.size))
  clear hb6
  go_wp2_with fail
  obtain ⟨hA, hB, hx, hy⟩ := HF.out _ HB6.out
  refine (fld5_any Ha.out Hb.out hA hB).mono ?_
  rintro e w7 ⟨rfl, hb7⟩
  clear hA hB hx hy
  have HB7 := hidIn (HB6.out.trans (hb7.mono HB6.out.size))
  clear hb7
  obtain ⟨hx, hy, hC, hbel⟩ := HF.out _ HB7.out
  have z0 := cell_of_row _ _ 0 _ _ _ hC
  have z1 := cell_of_row _ _ 1 _ _ _ hC
  have z2 := cell_of_row _ _ 2 _ _ _ hC
  have z3 := cell_of_row _ _ 3 _ _ _ hC
  have z4 := cell_of_row _ _ 4 _ _ _ hC
  have z5 := cell_of_row _ _ 5 _ _ _ hC
  simp at z0 z1 z2 z3 z4 z5
  have f0 := frozen_new hC 0
  have f1 := frozen_new hC 1
  have f2 := frozen_new hC 2
  have f3 := frozen_new hC 3
  have f4 := frozen_new hC 4
  have f5 := frozen_new hC 5
  have HBel := hidIn hbel
  have HC := hidIn hC
  clear hC hbel hx hy
  go_wp2_with fail
  have HE : Hid ((setK w7 (q + 1 + 1) (addC a b)).heap[q + 1 + 1]? = some (cO (addC a b))) := hidIn (setK_block (x := noC) HC.out _)
  have hl := load_c HE.out
  rw [HR.out] at hl
  refine bodyPost_ret (v := cV r) ?_ rfl ⟨rfl, ?_⟩
  · rw [← HR.out] at hl ⊢
    simp [results, Try.results30, asAddr]
    exact hl
  · have := below_setK HBel.out (b := q + 1 + 1) (by have := Hq.out; omega) (addC a b)
    exact this
end Go.Proofs.Ytkkkjpdmjgafoaa
