/- The document's list of counts: All. -/
import Derived.Test.YtkkkjpdmjgafoaaAI
namespace Go.Proofs.Ytkkkjpdmjgafoaa
open Go.RowKit

set_option maxRecDepth 100000 in
set_option maxHeartbeats 2000000 in
theorem dall15_any {v : Value} {T : Nat → Cn} {w : World} (h : OwAt w v T) (hT : OkT T) : Calls Try.prog 19 #[v] w fun e w' => e = .returned (cV (allC T 25)) ∧ Below w.heap.size w w' := by
  obtain ⟨W1, hW1⟩ : ∃ W1, (w.alloc cO0).alloc cO0 = W1 := ⟨_, rfl⟩
  have b1 : Below w.heap.size w W1 := by rw [← hW1]; exact ((Below.refl _ w).alloc (Nat.le_refl _) _).alloc (by simp) _
  have hA : W1.heap[w.heap.size]? = some cO0 := by
    rw [← hW1, Below.heap_alloc _ _ _ (by simp)]
    exact heap_alloc_last w _
  have hB : W1.heap[w.heap.size + 1]? = some cO0 := by
    rw [← hW1]
    have := heap_alloc_last (w.alloc cO0) cO0
    rwa [World.size_alloc] at this
  obtain ⟨g, cap, cur, rfl, _, _, h3, h4⟩ := h
  have hgw := block_lt h3
  have hg1 := (b1.block g hgw).trans h3
  have HG := hidIn (And.intro hg1 h4)
  obtain ⟨q, hq⟩ : ∃ q, w.heap.size = q := ⟨_, rfl⟩
  rw [hq] at hA hB hgw
  have Hq := hidIn hq
  have HA := hidIn hA
  have HB := hidIn hB
  have Hb1 := hidIn b1
  have HW := hidIn hW1
  have HOk := hidIn hT
  clear hA hB b1 hW1 hT h3 hg1 h4
  go_enter Try.func19, Try.ntmps19
  go_upto_region 2 with fail
  rw [HW.out]
  clear HW hq
  go_wp2_with fail
  go_loopw [4] (fun z wr => ∃ k : Nat, k ≤ 25 ∧ z = .int .i64 k ∧ Hid (wr.heap[q + 1]? = some (cO (allC T k)) ∧ wr.heap[q]? = some cO0 ∧ Below q W1 wr)) (fun z _ => 25 - (intOf z).toNat)
  case atStart => exact ⟨0, Nat.zero_le _, rfl, hidIn ⟨HB.out, HA.out, (Below.refl W1.heap.size W1).mono (by have := block_lt HA.out; omega)⟩⟩
  case round =>
    obtain ⟨k, hk, rfl, HR⟩ := hrel
    clear HA HB
    by_cases hlt : k < 25
    · have hki : (k : Int) < 25 := by omega
      have hg2 := (HR.out.2.2.block g hgw).trans HG.out.1
      have HG2 := hidIn (And.intro hg2 HG.out.2)
      have HR0 := hidIn HR.out
      clear HR hg2
      go_upto_region 5 with fail
      refine wp_region_held_drew (S := fun wx => Fr (fun j => j = q + 1) wr wx) (by kernel_rfl) ((Fr.refl _ wr).drew) (fun hHeld => ?_)
      have hd0 : Fr (fun j => j = q + 1) wr wr.drew := hHeld
      have hb0 : Below wr.heap.size wr wr.drew := (Below.refl _ wr).drew
      obtain ⟨wd, hwd⟩ : ∃ wd, wr.drew = wd := ⟨_, rfl⟩
      rw [hwd] at hd0 hb0 ⊢
      clear hwd hHeld
      refine wpAnyH_take (i := 1) (v := .slice (some ⟨g, 0, none⟩) 25 cap) rfl (by kernel_rfl) (by kernel_rfl) (by kernel_rfl) (fun _ _ _ h => h) (Or.inl ⟨by kernel_rfl, fun _ _ => by kernel_rfl⟩) (by assumption) ?_
      refine wpAnyH_take (i := 2) (v := .int .i64 k) rfl (by kernel_rfl) (by kernel_rfl) (by kernel_rfl) (fun _ _ _ h => h) (Or.inl ⟨by kernel_rfl, fun _ _ => by kernel_rfl⟩) (by assumption) ?_
      refine wpAnyH_take (i := 3) (v := .pointer (some ⟨g, k * 6, none⟩)) rfl (by kernel_rfl) (by kernel_rfl) (by kernel_rfl) (fun _ _ _ h => h) (Or.inl ⟨by kernel_rfl, fun _ _ => by go_simp⟩) (by assumption) ?_
      refine wpAnyH_take (i := 4) (v := cV (T k)) rfl (by kernel_rfl) (by kernel_rfl) (by kernel_rfl) (fun _ _ _ h => h) (Or.inl ⟨by kernel_rfl, fun wq hSw => by
        have hz := (hSw.block g (block_lt HG2.out.1) (by omega)).trans HG2.out.1
        have t0 := ow_cell hz HG2.out.2 hlt (k := 0) (by omega)
        have t1 := ow_cell hz HG2.out.2 hlt (k := 1) (by omega)
        have t2 := ow_cell hz HG2.out.2 hlt (k := 2) (by omega)
        have t3 := ow_cell hz HG2.out.2 hlt (k := 3) (by omega)
        have t4 := ow_cell hz HG2.out.2 hlt (k := 4) (by omega)
        have t5 := ow_cell hz HG2.out.2 hlt (k := 5) (by omega)
        simp only [Nat.add_zero] at t0
        clear hz hSw
        go_simp⟩) (by assumption) ?_
      have hz := (hb0.block _ (block_lt HR0.out.1)).trans HR0.out.1
      have z0 := cell_of_row _ _ 0 _ _ _ hz
      have z1 := cell_of_row _ _ 1 _ _ _ hz
      have z2 := cell_of_row _ _ 2 _ _ _ hz
      have z3 := cell_of_row _ _ 3 _ _ _ hz
      have z4 := cell_of_row _ _ 4 _ _ _ hz
      have z5 := cell_of_row _ _ 5 _ _ _ hz
      simp at z0 z1 z2 z3 z4 z5
      refine wpAnyH_ready (rs := [0]) (by kernel_rfl) (by simp) ?_
      refine AllReadyH.cons (i := 0) rfl ?_ AllReadyH.nil
      go_simp
      intro K hK
      refine hK.out _ _ hd0 (fun _ => ?_)
      clear hK K z0 z1 z2 z3 z4 z5
      refine wpAnyH_ready (rs := [5]) (by kernel_rfl) (by simp) ?_
      refine AllReadyH.cons (i := 5) rfl ?_ AllReadyH.nil
      go_simp
      intro K hK
      refine (dadded_any (allC_ok T k) (HOk.out k) _).mono ?_
      rintro e wk ⟨rfl, hbk⟩
      have hz2 := (hbk.block _ (block_lt hz)).trans hz
      have hk2 := hd0.trans (Fr.of_below (S := fun j => j = q + 1) hbk)
      obtain ⟨x, hx⟩ : ∃ x, addC (allC T k) (T k) = x := ⟨_, rfl⟩
      rw [hx]
      have HX := hidIn hx
      refine hK.out _ _ hk2 (fun _ => ?_)
      clear hK K hbk hx hz
      have z0 := cell_of_row _ _ 0 _ _ _ hz2
      have z1 := cell_of_row _ _ 1 _ _ _ hz2
      have z2 := cell_of_row _ _ 2 _ _ _ hz2
      have z3 := cell_of_row _ _ 3 _ _ _ hz2
      have z4 := cell_of_row _ _ 4 _ _ _ hz2
      have z5 := cell_of_row _ _ 5 _ _ _ hz2
      simp at z0 z1 z2 z3 z4 z5
      have fz0 := frozen_new hz2 0
      have fz1 := frozen_new hz2 1
      have fz2 := frozen_new hz2 2
      have fz3 := frozen_new hz2 3
      have fz4 := frozen_new hz2 4
      have fz5 := frozen_new hz2 5
      have hS7 : Fr (fun j => j = q + 1) wr (setK wk (q + 1) x) := hk2.trans ((((((fr_one wk (q + 1) _ _).trans (fr_one _ (q + 1) _ _)).trans (fr_one _ (q + 1) _ _)).trans (fr_one _ (q + 1) _ _)).trans (fr_one _ (q + 1) _ _)).trans (fr_one _ (q + 1) _ _))
      have HO : Hid ((setK wk (q + 1) x).heap[q + 1]? = some (cO (allC T (k + 1))) ∧ (setK wk (q + 1) x).heap[q]? = some cO0 ∧ Below q W1 (setK wk (q + 1) x)) := hidIn (by
        refine ⟨by show _ = some (cO (addC (allC T k) (T k))); rw [HX.out]; exact setK_block hz2 x, (hS7.block q (block_lt HR0.out.2.1) (by omega)).trans HR0.out.2.1, HR0.out.2.2.trans (hS7.below (Nat.le_of_lt (block_lt HR0.out.2.1)) (fun j hj => by omega))⟩)
      clear hz2
      refine wpAnyH_ready (rs := [6]) (by kernel_rfl) (by simp) ?_
      refine AllReadyH.cons (i := 6) rfl ?_ AllReadyH.nil
      go_simp
      intro K hK
      unfold setK at hS7 HO
      refine hK.out _ _ hS7 (fun _ => ?_)
      clear hK K z0 z1 z2 z3 z4 z5 fz0 fz1 fz2 fz3 fz4 fz5 hS7 hk2 hd0 hb0
      refine wpAnyH_done (by kernel_rfl) ?_ _
      go_wp2_with fail
      go_roundw
      case rel => exact ⟨k + 1, by omega, by go_num, HO⟩
      case measure => simp [intOf]; omega
    · have hki : ¬ (k : Int) < 25 := by omega
      obtain rfl : k = 25 := by omega
      obtain ⟨hB1, hA1, hbel⟩ := HR.out
      have d0 := cell_of_row _ _ 0 _ _ _ hB1
      have d1 := cell_of_row _ _ 1 _ _ _ hB1
      have d2 := cell_of_row _ _ 2 _ _ _ hB1
      have d3 := cell_of_row _ _ 3 _ _ _ hB1
      have d4 := cell_of_row _ _ 4 _ _ _ hB1
      have d5 := cell_of_row _ _ 5 _ _ _ hB1
      simp at d0 d1 d2 d3 d4 d5
      have e0 := cell_of_row _ _ 0 _ _ _ hA1
      have e1 := cell_of_row _ _ 1 _ _ _ hA1
      have e2 := cell_of_row _ _ 2 _ _ _ hA1
      have e3 := cell_of_row _ _ 3 _ _ _ hA1
      have e4 := cell_of_row _ _ 4 _ _ _ hA1
      have e5 := cell_of_row _ _ 5 _ _ _ hA1
      simp at e0 e1 e2 e3 e4 e5
      have f0 := frozen_new hA1 0
      have f1 := frozen_new hA1 1
      have f2 := frozen_new hA1 2
      have f3 := frozen_new hA1 3
      have f4 := frozen_new hA1 4
      have f5 := frozen_new hA1 5
      have HL := hidIn (load_c (setK_block (x := noC) hA1 (allC T 25)))
      have HBe : Hid (Below w.heap.size w (setK wr q (allC T 25))) := hidIn (below_setK (b := q) (Hb1.out.trans (by rw [Hq.out]; exact hbel)) (by have := Hq.out; omega) (allC T 25))
      clear HR hB1 hA1 hbel
      go_wp2_with fail
      have hl := HL.out
      unfold setK at hl
      refine bodyPost_ret (v := cV (allC T 25)) (by simp [results, Try.results19, asAddr, hl]) rfl ⟨rfl, HBe.out⟩
end Go.Proofs.Ytkkkjpdmjgafoaa
