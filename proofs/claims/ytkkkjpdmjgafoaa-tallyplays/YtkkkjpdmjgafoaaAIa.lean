/- The document's list of counts: Add. -/
import Derived.Test.YtkkkjpdmjgafoaaAI
namespace Go.Proofs.Ytkkkjpdmjgafoaa
open Go.RowKit

set_option maxRecDepth 100000 in
set_option maxHeartbeats 2000000 in
theorem dadd_no {v : Value} {T : Nat → Cn} {c : Cn} {w : World} (h : OwAt w v T) {n : Int} (hn : ¬ (1 ≤ n ∧ n ≤ 24)) : Calls Try.prog 12 #[v, .int .i64 n, cV c] w fun e w' => e = .returned (.tuple #[v, .int .i64 2]) ∧ Below w.heap.size w w' := by
  obtain ⟨g, cap, rfl, _⟩ := h.lt
  have HRo := hidIn (fun wx => drouter_no hn wx)
  clear h hn
  go_enter Try.func12, Try.ntmps12
  go_wp2_with (go_at_call 17; refine (HRo.out _).mono ?_; rintro e w1 ⟨rfl, hw1⟩; rw [hw1]; clear hw1 w1)
  refine bodyPost_ret (v := .tuple #[.slice (some ⟨g, 0, none⟩) 25 cap, .int .i64 2]) (by simp [results, Try.results12, go_sem]) rfl ⟨rfl, by go_grown⟩
set_option maxRecDepth 100000 in
set_option maxHeartbeats 2000000 in
theorem dadd_yes {v : Value} {T : Nat → Cn} {c : Cn} (hc : OkC c) {w : World} (h : OwAt w v T) (hT : OkT T) {r : Nat} (h1 : 1 ≤ r) (h2 : r ≤ 24) : Calls Try.prog 12 #[v, .int .i64 r, cV c] w fun e w' => (∃ v', e = .returned (.tuple #[v', .int .i64 0]) ∧ OwAt w' v' (putC T r (addC (T r) c))) ∧ Below w.heap.size w w' := by
  have HRo := hidIn (fun wx => drouter_yes (n := (r : Int)) (by omega) (by omega) wx)
  have hr25 : r < 25 := by omega
  have hri : (r : Int) < 25 := by omega
  obtain ⟨W1, hW1⟩ : ∃ W1, w.alloc (cO c) = W1 := ⟨_, rfl⟩
  have b1 : Below w.heap.size w W1 := by rw [← hW1]; exact (Below.refl _ w).alloc (Nat.le_refl _) _
  have hC : W1.heap[w.heap.size]? = some (cO c) := by rw [← hW1]; exact heap_alloc_last w _
  obtain ⟨g, cap, cur, w6, hrun, hg, hc1, hc2, hh, ht, hb6⟩ := ow_append (h.keep b1)
  have hC6 := (hb6.block _ (block_lt hC)).trans hC
  have HW := hidIn hW1
  have HB := hidIn (b1.trans (hb6.mono b1.size))
  have hgq : g ≠ w.heap.size := by have := block_lt hC; omega
  have hgw : w.heap.size ≤ g := by have := b1.size; omega
  obtain ⟨gv, capv, rfl, _⟩ := h.lt
  have HRun := hidIn hrun
  have HH := hidIn (And.intro hh ht)
  have Hgw := hidIn hgw
  have HC := hidIn hC6
  have HOk := hidIn hT
  have Hc := hidIn hc
  obtain ⟨q, hq⟩ : ∃ q, w.heap.size = q := ⟨_, rfl⟩
  rw [hq] at HC hgq
  have Hne := hidIn hgq
  clear hW1 b1 hC hC6 hT hc hgq
  clear h hrun hg hh ht hb6 hgw
  go_enter Try.func12, Try.ntmps12
  go_upto_region 1 with fail
  rw [HW.out]
  clear HW hq
  go_upto_region 5 with (first
    | (go_at_call 17; refine (HRo.out _).mono ?_; rintro e w1 ⟨rfl, hw1⟩; rw [hw1]; clear hw1 w1)
    | (refine l_append rfl _ _ 25 rfl HRun.out ?_))
  clear HRun HRo
  refine wp_region_held_drew (S := fun wx => Fr (fun j => j = g) w6 wx) (by kernel_rfl) ((Fr.refl _ w6).drew) (fun hHeld => ?_)
  have hd0 : Fr (fun j => j = g) w6 w6.drew := hHeld
  have hb0 : Below w6.heap.size w6 w6.drew := (Below.refl _ w6).drew
  obtain ⟨wd, hwd⟩ : ∃ wd, w6.drew = wd := ⟨_, rfl⟩
  rw [hwd] at hd0 hb0 ⊢
  clear hwd hHeld
  refine wpAnyH_take (i := 0) (v := .slice (some ⟨g, 0, none⟩) 25 cap) rfl (by kernel_rfl) (by kernel_rfl) (by kernel_rfl) (fun _ _ _ h => h) (Or.inl ⟨by kernel_rfl, fun _ _ => by kernel_rfl⟩) (by assumption) ?_
  refine wpAnyH_take (i := 1) (v := .int .i64 r) rfl (by kernel_rfl) (by kernel_rfl) (by kernel_rfl) (fun _ _ _ h => h) (Or.inl ⟨by kernel_rfl, fun _ _ => by kernel_rfl⟩) (by assumption) ?_
  refine wpAnyH_take (i := 2) (v := .slice (some ⟨g, 0, none⟩) 25 cap) rfl (by kernel_rfl) (by kernel_rfl) (by kernel_rfl) (fun _ _ _ h => h) (Or.inl ⟨by kernel_rfl, fun _ _ => by kernel_rfl⟩) (by assumption) ?_
  refine wpAnyH_take (i := 3) (v := .int .i64 r) rfl (by kernel_rfl) (by kernel_rfl) (by kernel_rfl) (fun _ _ _ h => h) (Or.inl ⟨by kernel_rfl, fun _ _ => by kernel_rfl⟩) (by assumption) ?_
  refine wpAnyH_take (i := 4) (v := .pointer (some ⟨g, r * 6, none⟩)) rfl (by kernel_rfl) (by kernel_rfl) (by kernel_rfl) (fun _ _ _ h => h) (Or.inl ⟨by kernel_rfl, fun _ _ => by go_simp⟩) (by assumption) ?_
  refine wpAnyH_take (i := 6) (v := cV c) rfl (by kernel_rfl) (by kernel_rfl) (by kernel_rfl) (fun _ _ _ h => h) (Or.inl ⟨by kernel_rfl, fun wq hSw => by
    have hz := (hSw.block q (block_lt HC.out) (fun e => Hne.out e.symm)).trans HC.out
    have z0 := cell_of_row _ _ 0 _ _ _ hz
    have z1 := cell_of_row _ _ 1 _ _ _ hz
    have z2 := cell_of_row _ _ 2 _ _ _ hz
    have z3 := cell_of_row _ _ 3 _ _ _ hz
    have z4 := cell_of_row _ _ 4 _ _ _ hz
    have z5 := cell_of_row _ _ 5 _ _ _ hz
    simp at z0 z1 z2 z3 z4 z5
    clear hz hSw
    go_simp⟩) (by assumption) ?_
  have hh := (hb0.block g (block_lt HH.out.1)).trans HH.out.1
  have t0 := ow_cell hh HH.out.2 hr25 (k := 0) (by omega)
  have t1 := ow_cell hh HH.out.2 hr25 (k := 1) (by omega)
  have t2 := ow_cell hh HH.out.2 hr25 (k := 2) (by omega)
  have t3 := ow_cell hh HH.out.2 hr25 (k := 3) (by omega)
  have t4 := ow_cell hh HH.out.2 hr25 (k := 4) (by omega)
  have t5 := ow_cell hh HH.out.2 hr25 (k := 5) (by omega)
  simp only [Nat.add_zero] at t0
  refine wpAnyH_ready (rs := [5]) (by kernel_rfl) (by simp) ?_
  refine AllReadyH.cons (i := 5) rfl ?_ AllReadyH.nil
  go_simp
  intro K hK
  refine hK.out _ _ hd0 (fun _ => ?_)
  clear hK K t0 t1 t2 t3 t4 t5
  refine wpAnyH_ready (rs := [7]) (by kernel_rfl) (by simp) ?_
  refine AllReadyH.cons (i := 7) rfl ?_ AllReadyH.nil
  go_simp
  intro K hK
  refine (dadded_any (HOk.out r) Hc.out _).mono ?_
  rintro e wk ⟨rfl, hbk⟩
  have hh2 := (hbk.block g (block_lt hh)).trans hh
  have hk := hd0.trans (Fr.of_below (S := fun j => j = g) hbk)
  obtain ⟨x, hx⟩ : ∃ x, addC (T r) c = x := ⟨_, rfl⟩
  rw [hx]
  have HX := hidIn hx
  refine hK.out _ _ hk (fun _ => ?_)
  clear hK K hbk hx hh
  refine wpAnyH_take (i := 8) (v := .pointer (some ⟨g, r * 6, none⟩)) rfl (by kernel_rfl) (by kernel_rfl) (by kernel_rfl) (fun _ _ _ h => h) (Or.inl ⟨by kernel_rfl, fun _ _ => by go_simp⟩) (by assumption) ?_
  have t0 := ow_cell hh2 HH.out.2 hr25 (k := 0) (by omega)
  have t1 := ow_cell hh2 HH.out.2 hr25 (k := 1) (by omega)
  have t2 := ow_cell hh2 HH.out.2 hr25 (k := 2) (by omega)
  have t3 := ow_cell hh2 HH.out.2 hr25 (k := 3) (by omega)
  have t4 := ow_cell hh2 HH.out.2 hr25 (k := 4) (by omega)
  have t5 := ow_cell hh2 HH.out.2 hr25 (k := 5) (by omega)
  simp only [Nat.add_zero] at t0
  have f0 := frozen_new hh2 (r * 6)
  have f1 := frozen_new hh2 (r * 6 + 1)
  have f2 := frozen_new hh2 (r * 6 + 2)
  have f3 := frozen_new hh2 (r * 6 + 3)
  have f4 := frozen_new hh2 (r * 6 + 4)
  have f5 := frozen_new hh2 (r * 6 + 5)
  have HO : Hid (OwAt (setR wk g r x) (.slice (some ⟨g, 0, none⟩) 25 cap) (putC T r (addC (T r) c))) := hidIn (by rw [HX.out]; exact ow_set hc1 hc2 hh2 HH.out.2 hr25 x)
  have hS7 : Fr (fun j => j = g) w6 (setR wk g r x) := hk.trans (fr_setR wk g r x)
  have HFin : Hid (Below w.heap.size w (setR wk g r x)) := hidIn (HB.out.trans (hS7.below HB.out.size (fun j hj => by have := Hgw.out; omega)))
  clear hh2
  refine wpAnyH_ready (rs := [9]) (by kernel_rfl) (by simp) ?_
  refine AllReadyH.cons (i := 9) rfl ?_ AllReadyH.nil
  go_simp
  intro K hK
  unfold setR at hS7 HO HFin
  refine hK.out _ _ hS7 (fun _ => ?_)
  clear hK K t0 t1 t2 t3 t4 t5 f0 f1 f2 f3 f4 f5 hS7 hk hd0 hb0
  refine wpAnyH_done (by kernel_rfl) ?_ _
  go_wp2_with fail
  refine bodyPost_ret (v := .tuple #[.slice (some ⟨g, 0, none⟩) 25 cap, .int .i64 0]) (by simp [results, Try.results12, go_sem]) rfl ⟨⟨_, rfl, HO.out⟩, HFin.out⟩
end Go.Proofs.Ytkkkjpdmjgafoaa
