/- RecordSame. -/
import Derived.Test.YtclnhohfiimcdaaXS
import Derived.Deep.RegionHeld3
namespace Go.Proofs.Ytclnhohfiimcdaa
open Go.RowKit

set_option maxRecDepth 100000 in
set_option maxHeartbeats 4000000 in
theorem recordSame_walk {r s : Rc} {va vb : Value} {w : World} (ha : SlAt ac 2 w va r.adjs) (hb : SlAt ac 2 w vb s.adjs) (hn : NilOk va) (hl : (r.adjs.length + 1) * 16 ≤ 140737488355328) :
    Calls Try.prog 6 #[recV r va, recV s vb] w fun e w' => e = .returned (.bool true) ∧ Below w.heap.size w w' := by
  obtain ⟨W1, hW1⟩ : ∃ W1, (w.alloc (recO r va)).alloc (recO s vb) = W1 := ⟨_, rfl⟩
  have b1 : Below w.heap.size w W1 := by rw [← hW1]; exact ((Below.refl _ w).alloc (Nat.le_refl _) _).alloc (by simp) _
  have hX : W1.heap[w.heap.size]? = some (recO r va) := by rw [← hW1, Below.heap_alloc _ _ _ (by simp)]; exact heap_alloc_last w _
  have hY : W1.heap[w.heap.size + 1]? = some (recO s vb) := by
    rw [← hW1]
    have := heap_alloc_last (w.alloc (recO r va)) (recO s vb)
    rw [World.size_alloc] at this
    exact this
  have HKa := hidIn (fun wq (h : Below W1.heap.size W1 wq) => ha.keep (b1.trans (h.mono b1.size)) (Nat.le_refl _))
  have HKb := hidIn (fun wq (h : Below W1.heap.size W1 wq) => hb.keep (b1.trans (h.mono b1.size)) (Nat.le_refl _))
  have H1 := hidIn (fun wq (h : Below W1.heap.size W1 wq) => recSame_any (HKa.out wq h) (HKb.out wq h))
  have H2 := hidIn (fun wq (h : Below W1.heap.size W1 wq) => dsame_any (HKa.out wq h) (HKb.out wq h))
  have H3 := hidIn (fun wq (h : Below W1.heap.size W1 wq) => own_any (HKa.out wq h) hn hl)
  have H4 := hidIn (fun wq (h : Below W1.heap.size W1 wq) vc (hc : SlAt ac 2 wq vc r.adjs) => recSame_any (s := r) (HKa.out wq h) hc)
  rw [sameB_self] at H4
  obtain ⟨aa, acap, rfl, _⟩ := ha.ads
  obtain ⟨ba, bcap, rfl, _⟩ := hb.ads
  obtain ⟨sb, hsb⟩ : ∃ sb, sameB r s = sb := ⟨_, rfl⟩
  rw [hsb] at H1 H2
  have HLen : Hid (∀ wq g c, wq.ownsRow W1.heap.size 36 2 (.slice (some ⟨g, 0, none⟩) (r.adjs.length + 1) c) (r.adjs.length + 1) (fl ac (r.adjs ++ [(0, 77)])) → SlAt ac 2 wq (.slice (some ⟨g, 0, none⟩) r.adjs.length c) r.adjs) := hidIn fun wq g c h => slAt_front (cs := ac) (sz := 2) (fun _ => rfl) h
  obtain ⟨O, E, Q, C, I, L⟩ := r
  obtain ⟨O2, E2, Q2, C2, I2, L2⟩ := s
  have HKx : Hid (∀ wq, Below W1.heap.size W1 wq → wq.heap[w.heap.size]? = some (recO ⟨O, E, Q, C, I, L⟩ (.slice aa L.length acap)) ∧ wq.heap[w.heap.size + 1]? = some (recO ⟨O2, E2, Q2, C2, I2, L2⟩ (.slice ba L2.length bcap))) := hidIn fun wq h => ⟨(h.block _ (block_lt hX)).trans hX, (h.block _ (block_lt hY)).trans hY⟩
  have HW := hidIn hW1
  have HB1 := hidIn b1
  simp only at H1 H2 H3 H4 HW ⊢
  clear hW1 b1 hX hY ha hb hn hl hsb HKa HKb
  go_enter Try.func6, Try.ntmps6
  go_upto_region 1 with fail
  rw [show (w.alloc _).alloc _ = W1 from HW.out]
  clear HW
  refine wp_region_held_drew (S := fun wx => Below W1.heap.size W1 wx) (by kernel_rfl) ((Below.refl _ W1).drew) (fun hHeld => ?_)
  refine wpAnyH_take (i := 0) (v := ?_) rfl (by kernel_rfl) (by kernel_rfl) (by kernel_rfl) (fun _ _ _ h => h) (Or.inl ⟨by rfl, ?_⟩) (by assumption) ?_
  rotate_left
  · intro wq hSw
    have hq := (HKx.out wq hSw).1
    have z0 := cell_of_row _ _ 0 _ _ _ hq
    have z1 := cell_of_row _ _ 1 _ _ _ hq
    have z2 := cell_of_row _ _ 2 _ _ _ hq
    have z3 := cell_of_row _ _ 3 _ _ _ hq
    have z4 := cell_of_row _ _ 4 _ _ _ hq
    have z5 := cell_of_row _ _ 5 _ _ _ hq
    simp at z0 z1 z2 z3 z4 z5
    clear hSw hq
    go_simp
    try (with_reducible rfl)
  refine wpAnyH_take (i := 1) (v := ?_) rfl (by kernel_rfl) (by kernel_rfl) (by kernel_rfl) (fun _ _ _ h => h) (Or.inl ⟨by rfl, ?_⟩) (by assumption) ?_
  rotate_left
  · intro wq hSw
    have hq := (HKx.out wq hSw).2
    have z0 := cell_of_row _ _ 0 _ _ _ hq
    have z1 := cell_of_row _ _ 1 _ _ _ hq
    have z2 := cell_of_row _ _ 2 _ _ _ hq
    have z3 := cell_of_row _ _ 3 _ _ _ hq
    have z4 := cell_of_row _ _ 4 _ _ _ hq
    have z5 := cell_of_row _ _ 5 _ _ _ hq
    simp at z0 z1 z2 z3 z4 z5
    clear hSw hq
    go_simp
    try (with_reducible rfl)
  refine wpAnyH_take (i := 3) (v := ?_) rfl (by kernel_rfl) (by kernel_rfl) (by kernel_rfl) (fun _ _ _ h => h) (Or.inl ⟨by rfl, ?_⟩) (by assumption) ?_
  rotate_left
  · intro wq hSw
    have hq := (HKx.out wq hSw).1
    have z0 := cell_of_row _ _ 0 _ _ _ hq
    have z1 := cell_of_row _ _ 1 _ _ _ hq
    have z2 := cell_of_row _ _ 2 _ _ _ hq
    have z3 := cell_of_row _ _ 3 _ _ _ hq
    have z4 := cell_of_row _ _ 4 _ _ _ hq
    have z5 := cell_of_row _ _ 5 _ _ _ hq
    simp at z0 z1 z2 z3 z4 z5
    clear hSw hq
    go_simp
    try (with_reducible rfl)
  refine wpAnyH_take (i := 4) (v := ?_) rfl (by kernel_rfl) (by kernel_rfl) (by kernel_rfl) (fun _ _ _ h => h) (Or.inl ⟨by rfl, ?_⟩) (by assumption) ?_
  rotate_left
  · intro wq hSw
    have hq := (HKx.out wq hSw).2
    have z0 := cell_of_row _ _ 0 _ _ _ hq
    have z1 := cell_of_row _ _ 1 _ _ _ hq
    have z2 := cell_of_row _ _ 2 _ _ _ hq
    have z3 := cell_of_row _ _ 3 _ _ _ hq
    have z4 := cell_of_row _ _ 4 _ _ _ hq
    have z5 := cell_of_row _ _ 5 _ _ _ hq
    simp at z0 z1 z2 z3 z4 z5
    clear hSw hq
    go_simp
    try (with_reducible rfl)
  have S0 : Below W1.heap.size W1 W1.drew := (Below.refl _ W1).drew
  refine wpAnyH_ready (rs := [2]) (by kernel_rfl) (by simp) ?_
  refine AllReadyH.cons rfl (fun K hK => ?_) AllReadyH.nil
  go_simp
  refine (H1.out _ S0).mono ?_
  rintro e w2 ⟨rfl, hb2⟩
  have S2 := S0.trans (hb2.mono S0.size)
  refine hK.out _ _ S2 (fun _ => ?_)
  clear hK K
  refine wpAnyH_ready (rs := [5]) (by kernel_rfl) (by simp) ?_
  refine AllReadyH.cons rfl (fun K hK => ?_) AllReadyH.nil
  go_simp
  refine (H2.out _ S2).mono ?_
  rintro e w3 ⟨rfl, hb3⟩
  have S3 := S2.trans (hb3.mono S2.size)
  refine hK.out _ _ S3 (fun _ => ?_)
  clear hK K
  have hsq : (sb == sb) = true := by simp
  refine wpAnyH_take (i := 6) (v := ?_) rfl (by kernel_rfl) (by kernel_rfl) (by kernel_rfl) (fun _ _ _ h => h) (Or.inl ⟨by rfl, ?_⟩) (by assumption) ?_
  rotate_left
  · intro wq hSw
    clear hSw
    go_simp
    try (with_reducible rfl)
  refine wpAnyH_take (i := 7) (v := ?_) rfl (by kernel_rfl) (by kernel_rfl) (by kernel_rfl) (fun _ _ _ h => h) (Or.inl ⟨by rfl, ?_⟩) (by assumption) ?_
  rotate_left
  · intro wq hSw
    clear hSw
    go_simp
    try (with_reducible rfl)
  refine wpAnyH_take (i := 8) (v := ?_) rfl (by kernel_rfl) (by kernel_rfl) (by kernel_rfl) (fun _ _ _ h => h) (Or.inl ⟨by rfl, ?_⟩) (by assumption) ?_
  rotate_left
  · intro wq hSw
    have hq := (HKx.out wq hSw).1
    have z0 := cell_of_row _ _ 0 _ _ _ hq
    have z1 := cell_of_row _ _ 1 _ _ _ hq
    have z2 := cell_of_row _ _ 2 _ _ _ hq
    have z3 := cell_of_row _ _ 3 _ _ _ hq
    have z4 := cell_of_row _ _ 4 _ _ _ hq
    have z5 := cell_of_row _ _ 5 _ _ _ hq
    simp at z0 z1 z2 z3 z4 z5
    clear hSw hq
    go_simp
    try (with_reducible rfl)
  refine wpAnyH_take (i := 9) (v := ?_) rfl (by kernel_rfl) (by kernel_rfl) (by kernel_rfl) (fun _ _ _ h => h) (Or.inl ⟨by rfl, ?_⟩) (by assumption) ?_
  rotate_left
  · intro wq hSw
    have hq := (HKx.out wq hSw).1
    have z0 := cell_of_row _ _ 0 _ _ _ hq
    have z1 := cell_of_row _ _ 1 _ _ _ hq
    have z2 := cell_of_row _ _ 2 _ _ _ hq
    have z3 := cell_of_row _ _ 3 _ _ _ hq
    have z4 := cell_of_row _ _ 4 _ _ _ hq
    have z5 := cell_of_row _ _ 5 _ _ _ hq
    simp at z0 z1 z2 z3 z4 z5
    clear hSw hq
    go_simp
    try (with_reducible rfl)
  refine wpAnyH_ready (rs := [10]) (by kernel_rfl) (by simp) ?_
  refine AllReadyH.cons rfl (fun K hK => ?_) AllReadyH.nil
  go_simp
  refine (H3.out _ S3).mono ?_
  rintro e w4 ⟨⟨g, c, rfl, hrow⟩, hb4⟩
  have S4 := S3.trans (hb4.mono S3.size)
  have hS4 := HLen.out _ _ _ (row_low hrow S3.size)
  refine hK.out _ _ S4 (fun _ => ?_)
  clear hK K
  refine wpAnyH_ready (rs := [11]) (by kernel_rfl) (by simp) ?_
  refine AllReadyH.cons rfl (fun K hK => ?_) AllReadyH.nil
  go_simp
  refine (H4.out _ S4 _ hS4).mono ?_
  rintro e w5 ⟨rfl, hb5⟩
  have S5 := S4.trans (hb5.mono S4.size)
  refine hK.out _ _ S5 (fun _ => ?_)
  clear hK K
  refine wpAnyH_take (i := 12) (v := ?_) rfl (by kernel_rfl) (by kernel_rfl) (by kernel_rfl) (fun _ _ _ h => h) (Or.inl ⟨by rfl, ?_⟩) (by assumption) ?_
  rotate_left
  · intro wq hSw
    clear hSw
    go_simp
    try (with_reducible rfl)
  refine wpAnyH_take (i := 13) (v := ?_) rfl (by kernel_rfl) (by kernel_rfl) (by kernel_rfl) (fun _ _ _ h => h) (Or.inl ⟨by rfl, ?_⟩) (by assumption) ?_
  rotate_left
  · intro wq hSw
    clear hSw
    go_simp
    try (with_reducible rfl)
  refine wpAnyH_ready (rs := [14]) (by kernel_rfl) (by simp) ?_
  refine AllReadyH.cons rfl (fun K hK => ?_) AllReadyH.nil
  go_simp
  refine (rworks_any _).mono ?_
  rintro e w6 ⟨rfl, hb6⟩
  have S6 := S5.trans (hb6.mono S5.size)
  refine hK.out _ _ S6 (fun _ => ?_)
  clear hK K
  refine wpAnyH_take (i := 15) (v := ?_) rfl (by kernel_rfl) (by kernel_rfl) (by kernel_rfl) (fun _ _ _ h => h) (Or.inl ⟨by rfl, ?_⟩) (by assumption) ?_
  rotate_left
  · intro wq hSw
    clear hSw
    go_simp
    try (with_reducible rfl)
  refine wpAnyH_ready (rs := [16]) (by kernel_rfl) (by simp) ?_
  refine AllReadyH.cons rfl (fun K hK => ?_) AllReadyH.nil
  go_simp
  refine hK.out _ _ S6 (fun _ => ?_)
  clear hK K
  refine wpAnyH_done (by kernel_rfl) ?_ _
  go_wp2_with fail
  go_ret
  exact ⟨rfl, HB1.out.trans (S6.mono HB1.out.size)⟩
end Go.Proofs.Ytclnhohfiimcdaa
