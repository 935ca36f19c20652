/- GraphSame. -/
import Derived.Test.YthfhmoaddpcnlaaGF
namespace Go.Proofs.Ythfhmoaddpcnlaa
open Go.RowKit

set_option maxRecDepth 100000 in
set_option maxHeartbeats 2000000 in
theorem graphSame_walk {ns ms : List Int} {es fs : List Ed} {vn ve un ue : Value} {w : World} (h : GrAt w vn ve ns es) (k : GrAt w un ue ms fs) (nn : NilOk vn) (ne : NilOk ve) (bn : (ns.length + 1) * 8 ≤ 140737488355328) (be : (es.length + 1) * 24 ≤ 140737488355328) :
    Calls Try.prog 6 #[grV vn ve, grV un ue] w fun e w' => e = .returned (.bool true) ∧ Below w.heap.size w w' := by
  obtain ⟨W1, hW1⟩ : ∃ W1, (w.alloc (.cells #[vn, ve] 25)).alloc (.cells #[un, ue] 25) = W1 := ⟨_, rfl⟩
  have hb1 : Below w.heap.size w W1 := by rw [← hW1]; go_grown
  have hs1 : W1.heap.size = w.heap.size + 2 := by rw [← hW1]; simp
  have k0 : W1.heap[w.heap.size]? = some (.cells #[vn, ve] 25) := by
    rw [← hW1, Below.heap_alloc _ _ _ (by simp)]; exact heap_alloc_last w _
  have k1 : W1.heap[w.heap.size + 1]? = some (.cells #[un, ue] 25) := by
    have := heap_alloc_last (w.alloc (.cells #[vn, ve] 25)) (.cells #[un, ue] 25)
    rw [World.size_alloc, hW1] at this
    exact this
  have HF : Hid (∀ wq, Below W1.heap.size W1 wq → (wq.cell? ⟨w.heap.size, 0, none⟩ = some vn ∧ wq.cell? ⟨w.heap.size, 1, none⟩ = some ve) ∧ wq.cell? ⟨w.heap.size + 1, 0, none⟩ = some un ∧ wq.cell? ⟨w.heap.size + 1, 1, none⟩ = some ue) := hidIn fun wq h => by
    have j0 := (h.block _ (by omega)).trans k0
    have j1 := (h.block _ (by omega)).trans k1
    exact ⟨⟨cell_of_row _ _ 0 _ _ _ j0, cell_of_row _ _ 1 _ _ _ j0⟩, cell_of_row _ _ 0 _ _ _ j1, cell_of_row _ _ 1 _ _ _ j1⟩
  have HA := hidIn (h.keep hb1 (Nat.le_refl _))
  have HC := hidIn (k.keep hb1 (Nat.le_refl _))
  have NI := hidIn nn
  have NE := hidIn ne
  have HW := hidIn hW1
  have HB1 := hidIn hb1
  have HS := hidIn (fun w1 (hb : Below W1.heap.size W1 w1) => same_any (HA.out.keep hb (Nat.le_refl _)) (HC.out.keep hb (Nat.le_refl _)))
  have HR := hidIn (fun w1 (hb : Below W1.heap.size W1 w1) => rsame_any (HA.out.keep hb (Nat.le_refl _)) (HC.out.keep hb (Nat.le_refl _)))
  generalize sameG ns ms es fs = b at HS HR
  clear hW1 k0 k1 nn ne h k hb1 hs1
  go_enter Try.func6, Try.ntmps6
  go_upto_region 1 with fail
  rw [HW.out]
  clear HW
  cases b
  all_goals
    refine wp_region_held_drew (S := fun wx => Below W1.heap.size W1 wx) (by kernel_rfl) ((Below.refl _ W1).drew) (fun hHeld => ?_)
    have hh : Below W1.heap.size W1 W1.drew := hHeld
    refine wpAnyH_take (i := 0) (v := ?_) rfl (by kernel_rfl) (by kernel_rfl) (by kernel_rfl) (fun _ _ _ h => h) (Or.inl ⟨by rfl, ?_⟩) (by assumption) ?_
    rotate_left
    · intro wq hSw
      obtain ⟨⟨q0, q1⟩, q2, q3⟩ := HF.out wq hSw
      clear hSw
      go_simp
      try (with_reducible rfl)
    refine wpAnyH_take (i := 1) (v := ?_) rfl (by kernel_rfl) (by kernel_rfl) (by kernel_rfl) (fun _ _ _ h => h) (Or.inl ⟨by rfl, ?_⟩) (by assumption) ?_
    rotate_left
    · intro wq hSw
      obtain ⟨⟨q0, q1⟩, q2, q3⟩ := HF.out wq hSw
      clear hSw
      go_simp
      try (with_reducible rfl)
    refine wpAnyH_take (i := 3) (v := ?_) rfl (by kernel_rfl) (by kernel_rfl) (by kernel_rfl) (fun _ _ _ h => h) (Or.inl ⟨by rfl, ?_⟩) (by assumption) ?_
    rotate_left
    · intro wq hSw
      obtain ⟨⟨q0, q1⟩, q2, q3⟩ := HF.out wq hSw
      clear hSw
      go_simp
      try (with_reducible rfl)
    refine wpAnyH_take (i := 4) (v := ?_) rfl (by kernel_rfl) (by kernel_rfl) (by kernel_rfl) (fun _ _ _ h => h) (Or.inl ⟨by rfl, ?_⟩) (by assumption) ?_
    rotate_left
    · intro wq hSw
      obtain ⟨⟨q0, q1⟩, q2, q3⟩ := HF.out wq hSw
      clear hSw
      go_simp
      try (with_reducible rfl)
    refine wpAnyH_ready (rs := [2]) (by kernel_rfl) (by simp) ?_
    refine AllReadyH.cons rfl (fun K hK => ?_) AllReadyH.nil
    go_simp
    refine (HS.out _ hh).mono ?_
    rintro e w2 ⟨rfl, hbx⟩
    have h2 : Below W1.heap.size W1 w2 := hh.trans (hbx.mono hh.size)
    refine hK.out _ _ h2 (fun _ => ?_)
    clear hK K
    refine wpAnyH_ready (rs := [5]) (by kernel_rfl) (by simp) ?_
    refine AllReadyH.cons rfl (fun K hK => ?_) AllReadyH.nil
    go_simp
    refine (HR.out _ h2).mono ?_
    rintro e w3 ⟨rfl, hbx⟩
    have h3 : Below W1.heap.size W1 w3 := h2.trans (hbx.mono h2.size)
    refine hK.out _ _ h3 (fun _ => ?_)
    clear hK K
    refine wpAnyH_take (i := 6) (v := ?_) rfl (by kernel_rfl) (by kernel_rfl) (by kernel_rfl) (fun _ _ _ h => h) (Or.inl ⟨by rfl, ?_⟩) (by assumption) ?_
    rotate_left
    · intro wq hSw
      clear hSw
      go_simp
      try (with_reducible rfl)
    refine wpAnyH_take (i := 7) (v := ?_) rfl (by kernel_rfl) (by kernel_rfl) (by kernel_rfl) (fun _ _ _ h => h) (Or.inl ⟨by rfl, ?_⟩) (by assumption) ?_
    rotate_left
    · intro wq hSw
      clear hSw
      go_simp
      try (with_reducible rfl)
    refine wpAnyH_take (i := 8) (v := ?_) rfl (by kernel_rfl) (by kernel_rfl) (by kernel_rfl) (fun _ _ _ h => h) (Or.inl ⟨by rfl, ?_⟩) (by assumption) ?_
    rotate_left
    · intro wq hSw
      obtain ⟨⟨q0, q1⟩, q2, q3⟩ := HF.out wq hSw
      clear hSw
      go_simp
      try (with_reducible rfl)
    refine wpAnyH_take (i := 9) (v := ?_) rfl (by kernel_rfl) (by kernel_rfl) (by kernel_rfl) (fun _ _ _ h => h) (Or.inl ⟨by rfl, ?_⟩) (by assumption) ?_
    rotate_left
    · intro wq hSw
      obtain ⟨⟨q0, q1⟩, q2, q3⟩ := HF.out wq hSw
      clear hSw
      go_simp
      try (with_reducible rfl)
    refine wpAnyH_ready (rs := [10]) (by kernel_rfl) (by simp) ?_
    refine AllReadyH.cons rfl (fun K hK => ?_) AllReadyH.nil
    go_simp
    refine (own_any (HA.out.keep h3 (Nat.le_refl _)) NI.out NE.out bn be).mono ?_
    rintro e w4 ⟨⟨g, c, p, d, rfl, hg, hp⟩, hbx⟩
    have h4 : Below W1.heap.size W1 w4 := h3.trans (hbx.mono h3.size)
    refine hK.out _ _ h4 (fun _ => ?_)
    clear hK K
    have HG4 := hidIn (GrAt.mk (slAt_front (cs := ic) (fun _ => rfl) hg) (slAt_front (cs := ec) (fun _ => rfl) hp))
    have HS4 := hidIn (same_any (HA.out.keep h4 (Nat.le_refl _)) HG4.out)
    have hsame : sameG ns ns es es = true := by simp [sameG]
    rw [hsame] at HS4
    clear hg hp hsame
    refine wpAnyH_ready (rs := [11]) (by kernel_rfl) (by simp) ?_
    refine AllReadyH.cons rfl (fun K hK => ?_) AllReadyH.nil
    go_simp
    refine (HS4.out).mono ?_
    rintro e w5 ⟨rfl, hbx⟩
    have h5 : Below W1.heap.size W1 w5 := h4.trans (hbx.mono h4.size)
    refine hK.out _ _ h5 (fun _ => ?_)
    clear hK K
    refine wpAnyH_take (i := 12) (v := ?_) rfl (by kernel_rfl) (by kernel_rfl) (by kernel_rfl) (fun _ _ _ h => h) (Or.inl ⟨by rfl, ?_⟩) (by assumption) ?_
    rotate_left
    · intro wq hSw
      clear hSw
      go_simp
      try (with_reducible rfl)
    refine wpAnyH_take (i := 13) (v := ?_) rfl (by kernel_rfl) (by kernel_rfl) (by kernel_rfl) (fun _ _ _ h => h) (Or.inl ⟨by rfl, ?_⟩) (by assumption) ?_
    rotate_left
    · intro wq hSw
      clear hSw
      go_simp
      try (with_reducible rfl)
    refine wpAnyH_ready (rs := [14]) (by kernel_rfl) (by simp) ?_
    refine AllReadyH.cons rfl (fun K hK => ?_) AllReadyH.nil
    go_simp
    refine (works_ok _).mono ?_
    rintro e w6 ⟨rfl, hbx⟩
    have h6 : Below W1.heap.size W1 w6 := h5.trans (hbx.mono h5.size)
    refine hK.out _ _ h6 (fun _ => ?_)
    clear hK K
    refine wpAnyH_take (i := 15) (v := ?_) rfl (by kernel_rfl) (by kernel_rfl) (by kernel_rfl) (fun _ _ _ h => h) (Or.inl ⟨by rfl, ?_⟩) (by assumption) ?_
    rotate_left
    · intro wq hSw
      clear hSw
      go_simp
      try (with_reducible rfl)
    refine wpAnyH_ready (rs := [16]) (by kernel_rfl) (by simp) ?_
    refine AllReadyH.cons rfl (fun K hK => ?_) AllReadyH.nil
    go_simp
    refine hK.out _ _ h6 (fun _ => ?_)
    clear hK K
    refine wpAnyH_done (by kernel_rfl) ?_ _
    go_wp2_with fail
    go_ret
    exact ⟨rfl, HB1.out.trans (h6.mono HB1.out.size)⟩
end Go.Proofs.Ythfhmoaddpcnlaa
