/- tally: isThere, check, add, Bad. -/
import Derived.Test.YtkkkjpdmjgafoaaA2
import Derived.Deep.RegionHeld3
namespace Go.Proofs.Ytkkkjpdmjgafoaa
open Go.RowKit

abbrev tp (b : Nat) : Value := .pointer (some ⟨b, 0, none⟩)
def OkT (T : Nat → Cn) : Prop := ∀ r, OkC (T r)
theorem OkT.put {T : Nat → Cn} (h : OkT T) (r : Nat) {c : Cn} (hc : OkC c) : OkT (putC T r c) := fun i => by unfold putC; split; exact hc; exact h i
theorem noT_ok : OkT noT := fun _ => noC_ok
theorem there_yes {b : Nat} {w : World} (h : w.cell? ⟨b, 0, none⟩ = some (.bool true)) : Calls Try.prog 29 #[tp b] w fun e w' => e = .returned (.bool true) ∧ w' = w := by
  go_enter Try.func29, Try.ntmps29
  go_wp2
  go_ret
  exact ⟨rfl, rfl⟩
theorem there_not {b : Nat} {w : World} (h : w.cell? ⟨b, 0, none⟩ = some (.bool false)) : Calls Try.prog 29 #[tp b] w fun e w' => e = .returned (.bool false) ∧ w' = w := by
  go_enter Try.func29, Try.ntmps29
  go_wp2
  go_ret
  exact ⟨rfl, rfl⟩
theorem there_nil (w : World) : Calls Try.prog 29 #[.pointer none] w fun e w' => e = .returned (.bool false) ∧ w' = w := by
  go_enter Try.func29, Try.ntmps29
  go_wp2
  go_ret
  exact ⟨rfl, rfl⟩
def ckR (n : Int) : Int := if 1 ≤ n ∧ n ≤ 24 then 0 else 2
theorem ckR_yes {n : Int} (h1 : 1 ≤ n) (h2 : n ≤ 24) : ckR n = 0 := if_pos ⟨h1, h2⟩
theorem ckR_no {n : Int} (h : ¬ (1 ≤ n ∧ n ≤ 24)) : ckR n = 2 := if_neg h
theorem tcheckT_any {b : Nat} {w : World} (h : w.cell? ⟨b, 0, none⟩ = some (.bool true)) (n : Int) : Calls Try.prog 28 #[tp b, .int .i64 n] w fun e w' => e = .returned (.int .i64 (ckR n)) ∧ w' = w := by
  have HC := hidIn (there_yes h)
  clear h
  by_cases h1 : n < 1
  · rw [ckR_no (n := n) (by omega)]
    go_enter Try.func28, Try.ntmps28
    go_wp2_with (go_at_call 29; refine HC.out.mono ?_; rintro e w1 ⟨rfl, hw1⟩; rw [hw1]; clear hw1 w1)
    go_ret
    exact ⟨rfl, rfl⟩
  · by_cases h2 : n > 24
    · rw [ckR_no (n := n) (by omega)]
      go_enter Try.func28, Try.ntmps28
      go_wp2_with (go_at_call 29; refine HC.out.mono ?_; rintro e w1 ⟨rfl, hw1⟩; rw [hw1]; clear hw1 w1)
      go_ret
      exact ⟨rfl, rfl⟩
    · rw [ckR_yes (n := n) (by omega) (by omega)]
      go_enter Try.func28, Try.ntmps28
      go_wp2_with (go_at_call 29; refine HC.out.mono ?_; rintro e w1 ⟨rfl, hw1⟩; rw [hw1]; clear hw1 w1)
      go_ret
      exact ⟨rfl, rfl⟩
theorem tcheckN_any (n : Int) (w : World) : Calls Try.prog 28 #[.pointer none, .int .i64 n] w fun e w' => e = .returned (.int .i64 1) ∧ w' = w := by
  go_enter Try.func28, Try.ntmps28
  go_wp2_with (go_at_call 29; refine (there_nil _).mono ?_; rintro e w1 ⟨rfl, hw1⟩; rw [hw1]; clear hw1 w1)
  go_ret
  exact ⟨rfl, rfl⟩
theorem tcheckF_any {b : Nat} {w : World} (h : w.cell? ⟨b, 0, none⟩ = some (.bool false)) (n : Int) : Calls Try.prog 28 #[tp b, .int .i64 n] w fun e w' => e = .returned (.int .i64 1) ∧ w' = w := by
  have HC := hidIn (there_not h)
  clear h
  go_enter Try.func28, Try.ntmps28
  go_wp2_with (go_at_call 29; refine HC.out.mono ?_; rintro e w1 ⟨rfl, hw1⟩; rw [hw1]; clear hw1 w1)
  go_ret
  exact ⟨rfl, rfl⟩
theorem add_no {b : Nat} {T : Nat → Cn} {w : World} (h : TaAt w b T) (n : Int) (hn : ¬ (1 ≤ n ∧ n ≤ 24)) (c : Cn) : Calls Try.prog 26 #[tp b, .int .i64 n, cV c] w fun e w' => e = .returned (.int .i64 2) ∧ Below w.heap.size w w' := by
  have HC := hidIn (tcheckT_any (h.keep ((Below.refl w.heap.size w).alloc (Nat.le_refl _) (cO c)) h.lt).made n)
  rw [ckR_no hn] at HC
  clear h
  go_enter Try.func26, Try.ntmps26
  go_wp2_with (go_at_call 28; refine HC.out.mono ?_; rintro e w1 ⟨rfl, hw1⟩; rw [hw1]; clear hw1 w1)
  go_ret
  exact ⟨rfl, by go_grown⟩
set_option maxRecDepth 100000 in
set_option maxHeartbeats 2000000 in
theorem add_yes {b : Nat} {T : Nat → Cn} {w : World} (h : TaAt w b T) (hT : OkT T) {r : Nat} (h1 : 1 ≤ r) (h2 : r ≤ 24) {c : Cn} (hc : OkC c) : Calls Try.prog 26 #[tp b, .int .i64 r, cV c] w fun e w' => e = .returned (.int .i64 0) ∧ TaAt w' b (putC T r (addC (T r) c)) ∧ Fr (fun j => j = b) w w' := by
  obtain ⟨W1, hW1⟩ : ∃ W1, w.alloc (cO c) = W1 := ⟨_, rfl⟩
  have b1 : Below w.heap.size w W1 := by rw [← hW1]; exact (Below.refl _ w).alloc (Nat.le_refl _) _
  have hC : W1.heap[w.heap.size]? = some (cO c) := by rw [← hW1]; exact heap_alloc_last w _
  have hT1 := h.keep b1 h.lt
  have HK := hidIn (tcheckT_any hT1.made (r : Int))
  rw [ckR_yes (by omega) (by omega)] at HK
  have hne : b ≠ w.heap.size := Nat.ne_of_lt h.lt
  obtain ⟨q, hq⟩ : ∃ q, w.heap.size = q := ⟨_, rfl⟩
  rw [hq] at hC hne
  have HC := hidIn hC
  have HT1 := hidIn hT1
  have HF1 : Hid (Fr (fun j => j = b) w W1) := hidIn (Fr.of_below b1)
  have Hne := hidIn hne
  have HW := hidIn hW1
  have HOk := hidIn hT
  have Hc := hidIn hc
  have hr25 : r < 25 := by omega
  clear h b1 hC hT1 hne hW1 hT hc
  go_enter Try.func26, Try.ntmps26
  go_upto_region 1 with fail
  rw [HW.out]
  clear HW hq
  go_wp2_with fail
  refine HK.out.mono ?_
  rintro e w1 ⟨rfl, hw1⟩
  rw [hw1]
  clear hw1 w1 HK
  have hri : (r : Int) < 25 := by omega
  have hr0 : (0 : Int) ≤ (r : Int) := by omega
  go_upto_region 4 with fail
  refine wp_region_held_drew (S := fun wx => Fr (fun j => j = b) W1 wx) (by kernel_rfl) ((Fr.refl _ W1).drew) (fun hHeld => ?_)
  refine wpAnyH_take (i := 0) (v := ?_) rfl (by kernel_rfl) (by kernel_rfl) (by kernel_rfl) (fun _ _ _ h => h) (Or.inl ⟨by rfl, ?_⟩) (by assumption) ?_
  rotate_left
  · intro wq hSw
    clear hSw
    go_simp
    try (with_reducible rfl)
  refine wpAnyH_take (i := 1) (v := ?_) rfl (by kernel_rfl) (by kernel_rfl) (by kernel_rfl) (fun _ _ _ h => h) (Or.inl ⟨by rfl, ?_⟩) (by assumption) ?_
  rotate_left
  · intro wq hSw
    clear hSw
    go_simp
    try (with_reducible rfl)
  refine wpAnyH_take (i := 2) (v := ?_) rfl (by kernel_rfl) (by kernel_rfl) (by kernel_rfl) (fun _ _ _ h => h) (Or.inl ⟨by rfl, ?_⟩) (by assumption) ?_
  rotate_left
  · intro wq hSw
    clear hSw
    go_simp
    try (with_reducible rfl)
  refine wpAnyH_take (i := 3) (v := ?_) rfl (by kernel_rfl) (by kernel_rfl) (by kernel_rfl) (fun _ _ _ h => h) (Or.inl ⟨by rfl, ?_⟩) (by assumption) ?_
  rotate_left
  · intro wq hSw
    clear hSw
    go_simp
    try (with_reducible rfl)
  refine wpAnyH_take (i := 4) (v := ?_) rfl (by kernel_rfl) (by kernel_rfl) (by kernel_rfl) (fun _ _ _ h => h) (Or.inl ⟨by rfl, ?_⟩) (by assumption) ?_
  rotate_left
  · intro wq hSw
    clear hSw
    go_simp
    try (with_reducible rfl)
  refine wpAnyH_take (i := 5) (v := ?_) rfl (by kernel_rfl) (by kernel_rfl) (by kernel_rfl) (fun _ _ _ h => h) (Or.inl ⟨by rfl, ?_⟩) (by assumption) ?_
  rotate_left
  · intro wq hSw
    clear hSw
    go_simp
    try (with_reducible rfl)
  refine wpAnyH_take (i := 6) (v := ?_) rfl (by kernel_rfl) (by kernel_rfl) (by kernel_rfl) (fun _ _ _ h => h) (Or.inl ⟨by rfl, ?_⟩) (by assumption) ?_
  rotate_left
  · intro wq hSw
    clear hSw
    go_simp
    try (with_reducible rfl)
  refine wpAnyH_take (i := 8) (v := ?_) rfl (by kernel_rfl) (by kernel_rfl) (by kernel_rfl) (fun _ _ _ h => h) (Or.inl ⟨by rfl, ?_⟩) (by assumption) ?_
  rotate_left
  · intro wq hSw
    have hq := (hSw.block q (block_lt HC.out) (fun e => Hne.out e.symm)).trans HC.out
    have z0 := cell_of_row _ _ 0 _ _ _ hq
    have z1 := cell_of_row _ _ 1 _ _ _ hq
    have z2 := cell_of_row _ _ 2 _ _ _ hq
    have z3 := cell_of_row _ _ 3 _ _ _ hq
    have z4 := cell_of_row _ _ 4 _ _ _ hq
    have z5 := cell_of_row _ _ 5 _ _ _ hq
    simp at z0 z1 z2 z3 z4 z5
    clear hq
    clear hSw
    go_simp
    try (with_reducible rfl)
  refine wpAnyH_take (i := 10) (v := ?_) rfl (by kernel_rfl) (by kernel_rfl) (by kernel_rfl) (fun _ _ _ h => h) (Or.inl ⟨by rfl, ?_⟩) (by assumption) ?_
  rotate_left
  · intro wq hSw
    clear hSw
    go_simp
    try (with_reducible rfl)
  refine wpAnyH_take (i := 11) (v := ?_) rfl (by kernel_rfl) (by kernel_rfl) (by kernel_rfl) (fun _ _ _ h => h) (Or.inl ⟨by rfl, ?_⟩) (by assumption) ?_
  rotate_left
  · intro wq hSw
    clear hSw
    go_simp
    try (with_reducible rfl)
  refine wpAnyH_ready (rs := [7]) (by kernel_rfl) (by simp) ?_
  have hD := HT1.out.keep ((Below.refl W1.heap.size W1).drew) HT1.out.lt
  have t0 := hD.cell hr25 (k := 0) (by omega)
  have t1 := hD.cell hr25 (k := 1) (by omega)
  have t2 := hD.cell hr25 (k := 2) (by omega)
  have t3 := hD.cell hr25 (k := 3) (by omega)
  have t4 := hD.cell hr25 (k := 4) (by omega)
  have t5 := hD.cell hr25 (k := 5) (by omega)
  simp only [Nat.add_zero] at t0
  clear hD
  refine AllReadyH.cons rfl (fun K hK => ?_) AllReadyH.nil
  go_simp
  refine hK.out _ _ hHeld (fun _ => ?_)
  clear hK K t0 t1 t2 t3 t4 t5
  refine wpAnyH_ready (rs := [9]) (by kernel_rfl) (by simp) ?_
  refine AllReadyH.cons rfl (fun K hK => ?_) AllReadyH.nil
  go_simp
  refine (added_any (HOk.out r) Hc.out _).mono ?_
  rintro e w6 ⟨rfl, hb6⟩
  have hF6 : Fr (fun j => j = b) W1 w6 := hHeld.trans (Fr.of_below hb6)
  have hT6 : TaAt w6 b T := (HT1.out.keep ((Below.refl W1.heap.size W1).drew) HT1.out.lt).keep hb6 HT1.out.lt
  obtain ⟨x, hx⟩ : ∃ x, addC (T r) c = x := ⟨_, rfl⟩
  rw [hx]
  have HX := hidIn hx
  refine hK.out _ _ hF6 (fun _ => ?_)
  clear hK K hb6 hx
  refine wpAnyH_take (i := 12) (v := ?_) rfl (by kernel_rfl) (by kernel_rfl) (by kernel_rfl) (fun _ _ _ h => h) (Or.inl ⟨by rfl, ?_⟩) (by assumption) ?_
  rotate_left
  · intro wq hSw
    clear hSw
    go_simp
    try (with_reducible rfl)
  refine wpAnyH_ready (rs := [13]) (by kernel_rfl) (by simp) ?_
  have t0 := hT6.cell hr25 (k := 0) (by omega)
  have t1 := hT6.cell hr25 (k := 1) (by omega)
  have t2 := hT6.cell hr25 (k := 2) (by omega)
  have t3 := hT6.cell hr25 (k := 3) (by omega)
  have t4 := hT6.cell hr25 (k := 4) (by omega)
  have t5 := hT6.cell hr25 (k := 5) (by omega)
  simp only [Nat.add_zero] at t0
  have f0 := hT6.frozen (1 + r * 6)
  have f1 := hT6.frozen (1 + r * 6 + 1)
  have f2 := hT6.frozen (1 + r * 6 + 2)
  have f3 := hT6.frozen (1 + r * 6 + 3)
  have f4 := hT6.frozen (1 + r * 6 + 4)
  have f5 := hT6.frozen (1 + r * 6 + 5)
  have hS7 : Fr (fun j => j = b) W1 (setC w6 b r x) := hF6.trans (fr_setC w6 b r x)
  have HO : Hid (TaAt (setC w6 b r x) b (putC T r (addC (T r) c))) := hidIn (by rw [HX.out]; exact hT6.set hr25 x)
  have HFr : Hid (Fr (fun j => j = b) w (setC w6 b r x)) := hidIn (HF1.out.trans hS7)
  clear hT6
  refine AllReadyH.cons rfl (fun K hK => ?_) AllReadyH.nil
  go_simp
  unfold setC at hS7 HO HFr
  generalize (((((World.setCell _ _ _).setCell _ _).setCell _ _).setCell _ _).setCell _ _).setCell _ _ = W7 at hS7 HO HFr ⊢
  refine hK.out _ _ hS7 (fun _ => ?_)
  clear hK K hF6 hS7 t0 t1 t2 t3 t4 t5 f0 f1 f2 f3 f4 f5 hHeld
  refine wpAnyH_done (by kernel_rfl) ?_ _
  go_wp2_with fail
  go_ret
  exact ⟨rfl, HO.out, HFr.out⟩
end Go.Proofs.Ytkkkjpdmjgafoaa
