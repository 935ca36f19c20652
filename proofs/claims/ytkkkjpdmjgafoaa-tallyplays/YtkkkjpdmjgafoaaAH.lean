/- The document's sum, Added, Router, New, Of. -/
import Derived.Test.YtkkkjpdmjgafoaaA8
import Derived.Test.YtkkkjpdmjgafoaaRT
namespace Go.Proofs.Ytkkkjpdmjgafoaa
open Go.RowKit

theorem dsum_any {a b : Nat} (ha : a < 18446744073709551616) (hb : b < 18446744073709551616) (w : World) : Calls Try.prog 33 #[.int .u64 a, .int .u64 b] w fun e w' => e = .returned (.int .u64 (sadd a b)) ∧ w' = w := by
  by_cases ho : 18446744073709551616 ≤ a + b
  · have hs : sadd a b = 18446744073709551615 := if_pos ho
    have hw : IntKind.u64.wrap ((a : Int) + (b : Int)) = ((a + b - 18446744073709551616 : Nat) : Int) := wrap_over ha hb ho
    have hlt : ((a + b - 18446744073709551616 : Nat) : Int) < (a : Int) := by omega
    rw [hs]
    have HO := hidIn ho
    clear ho hs
    go_enter Try.func33, Try.ntmps33
    go_wp2
    go_ret
    exact ⟨rfl, rfl⟩
  · have hs : sadd a b = a + b := if_neg ho
    have hw : IntKind.u64.wrap ((a : Int) + (b : Int)) = ((a + b : Nat) : Int) := wrap_in ho
    have hlt : ¬ ((a + b : Nat) : Int) < (a : Int) := by omega
    rw [hs]
    have HO := hidIn ho
    clear ho hs
    go_enter Try.func33, Try.ntmps33
    go_wp2
    go_ret
    exact ⟨rfl, rfl⟩
theorem drouter_yes {n : Int} (h1 : 1 ≤ n) (h2 : n ≤ 24) (w : World) : Calls Try.prog 17 #[.int .i64 n] w fun e w' => e = .returned (.bool true) ∧ w' = w := by
  go_enter Try.func17, Try.ntmps17
  go_wp2
  go_ret
  exact ⟨rfl, rfl⟩
theorem drouter_no {n : Int} (h : ¬ (1 ≤ n ∧ n ≤ 24)) (w : World) : Calls Try.prog 17 #[.int .i64 n] w fun e w' => e = .returned (.bool false) ∧ w' = w := by
  by_cases h1 : 1 ≤ n
  · have h2 : ¬ n ≤ 24 := fun e => h ⟨h1, e⟩
    clear h
    go_enter Try.func17, Try.ntmps17
    go_wp2
    go_ret
    exact ⟨rfl, rfl⟩
  · clear h
    go_enter Try.func17, Try.ntmps17
    go_wp2
    go_ret
    exact ⟨rfl, rfl⟩
set_option maxRecDepth 100000 in
set_option maxHeartbeats 2000000 in
theorem dadded_any {a b : Cn} (ha : OkC a) (hb : OkC b) (w : World) : Calls Try.prog 27 #[cV a, cV b] w fun e w' => e = .returned (cV (addC a b)) ∧ Below w.heap.size w w' := by
  obtain ⟨W1, hW1⟩ : ∃ W1, ((w.alloc (cO a)).alloc (cO b)).alloc (cO0) = W1 := ⟨_, rfl⟩
  have b1 : Below w.heap.size w W1 := by rw [← hW1]; exact (((Below.refl _ w).alloc (Nat.le_refl _) _).alloc (by simp) _).alloc (by simp; omega) _
  have hA : W1.heap[w.heap.size]? = some (cO a) := by
    rw [← hW1, Below.heap_alloc _ _ _ (by simp; omega), Below.heap_alloc _ _ _ (by simp)]
    exact heap_alloc_last w _
  have hB : W1.heap[w.heap.size + 1]? = some (cO b) := by
    rw [← hW1, Below.heap_alloc _ _ _ (by simp)]
    have := heap_alloc_last (w.alloc (cO a)) (cO b)
    rwa [World.size_alloc] at this
  have hC : W1.heap[w.heap.size + 1 + 1]? = some (cO0) := by
    rw [← hW1]
    have := heap_alloc_last ((w.alloc (cO a)).alloc (cO b)) (cO0)
    rwa [World.size_alloc, World.size_alloc] at this
  obtain ⟨q, hq⟩ : ∃ q, w.heap.size = q := ⟨_, rfl⟩
  have Hq := hidIn hq
  rw [hq] at hA hB hC
  have HC := hidIn hC
  have HB1 := hidIn b1
  have HS0 := hidIn (fun wx => dsum_any (ha 0) (hb 0) wx)
  obtain ⟨s0, hs0⟩ : ∃ s, sadd (a 0) (b 0) = s := ⟨_, rfl⟩
  rw [hs0] at HS0
  have HS1 := hidIn (fun wx => dsum_any (ha 1) (hb 1) wx)
  obtain ⟨s1, hs1⟩ : ∃ s, sadd (a 1) (b 1) = s := ⟨_, rfl⟩
  rw [hs1] at HS1
  have HS2 := hidIn (fun wx => dsum_any (ha 2) (hb 2) wx)
  obtain ⟨s2, hs2⟩ : ∃ s, sadd (a 2) (b 2) = s := ⟨_, rfl⟩
  rw [hs2] at HS2
  have HS3 := hidIn (fun wx => dsum_any (ha 3) (hb 3) wx)
  obtain ⟨s3, hs3⟩ : ∃ s, sadd (a 3) (b 3) = s := ⟨_, rfl⟩
  rw [hs3] at HS3
  have HS4 := hidIn (fun wx => dsum_any (ha 4) (hb 4) wx)
  obtain ⟨s4, hs4⟩ : ∃ s, sadd (a 4) (b 4) = s := ⟨_, rfl⟩
  rw [hs4] at HS4
  have HS5 := hidIn (fun wx => dsum_any (ha 5) (hb 5) wx)
  obtain ⟨s5, hs5⟩ : ∃ s, sadd (a 5) (b 5) = s := ⟨_, rfl⟩
  rw [hs5] at HS5
  have hR : cV (addC a b) = .agg #[.int .u64 s0, .int .u64 s1, .int .u64 s2, .int .u64 s3, .int .u64 s4, .int .u64 s5] := by rw [← hs0, ← hs1, ← hs2, ← hs3, ← hs4, ← hs5]; rfl
  rw [hR]
  have HCl : Hid (∀ wq, Fr (fun j => j = q + 1 + 1) W1 wq → wq.cell? ⟨q, 0, none⟩ = some (.int .u64 (a 0)) ∧ wq.cell? ⟨q, 1, none⟩ = some (.int .u64 (a 1)) ∧ wq.cell? ⟨q, 2, none⟩ = some (.int .u64 (a 2)) ∧ wq.cell? ⟨q, 3, none⟩ = some (.int .u64 (a 3)) ∧ wq.cell? ⟨q, 4, none⟩ = some (.int .u64 (a 4)) ∧ wq.cell? ⟨q, 5, none⟩ = some (.int .u64 (a 5)) ∧ wq.cell? ⟨q + 1, 0, none⟩ = some (.int .u64 (b 0)) ∧ wq.cell? ⟨q + 1, 1, none⟩ = some (.int .u64 (b 1)) ∧ wq.cell? ⟨q + 1, 2, none⟩ = some (.int .u64 (b 2)) ∧ wq.cell? ⟨q + 1, 3, none⟩ = some (.int .u64 (b 3)) ∧ wq.cell? ⟨q + 1, 4, none⟩ = some (.int .u64 (b 4)) ∧ wq.cell? ⟨q + 1, 5, none⟩ = some (.int .u64 (b 5))) := hidIn fun wq h => by
    have j := (h.block _ (block_lt hA) (by omega)).trans hA
    have k := (h.block _ (block_lt hB) (by omega)).trans hB
    exact ⟨cell_of_row _ _ 0 _ _ _ j, cell_of_row _ _ 1 _ _ _ j, cell_of_row _ _ 2 _ _ _ j, cell_of_row _ _ 3 _ _ _ j, cell_of_row _ _ 4 _ _ _ j, cell_of_row _ _ 5 _ _ _ j, cell_of_row _ _ 0 _ _ _ k, cell_of_row _ _ 1 _ _ _ k, cell_of_row _ _ 2 _ _ _ k, cell_of_row _ _ 3 _ _ _ k, cell_of_row _ _ 4 _ _ _ k, cell_of_row _ _ 5 _ _ _ k⟩
  have HW := hidIn hW1
  clear hW1 b1 hA hB hC hR ha hb
  go_enter Try.func27, Try.ntmps27
  go_upto_region 1 with fail
  rw [HW.out]
  clear HW hq hs0 hs1 hs2 hs3 hs4 hs5
  refine wp_region_held_drew (S := fun wx => Fr (fun j => j = q + 1 + 1) W1 wx) (by kernel_rfl) ((Fr.refl _ W1).drew) (fun hHeld => ?_)
  have hd0 : Fr (fun j => j = q + 1 + 1) W1 W1.drew := hHeld
  have hb0 : Below W1.heap.size W1 W1.drew := (Below.refl _ W1).drew
  obtain ⟨wd, hwd⟩ : ∃ wd, W1.drew = wd := ⟨_, rfl⟩
  rw [hwd] at hd0 hb0 ⊢
  clear hwd hHeld
  refine wpAnyH_take (i := 0) (v := .pointer (some ⟨q, 0, none⟩)) rfl (by kernel_rfl) (by kernel_rfl) (by kernel_rfl) (fun _ _ _ h => h) (Or.inl ⟨by kernel_rfl, fun _ _ => by kernel_rfl⟩) (by assumption) ?_
  refine wpAnyH_take (i := 1) (v := .int .u64 (a 0)) rfl (by kernel_rfl) (by kernel_rfl) (by kernel_rfl) (fun _ _ _ h => h) (Or.inl ⟨by kernel_rfl, fun wq hSw => by
    obtain ⟨u0, u1, u2, u3, u4, u5, y0, y1, y2, y3, y4, y5⟩ := HCl.out wq hSw
    go_simp⟩) (by assumption) ?_
  refine wpAnyH_take (i := 2) (v := .pointer (some ⟨q + 1, 0, none⟩)) rfl (by kernel_rfl) (by kernel_rfl) (by kernel_rfl) (fun _ _ _ h => h) (Or.inl ⟨by kernel_rfl, fun _ _ => by kernel_rfl⟩) (by assumption) ?_
  refine wpAnyH_take (i := 3) (v := .int .u64 (b 0)) rfl (by kernel_rfl) (by kernel_rfl) (by kernel_rfl) (fun _ _ _ h => h) (Or.inl ⟨by kernel_rfl, fun wq hSw => by
    obtain ⟨u0, u1, u2, u3, u4, u5, y0, y1, y2, y3, y4, y5⟩ := HCl.out wq hSw
    go_simp⟩) (by assumption) ?_
  refine wpAnyH_take (i := 5) (v := .pointer (some ⟨q, 1, none⟩)) rfl (by kernel_rfl) (by kernel_rfl) (by kernel_rfl) (fun _ _ _ h => h) (Or.inl ⟨by kernel_rfl, fun _ _ => by kernel_rfl⟩) (by assumption) ?_
  refine wpAnyH_take (i := 6) (v := .int .u64 (a 1)) rfl (by kernel_rfl) (by kernel_rfl) (by kernel_rfl) (fun _ _ _ h => h) (Or.inl ⟨by kernel_rfl, fun wq hSw => by
    obtain ⟨u0, u1, u2, u3, u4, u5, y0, y1, y2, y3, y4, y5⟩ := HCl.out wq hSw
    go_simp⟩) (by assumption) ?_
  refine wpAnyH_take (i := 7) (v := .pointer (some ⟨q + 1, 1, none⟩)) rfl (by kernel_rfl) (by kernel_rfl) (by kernel_rfl) (fun _ _ _ h => h) (Or.inl ⟨by kernel_rfl, fun _ _ => by kernel_rfl⟩) (by assumption) ?_
  refine wpAnyH_take (i := 8) (v := .int .u64 (b 1)) rfl (by kernel_rfl) (by kernel_rfl) (by kernel_rfl) (fun _ _ _ h => h) (Or.inl ⟨by kernel_rfl, fun wq hSw => by
    obtain ⟨u0, u1, u2, u3, u4, u5, y0, y1, y2, y3, y4, y5⟩ := HCl.out wq hSw
    go_simp⟩) (by assumption) ?_
  refine wpAnyH_take (i := 10) (v := .pointer (some ⟨q, 2, none⟩)) rfl (by kernel_rfl) (by kernel_rfl) (by kernel_rfl) (fun _ _ _ h => h) (Or.inl ⟨by kernel_rfl, fun _ _ => by kernel_rfl⟩) (by assumption) ?_
  refine wpAnyH_take (i := 11) (v := .int .u64 (a 2)) rfl (by kernel_rfl) (by kernel_rfl) (by kernel_rfl) (fun _ _ _ h => h) (Or.inl ⟨by kernel_rfl, fun wq hSw => by
    obtain ⟨u0, u1, u2, u3, u4, u5, y0, y1, y2, y3, y4, y5⟩ := HCl.out wq hSw
    go_simp⟩) (by assumption) ?_
  refine wpAnyH_take (i := 12) (v := .pointer (some ⟨q + 1, 2, none⟩)) rfl (by kernel_rfl) (by kernel_rfl) (by kernel_rfl) (fun _ _ _ h => h) (Or.inl ⟨by kernel_rfl, fun _ _ => by kernel_rfl⟩) (by assumption) ?_
  refine wpAnyH_take (i := 13) (v := .int .u64 (b 2)) rfl (by kernel_rfl) (by kernel_rfl) (by kernel_rfl) (fun _ _ _ h => h) (Or.inl ⟨by kernel_rfl, fun wq hSw => by
    obtain ⟨u0, u1, u2, u3, u4, u5, y0, y1, y2, y3, y4, y5⟩ := HCl.out wq hSw
    go_simp⟩) (by assumption) ?_
  refine wpAnyH_take (i := 15) (v := .pointer (some ⟨q, 3, none⟩)) rfl (by kernel_rfl) (by kernel_rfl) (by kernel_rfl) (fun _ _ _ h => h) (Or.inl ⟨by kernel_rfl, fun _ _ => by kernel_rfl⟩) (by assumption) ?_
  refine wpAnyH_take (i := 16) (v := .int .u64 (a 3)) rfl (by kernel_rfl) (by kernel_rfl) (by kernel_rfl) (fun _ _ _ h => h) (Or.inl ⟨by kernel_rfl, fun wq hSw => by
    obtain ⟨u0, u1, u2, u3, u4, u5, y0, y1, y2, y3, y4, y5⟩ := HCl.out wq hSw
    go_simp⟩) (by assumption) ?_
  refine wpAnyH_take (i := 17) (v := .pointer (some ⟨q + 1, 3, none⟩)) rfl (by kernel_rfl) (by kernel_rfl) (by kernel_rfl) (fun _ _ _ h => h) (Or.inl ⟨by kernel_rfl, fun _ _ => by kernel_rfl⟩) (by assumption) ?_
  refine wpAnyH_take (i := 18) (v := .int .u64 (b 3)) rfl (by kernel_rfl) (by kernel_rfl) (by kernel_rfl) (fun _ _ _ h => h) (Or.inl ⟨by kernel_rfl, fun wq hSw => by
    obtain ⟨u0, u1, u2, u3, u4, u5, y0, y1, y2, y3, y4, y5⟩ := HCl.out wq hSw
    go_simp⟩) (by assumption) ?_
  refine wpAnyH_take (i := 20) (v := .pointer (some ⟨q, 4, none⟩)) rfl (by kernel_rfl) (by kernel_rfl) (by kernel_rfl) (fun _ _ _ h => h) (Or.inl ⟨by kernel_rfl, fun _ _ => by kernel_rfl⟩) (by assumption) ?_
  refine wpAnyH_take (i := 21) (v := .int .u64 (a 4)) rfl (by kernel_rfl) (by kernel_rfl) (by kernel_rfl) (fun _ _ _ h => h) (Or.inl ⟨by kernel_rfl, fun wq hSw => by
    obtain ⟨u0, u1, u2, u3, u4, u5, y0, y1, y2, y3, y4, y5⟩ := HCl.out wq hSw
    go_simp⟩) (by assumption) ?_
  refine wpAnyH_take (i := 22) (v := .pointer (some ⟨q + 1, 4, none⟩)) rfl (by kernel_rfl) (by kernel_rfl) (by kernel_rfl) (fun _ _ _ h => h) (Or.inl ⟨by kernel_rfl, fun _ _ => by kernel_rfl⟩) (by assumption) ?_
  refine wpAnyH_take (i := 23) (v := .int .u64 (b 4)) rfl (by kernel_rfl) (by kernel_rfl) (by kernel_rfl) (fun _ _ _ h => h) (Or.inl ⟨by kernel_rfl, fun wq hSw => by
    obtain ⟨u0, u1, u2, u3, u4, u5, y0, y1, y2, y3, y4, y5⟩ := HCl.out wq hSw
    go_simp⟩) (by assumption) ?_
  refine wpAnyH_take (i := 25) (v := .pointer (some ⟨q, 5, none⟩)) rfl (by kernel_rfl) (by kernel_rfl) (by kernel_rfl) (fun _ _ _ h => h) (Or.inl ⟨by kernel_rfl, fun _ _ => by kernel_rfl⟩) (by assumption) ?_
  refine wpAnyH_take (i := 26) (v := .int .u64 (a 5)) rfl (by kernel_rfl) (by kernel_rfl) (by kernel_rfl) (fun _ _ _ h => h) (Or.inl ⟨by kernel_rfl, fun wq hSw => by
    obtain ⟨u0, u1, u2, u3, u4, u5, y0, y1, y2, y3, y4, y5⟩ := HCl.out wq hSw
    go_simp⟩) (by assumption) ?_
  refine wpAnyH_take (i := 27) (v := .pointer (some ⟨q + 1, 5, none⟩)) rfl (by kernel_rfl) (by kernel_rfl) (by kernel_rfl) (fun _ _ _ h => h) (Or.inl ⟨by kernel_rfl, fun _ _ => by kernel_rfl⟩) (by assumption) ?_
  refine wpAnyH_take (i := 28) (v := .int .u64 (b 5)) rfl (by kernel_rfl) (by kernel_rfl) (by kernel_rfl) (fun _ _ _ h => h) (Or.inl ⟨by kernel_rfl, fun wq hSw => by
    obtain ⟨u0, u1, u2, u3, u4, u5, y0, y1, y2, y3, y4, y5⟩ := HCl.out wq hSw
    go_simp⟩) (by assumption) ?_
  refine wpAnyH_ready (rs := [4]) (by kernel_rfl) (by simp) ?_
  refine AllReadyH.cons (i := 4) rfl ?_ AllReadyH.nil
  go_simp
  intro K hK
  refine (HS0.out wd).mono ?_
  rintro e wk ⟨rfl, hwk⟩
  rw [hwk]
  refine hK.out _ _ hd0 (fun _ => ?_)
  clear hK K hwk wk
  refine wpAnyH_ready (rs := [9]) (by kernel_rfl) (by simp) ?_
  refine AllReadyH.cons (i := 9) rfl ?_ AllReadyH.nil
  go_simp
  intro K hK
  refine (HS1.out wd).mono ?_
  rintro e wk ⟨rfl, hwk⟩
  rw [hwk]
  refine hK.out _ _ hd0 (fun _ => ?_)
  clear hK K hwk wk
  refine wpAnyH_ready (rs := [14]) (by kernel_rfl) (by simp) ?_
  refine AllReadyH.cons (i := 14) rfl ?_ AllReadyH.nil
  go_simp
  intro K hK
  refine (HS2.out wd).mono ?_
  rintro e wk ⟨rfl, hwk⟩
  rw [hwk]
  refine hK.out _ _ hd0 (fun _ => ?_)
  clear hK K hwk wk
  refine wpAnyH_ready (rs := [19]) (by kernel_rfl) (by simp) ?_
  refine AllReadyH.cons (i := 19) rfl ?_ AllReadyH.nil
  go_simp
  intro K hK
  refine (HS3.out wd).mono ?_
  rintro e wk ⟨rfl, hwk⟩
  rw [hwk]
  refine hK.out _ _ hd0 (fun _ => ?_)
  clear hK K hwk wk
  refine wpAnyH_ready (rs := [24]) (by kernel_rfl) (by simp) ?_
  refine AllReadyH.cons (i := 24) rfl ?_ AllReadyH.nil
  go_simp
  intro K hK
  refine (HS4.out wd).mono ?_
  rintro e wk ⟨rfl, hwk⟩
  rw [hwk]
  refine hK.out _ _ hd0 (fun _ => ?_)
  clear hK K hwk wk
  refine wpAnyH_ready (rs := [29]) (by kernel_rfl) (by simp) ?_
  refine AllReadyH.cons (i := 29) rfl ?_ AllReadyH.nil
  go_simp
  intro K hK
  refine (HS5.out wd).mono ?_
  rintro e wk ⟨rfl, hwk⟩
  rw [hwk]
  refine hK.out _ _ hd0 (fun _ => ?_)
  clear hK K hwk wk
  refine wpAnyH_take (i := 30) (v := .agg #[.int .u64 s0, .int .u64 s1, .int .u64 s2, .int .u64 s3, .int .u64 s4, .int .u64 s5]) rfl (by kernel_rfl) (by kernel_rfl) (by kernel_rfl) (fun _ _ _ h => h) (Or.inl ⟨by kernel_rfl, fun _ _ => by kernel_rfl⟩) (by assumption) ?_
  have hz := (hb0.block _ (block_lt HC.out)).trans HC.out
  have hl : (loadVar 37 ⟨q + 1 + 1, 0, none⟩).run Try.prog (setK wd (q + 1 + 1) (fun k => [s0, s1, s2, s3, s4, s5].getD k 0)) = .ok (cV (fun k => [s0, s1, s2, s3, s4, s5].getD k 0)) _ := load_c (setK_block (x := noC) hz _)
  have hF : Fr (fun j => j = q + 1 + 1) W1 (setK wd (q + 1 + 1) (fun k => [s0, s1, s2, s3, s4, s5].getD k 0)) := hd0.trans ((((((fr_one wd (q + 1 + 1) _ _).trans (fr_one _ (q + 1 + 1) _ _)).trans (fr_one _ (q + 1 + 1) _ _)).trans (fr_one _ (q + 1 + 1) _ _)).trans (fr_one _ (q + 1 + 1) _ _)).trans (fr_one _ (q + 1 + 1) _ _))
  have hfin : Below w.heap.size w (setK wd (q + 1 + 1) (fun k => [s0, s1, s2, s3, s4, s5].getD k 0)) := HB1.out.trans (hF.below HB1.out.size (fun j hj => by have := Hq.out; omega))
  have z0 := cell_of_row _ _ 0 _ _ _ hz
  have z1 := cell_of_row _ _ 1 _ _ _ hz
  have z2 := cell_of_row _ _ 2 _ _ _ hz
  have z3 := cell_of_row _ _ 3 _ _ _ hz
  have z4 := cell_of_row _ _ 4 _ _ _ hz
  have z5 := cell_of_row _ _ 5 _ _ _ hz
  simp at z0 z1 z2 z3 z4 z5
  have fz0 := frozen_new hz 0
  have fz1 := frozen_new hz 1
  have fz2 := frozen_new hz 2
  have fz3 := frozen_new hz 3
  have fz4 := frozen_new hz 4
  have fz5 := frozen_new hz 5
  clear hz
  refine wpAnyH_ready (rs := [31]) (by kernel_rfl) (by simp) ?_
  refine AllReadyH.cons (i := 31) rfl ?_ AllReadyH.nil
  go_simp
  intro K hK
  refine hK.out _ _ hF (fun _ => ?_)
  clear hK K z0 fz0 z1 fz1 z2 fz2 z3 fz3 z4 fz4 z5 fz5
  refine wpAnyH_done (by kernel_rfl) ?_ _
  go_wp2_with fail
  refine bodyPost_ret (v := .agg #[.int .u64 s0, .int .u64 s1, .int .u64 s2, .int .u64 s3, .int .u64 s4, .int .u64 s5]) (by simp [results, Try.results27, asAddr]; exact hl) rfl ⟨rfl, hfin⟩
set_option maxRecDepth 100000 in
set_option maxHeartbeats 2000000 in
theorem dof_any (L : Bool) (a : Option Addr) (n c : Nat) (hn : n < 9223372036854775808) (N M : Nat) (w : World) :
    Calls Try.prog 10 #[dnV L (.slice a n c) N M] w fun e w' => e = .returned (cV (stepC L n (Bi.cntTo 256 N) (Bi.cntTo 256 M))) ∧ Below w.heap.size w w' := by
  have HC1 : Hid (∀ wx : World, Calls Try.prog 25 #[Bi.bs N] wx fun e w' => e = .returned (.int .i64 (Bi.cntTo 256 N)) ∧ Below wx.heap.size wx w') := hidIn (fun wx => Bi.rcount_any N wx)
  have HC2 : Hid (∀ wx : World, Calls Try.prog 25 #[Bi.bs M] wx fun e w' => e = .returned (.int .i64 (Bi.cntTo 256 M)) ∧ Below wx.heap.size wx w') := hidIn (fun wx => Bi.rcount_any M wx)
  have hx := Bi.cntTo_le 256 N
  have hy := Bi.cntTo_le 256 M
  unfold Bi.bs at HC1 HC2
  obtain ⟨x, hxx⟩ : ∃ x, Bi.cntTo 256 N = x := ⟨_, rfl⟩
  obtain ⟨y, hyy⟩ : ∃ y, Bi.cntTo 256 M = y := ⟨_, rfl⟩
  rw [hxx] at hx HC1 ⊢
  rw [hyy] at hy HC2 ⊢
  clear hxx hyy
  obtain ⟨n0, hn0⟩ : ∃ z, Bi.wd N 0 = z := ⟨_, rfl⟩
  obtain ⟨n1, hn1⟩ : ∃ z, Bi.wd N 1 = z := ⟨_, rfl⟩
  obtain ⟨n2, hn2⟩ : ∃ z, Bi.wd N 2 = z := ⟨_, rfl⟩
  obtain ⟨n3, hn3⟩ : ∃ z, Bi.wd N 3 = z := ⟨_, rfl⟩
  obtain ⟨m0, hm0⟩ : ∃ z, Bi.wd M 0 = z := ⟨_, rfl⟩
  obtain ⟨m1, hm1⟩ : ∃ z, Bi.wd M 1 = z := ⟨_, rfl⟩
  obtain ⟨m2, hm2⟩ : ∃ z, Bi.wd M 2 = z := ⟨_, rfl⟩
  obtain ⟨m3, hm3⟩ : ∃ z, Bi.wd M 3 = z := ⟨_, rfl⟩
  unfold dnV
  rw [hn0, hn1, hn2, hn3] at HC1 ⊢
  rw [hm0, hm1, hm2, hm3] at HC2 ⊢
  clear hn0 hn1 hn2 hn3 hm0 hm1 hm2 hm3
  have wn : IntKind.u64.wrap (n : Int) = (n : Int) := by rw [IntKind.wrap_u64]; omega
  have wx : IntKind.u64.wrap (x : Int) = (x : Int) := by rw [IntKind.wrap_u64]; omega
  have wy : IntKind.u64.wrap (y : Int) = (y : Int) := by rw [IntKind.wrap_u64]; omega
  obtain ⟨W1, hW1⟩ : ∃ W1, (w.alloc (.cells #[.bool L, .slice a n c, .int .u64 n0, .int .u64 n1, .int .u64 n2, .int .u64 n3, .int .u64 m0, .int .u64 m1, .int .u64 m2, .int .u64 m3] 32)).alloc cO0 = W1 := ⟨_, rfl⟩
  have bA : Below w.heap.size w W1 := by rw [← hW1]; exact ((Below.refl _ w).alloc (Nat.le_refl _) _).alloc (by simp) _
  have hK : W1.heap[w.heap.size]? = some (.cells #[.bool L, .slice a n c, .int .u64 n0, .int .u64 n1, .int .u64 n2, .int .u64 n3, .int .u64 m0, .int .u64 m1, .int .u64 m2, .int .u64 m3] 32) := by rw [← hW1, Below.heap_alloc _ _ _ (by simp)]; exact heap_alloc_last w _
  have hR : W1.heap[w.heap.size + 1]? = some cO0 := by
    rw [← hW1]
    have := heap_alloc_last (w.alloc (.cells #[.bool L, .slice a n c, .int .u64 n0, .int .u64 n1, .int .u64 n2, .int .u64 n3, .int .u64 m0, .int .u64 m1, .int .u64 m2, .int .u64 m3] 32)) cO0
    rwa [World.size_alloc] at this
  obtain ⟨q, hq⟩ : ∃ q, w.heap.size = q := ⟨_, rfl⟩
  rw [hq] at hK hR
  have Hq := hidIn hq
  have HW := hidIn hW1
  have HB1 := hidIn bA
  have HR := hidIn hR
  have Hlt := hidIn (block_lt hR)
  have HCl : Hid (∀ wq, Below W1.heap.size W1 wq → wq.cell? ⟨q, 0, none⟩ = some (.bool L) ∧ wq.cell? ⟨q, 1, none⟩ = some (.slice a n c) ∧ wq.cell? ⟨q, 2, none⟩ = some (.int .u64 n0) ∧ wq.cell? ⟨q, 3, none⟩ = some (.int .u64 n1) ∧ wq.cell? ⟨q, 4, none⟩ = some (.int .u64 n2) ∧ wq.cell? ⟨q, 5, none⟩ = some (.int .u64 n3) ∧ wq.cell? ⟨q, 6, none⟩ = some (.int .u64 m0) ∧ wq.cell? ⟨q, 7, none⟩ = some (.int .u64 m1) ∧ wq.cell? ⟨q, 8, none⟩ = some (.int .u64 m2) ∧ wq.cell? ⟨q, 9, none⟩ = some (.int .u64 m3)) := hidIn fun wq h => by
    have j := (h.block _ (block_lt hK)).trans hK
    exact ⟨cell_of_row _ _ 0 _ _ _ j, cell_of_row _ _ 1 _ _ _ j, cell_of_row _ _ 2 _ _ _ j, cell_of_row _ _ 3 _ _ _ j, cell_of_row _ _ 4 _ _ _ j, cell_of_row _ _ 5 _ _ _ j, cell_of_row _ _ 6 _ _ _ j, cell_of_row _ _ 7 _ _ _ j, cell_of_row _ _ 8 _ _ _ j, cell_of_row _ _ 9 _ _ _ j⟩
  clear hK hR hW1 bA
  go_enter Try.func10, Try.ntmps10
  go_upto_region 1 with fail
  rw [HW.out]
  clear HW hq
  go_cut [3] (fun p wx => ∃ g, p = .pointer (some ⟨g, 0, none⟩) ∧ Hid (W1.heap.size ≤ g ∧ wx.heap[g]? = some (.cells #[.int .u64 1, .int .u64 0, .int .u64 n, .int .u64 x, .int .u64 y, .int .u64 0] 37) ∧ Below W1.heap.size W1 wx))
  case first =>
    refine wp_region_held_drew (S := fun wx => Below W1.heap.size W1 wx) (by kernel_rfl) ((Below.refl _ W1).drew) (fun hHeld => ?_)
    have hd0 : Below W1.heap.size W1 W1.drew := hHeld
    obtain ⟨wd, hwd⟩ : ∃ wd, W1.drew = wd := ⟨_, rfl⟩
    rw [hwd] at hd0 ⊢
    clear hwd hHeld
    refine wpAnyH_take (i := 0) (v := .pointer (some ⟨q, 1, none⟩)) rfl (by kernel_rfl) (by kernel_rfl) (by kernel_rfl) (fun _ _ _ h => h) (Or.inl ⟨by kernel_rfl, fun _ _ => by kernel_rfl⟩) (by assumption) ?_
    refine wpAnyH_take (i := 1) (v := .slice a n c) rfl (by kernel_rfl) (by kernel_rfl) (by kernel_rfl) (fun _ _ _ h => h) (Or.inl ⟨by kernel_rfl, fun wq hSw => by
      obtain ⟨u0, u1, u2, u3, u4, u5, u6, u7, u8, u9⟩ := HCl.out wq hSw
      go_simp⟩) (by assumption) ?_
    refine wpAnyH_take (i := 2) (v := .int .i64 n) rfl (by kernel_rfl) (by kernel_rfl) (by kernel_rfl) (fun _ _ _ h => h) (Or.inl ⟨by kernel_rfl, fun _ _ => by kernel_rfl⟩) (by assumption) ?_
    refine wpAnyH_take (i := 3) (v := .int .u64 n) rfl (by kernel_rfl) (by kernel_rfl) (by kernel_rfl) (fun _ _ _ h => h) (Or.inl ⟨by kernel_rfl, fun _ _ => by go_simp⟩) (by assumption) ?_
    refine wpAnyH_take (i := 4) (v := .pointer (some ⟨q, 2, none⟩)) rfl (by kernel_rfl) (by kernel_rfl) (by kernel_rfl) (fun _ _ _ h => h) (Or.inl ⟨by kernel_rfl, fun _ _ => by kernel_rfl⟩) (by assumption) ?_
    refine wpAnyH_take (i := 5) (v := .agg #[.int .u64 n0, .int .u64 n1, .int .u64 n2, .int .u64 n3]) rfl (by kernel_rfl) (by kernel_rfl) (by kernel_rfl) (fun _ _ _ h => h) (Or.inl ⟨by kernel_rfl, fun wq hSw => by
      obtain ⟨u0, u1, u2, u3, u4, u5, u6, u7, u8, u9⟩ := HCl.out wq hSw
      go_simp⟩) (by assumption) ?_
    refine wpAnyH_take (i := 8) (v := .pointer (some ⟨q, 6, none⟩)) rfl (by kernel_rfl) (by kernel_rfl) (by kernel_rfl) (fun _ _ _ h => h) (Or.inl ⟨by kernel_rfl, fun _ _ => by kernel_rfl⟩) (by assumption) ?_
    refine wpAnyH_take (i := 9) (v := .agg #[.int .u64 m0, .int .u64 m1, .int .u64 m2, .int .u64 m3]) rfl (by kernel_rfl) (by kernel_rfl) (by kernel_rfl) (fun _ _ _ h => h) (Or.inl ⟨by kernel_rfl, fun wq hSw => by
      obtain ⟨u0, u1, u2, u3, u4, u5, u6, u7, u8, u9⟩ := HCl.out wq hSw
      go_simp⟩) (by assumption) ?_
    refine wpAnyH_ready (rs := [6, 13]) (by kernel_rfl) (by simp) ?_
    refine AllReadyH.cons (i := 6) rfl ?_ ?_
    · go_simp
      intro K hK
      refine (HC1.out wd).mono ?_
      rintro e wk1 ⟨rfl, hx1⟩
      have hb1 := hd0.trans (hx1.mono hd0.size)
      refine hK.out _ _ hb1 (fun _ => ?_)
      clear hK K hx1
      refine wpAnyH_take (i := 7) (v := .int .u64 x) rfl (by kernel_rfl) (by kernel_rfl) (by kernel_rfl) (fun _ _ _ h => h) (Or.inl ⟨by kernel_rfl, fun _ _ => by go_simp⟩) (by assumption) ?_
      refine wpAnyH_ready (rs := [10, 13]) (by kernel_rfl) (by simp) ?_
      refine AllReadyH.cons (i := 10) rfl ?_ ?_
      · go_simp
        intro K hK
        refine (HC2.out wk1).mono ?_
        rintro e wk2 ⟨rfl, hx2⟩
        have hb2 := hb1.trans (hx2.mono hb1.size)
        refine hK.out _ _ hb2 (fun _ => ?_)
        clear hK K hx2
        refine wpAnyH_take (i := 11) (v := .int .u64 y) rfl (by kernel_rfl) (by kernel_rfl) (by kernel_rfl) (fun _ _ _ h => h) (Or.inl ⟨by kernel_rfl, fun _ _ => by go_simp⟩) (by assumption) ?_
        refine wpAnyH_take (i := 12) (v := .agg #[.int .u64 1, .int .u64 0, .int .u64 n, .int .u64 x, .int .u64 y, .int .u64 0]) rfl (by kernel_rfl) (by kernel_rfl) (by kernel_rfl) (fun _ _ _ h => h) (Or.inl ⟨by kernel_rfl, fun _ _ => by kernel_rfl⟩) (by assumption) ?_
        refine wpAnyH_ready (rs := [13]) (by kernel_rfl) (by simp) ?_
        refine AllReadyH.cons (i := 13) rfl ?_ AllReadyH.nil
        go_simp
        intro K hK
        have hb3 := hb2.alloc (show W1.heap.size ≤ _ from hb2.size) cO0
        have hz3 := heap_alloc_last wk2 cO0
        have hg : W1.heap.size ≤ wk2.heap.size := hb2.size
        obtain ⟨g, hgg⟩ : ∃ g, wk2.heap.size = g := ⟨_, rfl⟩
        rw [hgg] at hz3 hg ⊢
        generalize World.alloc _ _ = wa3 at hb3 hz3 ⊢
        clear hgg
        refine hK.out _ _ hb3 (fun _ => ?_)
        clear hK K
        have c0 := cell_of_row _ _ 0 _ _ _ hz3
        have c1 := cell_of_row _ _ 1 _ _ _ hz3
        have c2 := cell_of_row _ _ 2 _ _ _ hz3
        have c3 := cell_of_row _ _ 3 _ _ _ hz3
        have c4 := cell_of_row _ _ 4 _ _ _ hz3
        have c5 := cell_of_row _ _ 5 _ _ _ hz3
        have fz0 := frozen_new hz3 0
        have fz1 := frozen_new hz3 1
        have fz2 := frozen_new hz3 2
        have fz3 := frozen_new hz3 3
        have fz4 := frozen_new hz3 4
        have fz5 := frozen_new hz3 5
        simp at c0 c1 c2 c3 c4 c5
        have hO := setK_block (x := noC) hz3 (stepC false n x y)
        have hBO := below_setK (b := g) hb3 hg (stepC false n x y)
        refine wpAnyH_ready (rs := [14]) (by kernel_rfl) (by simp) ?_
        refine AllReadyH.cons (i := 14) rfl ?_ AllReadyH.nil
        go_simp
        intro K hK
        refine hK.out _ _ hBO (fun _ => ?_)
        clear hK K c0 c1 c2 c3 c4 c5 fz0 fz1 fz2 fz3 fz4 fz5
        refine wpAnyH_done (by kernel_rfl) ?_ _
        go_wp2_with fail
        go_meet
        exact ⟨g, rfl, hidIn ⟨hg, hO, hBO⟩⟩
      refine AllReadyH.cons (i := 13) rfl ?_ AllReadyH.nil
      go_simp
      intro K hK
      have hb2 := hb1.alloc (show W1.heap.size ≤ _ from hb1.size) cO0
      have hz2 := heap_alloc_last wk1 cO0
      have hg : W1.heap.size ≤ wk1.heap.size := hb1.size
      obtain ⟨g, hgg⟩ : ∃ g, wk1.heap.size = g := ⟨_, rfl⟩
      rw [hgg] at hz2 hg ⊢
      generalize World.alloc _ _ = wa2 at hb2 hz2 ⊢
      clear hgg
      refine hK.out _ _ hb2 (fun _ => ?_)
      clear hK K
      refine wpAnyH_ready (rs := [10]) (by kernel_rfl) (by simp) ?_
      refine AllReadyH.cons (i := 10) rfl ?_ AllReadyH.nil
      go_simp
      intro K hK
      refine (HC2.out wa2).mono ?_
      rintro e wk3 ⟨rfl, hx3⟩
      have hb3 := hb2.trans (hx3.mono hb2.size)
      have hz3 := (hx3.block _ (block_lt hz2)).trans hz2
      refine hK.out _ _ hb3 (fun _ => ?_)
      clear hK K hx3
      refine wpAnyH_take (i := 11) (v := .int .u64 y) rfl (by kernel_rfl) (by kernel_rfl) (by kernel_rfl) (fun _ _ _ h => h) (Or.inl ⟨by kernel_rfl, fun _ _ => by go_simp⟩) (by assumption) ?_
      refine wpAnyH_take (i := 12) (v := .agg #[.int .u64 1, .int .u64 0, .int .u64 n, .int .u64 x, .int .u64 y, .int .u64 0]) rfl (by kernel_rfl) (by kernel_rfl) (by kernel_rfl) (fun _ _ _ h => h) (Or.inl ⟨by kernel_rfl, fun _ _ => by kernel_rfl⟩) (by assumption) ?_
      have c0 := cell_of_row _ _ 0 _ _ _ hz3
      have c1 := cell_of_row _ _ 1 _ _ _ hz3
      have c2 := cell_of_row _ _ 2 _ _ _ hz3
      have c3 := cell_of_row _ _ 3 _ _ _ hz3
      have c4 := cell_of_row _ _ 4 _ _ _ hz3
      have c5 := cell_of_row _ _ 5 _ _ _ hz3
      have fz0 := frozen_new hz3 0
      have fz1 := frozen_new hz3 1
      have fz2 := frozen_new hz3 2
      have fz3 := frozen_new hz3 3
      have fz4 := frozen_new hz3 4
      have fz5 := frozen_new hz3 5
      simp at c0 c1 c2 c3 c4 c5
      have hO := setK_block (x := noC) hz3 (stepC false n x y)
      have hBO := below_setK (b := g) hb3 hg (stepC false n x y)
      refine wpAnyH_ready (rs := [14]) (by kernel_rfl) (by simp) ?_
      refine AllReadyH.cons (i := 14) rfl ?_ AllReadyH.nil
      go_simp
      intro K hK
      refine hK.out _ _ hBO (fun _ => ?_)
      clear hK K c0 c1 c2 c3 c4 c5 fz0 fz1 fz2 fz3 fz4 fz5
      refine wpAnyH_done (by kernel_rfl) ?_ _
      go_wp2_with fail
      go_meet
      exact ⟨g, rfl, hidIn ⟨hg, hO, hBO⟩⟩
    refine AllReadyH.cons (i := 13) rfl ?_ AllReadyH.nil
    go_simp
    intro K hK
    have hb1 := hd0.alloc (show W1.heap.size ≤ _ from hd0.size) cO0
    have hz1 := heap_alloc_last wd cO0
    have hg : W1.heap.size ≤ wd.heap.size := hd0.size
    obtain ⟨g, hgg⟩ : ∃ g, wd.heap.size = g := ⟨_, rfl⟩
    rw [hgg] at hz1 hg ⊢
    generalize World.alloc _ _ = wa1 at hb1 hz1 ⊢
    clear hgg
    refine hK.out _ _ hb1 (fun _ => ?_)
    clear hK K
    refine wpAnyH_ready (rs := [6]) (by kernel_rfl) (by simp) ?_
    refine AllReadyH.cons (i := 6) rfl ?_ AllReadyH.nil
    go_simp
    intro K hK
    refine (HC1.out wa1).mono ?_
    rintro e wk2 ⟨rfl, hx2⟩
    have hb2 := hb1.trans (hx2.mono hb1.size)
    have hz2 := (hx2.block _ (block_lt hz1)).trans hz1
    refine hK.out _ _ hb2 (fun _ => ?_)
    clear hK K hx2
    refine wpAnyH_take (i := 7) (v := .int .u64 x) rfl (by kernel_rfl) (by kernel_rfl) (by kernel_rfl) (fun _ _ _ h => h) (Or.inl ⟨by kernel_rfl, fun _ _ => by go_simp⟩) (by assumption) ?_
    refine wpAnyH_ready (rs := [10]) (by kernel_rfl) (by simp) ?_
    refine AllReadyH.cons (i := 10) rfl ?_ AllReadyH.nil
    go_simp
    intro K hK
    refine (HC2.out wk2).mono ?_
    rintro e wk3 ⟨rfl, hx3⟩
    have hb3 := hb2.trans (hx3.mono hb2.size)
    have hz3 := (hx3.block _ (block_lt hz2)).trans hz2
    refine hK.out _ _ hb3 (fun _ => ?_)
    clear hK K hx3
    refine wpAnyH_take (i := 11) (v := .int .u64 y) rfl (by kernel_rfl) (by kernel_rfl) (by kernel_rfl) (fun _ _ _ h => h) (Or.inl ⟨by kernel_rfl, fun _ _ => by go_simp⟩) (by assumption) ?_
    refine wpAnyH_take (i := 12) (v := .agg #[.int .u64 1, .int .u64 0, .int .u64 n, .int .u64 x, .int .u64 y, .int .u64 0]) rfl (by kernel_rfl) (by kernel_rfl) (by kernel_rfl) (fun _ _ _ h => h) (Or.inl ⟨by kernel_rfl, fun _ _ => by kernel_rfl⟩) (by assumption) ?_
    have c0 := cell_of_row _ _ 0 _ _ _ hz3
    have c1 := cell_of_row _ _ 1 _ _ _ hz3
    have c2 := cell_of_row _ _ 2 _ _ _ hz3
    have c3 := cell_of_row _ _ 3 _ _ _ hz3
    have c4 := cell_of_row _ _ 4 _ _ _ hz3
    have c5 := cell_of_row _ _ 5 _ _ _ hz3
    have fz0 := frozen_new hz3 0
    have fz1 := frozen_new hz3 1
    have fz2 := frozen_new hz3 2
    have fz3 := frozen_new hz3 3
    have fz4 := frozen_new hz3 4
    have fz5 := frozen_new hz3 5
    simp at c0 c1 c2 c3 c4 c5
    have hO := setK_block (x := noC) hz3 (stepC false n x y)
    have hBO := below_setK (b := g) hb3 hg (stepC false n x y)
    refine wpAnyH_ready (rs := [14]) (by kernel_rfl) (by simp) ?_
    refine AllReadyH.cons (i := 14) rfl ?_ AllReadyH.nil
    go_simp
    intro K hK
    refine hK.out _ _ hBO (fun _ => ?_)
    clear hK K c0 c1 c2 c3 c4 c5 fz0 fz1 fz2 fz3 fz4 fz5
    refine wpAnyH_done (by kernel_rfl) ?_ _
    go_wp2_with fail
    go_meet
    exact ⟨g, rfl, hidIn ⟨hg, hO, hBO⟩⟩
  case rest =>
    obtain ⟨g, rfl, HG⟩ := hcut
    obtain ⟨hg, hG, hB⟩ := HG.out
    obtain ⟨u0, _, _, _, _, _, _, _, _, _⟩ := HCl.out _ hB
    have hr := (hB.block _ Hlt.out).trans HR.out
    have HBe := hidIn (HB1.out.trans (hB.mono HB1.out.size))
    have hne : g ≠ q + 1 := by have := Hlt.out; omega
    have hqw : w.heap.size ≤ g := by have := HB1.out.size; omega
    have Hqw := hidIn hqw
    clear HG hB hg hqw HCl HC1 HC2 HB1 HR
    cases L with
    | false =>
      have c0 := cell_of_row _ _ 0 _ _ _ hG
      have c1 := cell_of_row _ _ 1 _ _ _ hG
      have c2 := cell_of_row _ _ 2 _ _ _ hG
      have c3 := cell_of_row _ _ 3 _ _ _ hG
      have c4 := cell_of_row _ _ 4 _ _ _ hG
      have c5 := cell_of_row _ _ 5 _ _ _ hG
      have r0 := cell_of_row _ _ 0 _ _ _ hr
      have r1 := cell_of_row _ _ 1 _ _ _ hr
      have r2 := cell_of_row _ _ 2 _ _ _ hr
      have r3 := cell_of_row _ _ 3 _ _ _ hr
      have r4 := cell_of_row _ _ 4 _ _ _ hr
      have r5 := cell_of_row _ _ 5 _ _ _ hr
      simp at c0 c1 c2 c3 c4 c5 r0 r1 r2 r3 r4 r5
      have f0 := frozen_new hr 0
      have f1 := frozen_new hr 1
      have f2 := frozen_new hr 2
      have f3 := frozen_new hr 3
      have f4 := frozen_new hr 4
      have f5 := frozen_new hr 5
      have HL := hidIn (load_c (setK_block (x := noC) hr (stepC false n x y)))
      have HBo := hidIn (below_setK (b := q + 1) HBe.out (by have := Hq.out; omega) (stepC false n x y))
      clear hr hG
      go_wp2_with fail
      have hl := HL.out
      unfold setK at hl
      refine bodyPost_ret (v := cV (stepC false n x y)) (by simp [results, Try.results10, asAddr]; exact hl) rfl ⟨rfl, HBo.out⟩
    | true =>
      have f9 := frozen_new hG 1
      have HG2 : Hid ((wc.setCell ⟨g, 1, none⟩ (.int .u64 1)).heap[g]? = some (.cells #[.int .u64 1, .int .u64 1, .int .u64 n, .int .u64 x, .int .u64 y, .int .u64 0] 37)) := hidIn (heap_setCell_same wc g 1 _ _ (.int .u64 1) hG)
      have HR2 : Hid ((wc.setCell ⟨g, 1, none⟩ (.int .u64 1)).heap[q + 1]? = some cO0) := hidIn ((Below.heap_setCell _ _ _ _ (fun e => hne e.symm)).trans hr)
      have HB2 : Hid (Below w.heap.size w (wc.setCell ⟨g, 1, none⟩ (.int .u64 1))) := hidIn (HBe.out.setCell Hqw.out _)
      have c1 := cell_of_row _ _ 1 _ _ _ hG
      simp at c1
      clear hr hG
      go_upto_region 4 with fail
      generalize World.setCell _ _ _ = W5 at HG2 HR2 HB2 ⊢
      have hr := HR2.out
      have c0 := cell_of_row _ _ 0 _ _ _ HG2.out
      have c1 := cell_of_row _ _ 1 _ _ _ HG2.out
      have c2 := cell_of_row _ _ 2 _ _ _ HG2.out
      have c3 := cell_of_row _ _ 3 _ _ _ HG2.out
      have c4 := cell_of_row _ _ 4 _ _ _ HG2.out
      have c5 := cell_of_row _ _ 5 _ _ _ HG2.out
      have r0 := cell_of_row _ _ 0 _ _ _ hr
      have r1 := cell_of_row _ _ 1 _ _ _ hr
      have r2 := cell_of_row _ _ 2 _ _ _ hr
      have r3 := cell_of_row _ _ 3 _ _ _ hr
      have r4 := cell_of_row _ _ 4 _ _ _ hr
      have r5 := cell_of_row _ _ 5 _ _ _ hr
      simp at c0 c1 c2 c3 c4 c5 r0 r1 r2 r3 r4 r5
      have f0 := frozen_new hr 0
      have f1 := frozen_new hr 1
      have f2 := frozen_new hr 2
      have f3 := frozen_new hr 3
      have f4 := frozen_new hr 4
      have f5 := frozen_new hr 5
      have HL := hidIn (load_c (setK_block (x := noC) hr (stepC true n x y)))
      have HBo := hidIn (below_setK (b := q + 1) HB2.out (by have := Hq.out; omega) (stepC true n x y))
      clear hr
      go_wp2_with fail
      have hl := HL.out
      unfold setK at hl
      refine bodyPost_ret (v := cV (stepC true n x y)) (by simp [results, Try.results10, asAddr]; exact hl) rfl ⟨rfl, HBo.out⟩
end Go.Proofs.Ytkkkjpdmjgafoaa
