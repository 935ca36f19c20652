/- cmp.Or of two numbers; table.row's compare. -/
import Derived.Test.YtgeoghhajjlofaaGreatDoorV8
import Derived.Test.YtgeoghhajjlofaaGreatDoorTA0
import Derived.Shelf.SlSortCmp.WholeK
namespace Go.Proofs.YtgeoghhajjlofaaGreatDoor
open Go.RowKit

def orI (a b : Int) : Int := if a = 0 then b else a
def cmI (x y : Int) : Int := if x < y then -1 else if y < x then 1 else 0
set_option maxRecDepth 100000 in
set_option maxHeartbeats 2000000 in
theorem cmpOr_any {a b : Int} {g : Nat} {w : World} {T : TypeId} (h : w.heap[g]? = some (.cells #[.int .i64 a, .int .i64 b] T)) : Calls Tryz.prog 69 #[.slice (some ⟨g, 0, none⟩) 2 2] w fun e w' => e = .returned (.int .i64 (orI a b)) ∧ w' = w := by
  have c0 := cell_of_row _ _ 0 _ _ _ h
  have c1 := cell_of_row _ _ 1 _ _ _ h
  simp at c0 c1
  clear h
  by_cases ha : a = 0
  · by_cases hb : b = 0
    · have HE : Hid (orI a b = 0) := hidIn (by unfold orI; rw [if_pos ha, hb])
      have q0 : (a != 0) = false := by simpa using ha
      have q1 : (b != 0) = false := by simpa using hb
      rw [HE.out]
      clear ha hb
      go_enter Tryz.func69, Tryz.ntmps69
      go_wp2
      go_rounds 3
      go_ret
      exact ⟨rfl, rfl⟩
    · have HE : Hid (orI a b = b) := hidIn (by unfold orI; rw [if_pos ha])
      have q0 : (a != 0) = false := by simpa using ha
      have q1 : (b != 0) = true := by simpa using hb
      rw [HE.out]
      clear ha hb
      go_enter Tryz.func69, Tryz.ntmps69
      go_wp2
      go_rounds 3
      go_ret
      exact ⟨rfl, rfl⟩
  · have HE : Hid (orI a b = a) := hidIn (by unfold orI; rw [if_neg ha])
    have q0 : (a != 0) = true := by simpa using ha
    rw [HE.out]
    clear ha
    go_enter Tryz.func69, Tryz.ntmps69
    go_wp2
    go_rounds 3
    go_ret
    exact ⟨rfl, rfl⟩
/-- An entry on its way: its place, its owner, the slice of its neighbours. -/
abbrev Rw := Int × Int × Int × Option Addr × Nat × Nat
abbrev rwS (x : Rw) : Value := .slice x.2.2.2.1 x.2.2.2.2.1 x.2.2.2.2.2
abbrev rwcs (x : Rw) : List Value := [.int .i64 x.1, .int .i64 x.2.1, .int .i64 x.2.2.1, rwS x]
/-- How two entries stand to each other, by their places. -/
def cmR (x y : Rw) : Int := orI (cmI x.1 y.1) (cmI x.2.1 y.2.1)
set_option maxRecDepth 100000 in
set_option maxHeartbeats 4000000 in
theorem rcomp_any (x y : Rw) (W : World) : Calls Tryz.prog 46 #[.agg (rwcs x).toArray, .agg (rwcs y).toArray] W fun e w' => e = .returned (.int .i64 (cmR x y)) ∧ ∃ q os', w' = Go.Sort.grow (W.drewN q) os' := by
  obtain ⟨a0, a1, a2, a3, a4, a5⟩ := x
  obtain ⟨b0, b1, b2, b3, b4, b5⟩ := y
  obtain ⟨W1, hW1⟩ : ∃ W1, (W.alloc (.cells #[.int .i64 a0, .int .i64 a1, .int .i64 a2, .slice a3 a4 a5] 67)).alloc (.cells #[.int .i64 b0, .int .i64 b1, .int .i64 b2, .slice b3 b4 b5] 67) = W1 := ⟨_, rfl⟩
  have hA : W1.heap[W.heap.size]? = some (.cells #[.int .i64 a0, .int .i64 a1, .int .i64 a2, .slice a3 a4 a5] 67) := by rw [← hW1, Below.heap_alloc _ _ _ (by simp)]; exact heap_alloc_last W _
  have hB : W1.heap[W.heap.size + 1]? = some (.cells #[.int .i64 b0, .int .i64 b1, .int .i64 b2, .slice b3 b4 b5] 67) := by
    rw [← hW1]
    have := heap_alloc_last (W.alloc (.cells #[.int .i64 a0, .int .i64 a1, .int .i64 a2, .slice a3 a4 a5] 67)) (.cells #[.int .i64 b0, .int .i64 b1, .int .i64 b2, .slice b3 b4 b5] 67)
    rwa [World.size_alloc] at this
  obtain ⟨q, hqe⟩ : ∃ q, W.heap.size = q := ⟨_, rfl⟩
  rw [hqe] at hA hB
  have HCl : Hid (∀ wq, Below W1.heap.size W1 wq → wq.cell? ⟨q, 0, none⟩ = some (.int .i64 a0) ∧ wq.cell? ⟨q, 1, none⟩ = some (.int .i64 a1) ∧ wq.cell? ⟨q + 1, 0, none⟩ = some (.int .i64 b0) ∧ wq.cell? ⟨q + 1, 1, none⟩ = some (.int .i64 b1)) := hidIn fun wq h => by
    have j0 := (h.block _ (block_lt hA)).trans hA
    have j1 := (h.block _ (block_lt hB)).trans hB
    exact ⟨cell_of_row _ _ 0 _ _ _ j0, cell_of_row _ _ 1 _ _ _ j0, cell_of_row _ _ 0 _ _ _ j1, cell_of_row _ _ 1 _ _ _ j1⟩
  obtain ⟨c0, hc0⟩ : ∃ c, (if a0 < b0 then (-1 : Int) else if b0 < a0 then 1 else 0) = c := ⟨_, rfl⟩
  obtain ⟨c1, hc1⟩ : ∃ c, (if a1 < b1 then (-1 : Int) else if b1 < a1 then 1 else 0) = c := ⟨_, rfl⟩
  have HE : Hid (cmR ⟨a0, a1, a2, a3, a4, a5⟩ ⟨b0, b1, b2, b3, b4, b5⟩ = orI c0 c1) := hidIn (by unfold cmR cmI; simp only; rw [hc0, hc1])
  have Hc0 := hidIn hc0
  have Hc1 := hidIn hc1
  have HW := hidIn hW1
  clear hW1 hA hB hc0 hc1
  go_enter Tryz.func46, Tryz.ntmps46
  go_upto_region 1 with fail
  rw [HW.out]
  clear hqe
  refine wp_region_held_drew (S := fun wx => Below W1.heap.size W1 wx) (by kernel_rfl) ((Below.refl _ W1).drew) (fun hHeld => ?_)
  have hd0 : Below W1.heap.size W1 W1.drew := hHeld
  obtain ⟨wd, hwd⟩ : ∃ wd, W1.drew = wd := ⟨_, rfl⟩
  rw [hwd] at hd0 ⊢
  have HWd := hidIn hwd
  clear hwd hHeld
  refine wpAnyH_take (i := 0) (v := .pointer (some ⟨q, 0, none⟩)) rfl (by kernel_rfl) (by kernel_rfl) (by kernel_rfl) (fun _ _ _ h => h) (Or.inl ⟨by kernel_rfl, fun _ _ => by kernel_rfl⟩) (by assumption) ?_
  refine wpAnyH_take (i := 1) (v := .int .i64 a0) rfl (by kernel_rfl) (by kernel_rfl) (by kernel_rfl) (fun _ _ _ h => h) (Or.inl ⟨by kernel_rfl, fun wq hSw => by
      obtain ⟨s0, s1, s2, s3⟩ := HCl.out wq hSw
      go_simp⟩) (by assumption) ?_
  refine wpAnyH_take (i := 2) (v := .pointer (some ⟨q + 1, 0, none⟩)) rfl (by kernel_rfl) (by kernel_rfl) (by kernel_rfl) (fun _ _ _ h => h) (Or.inl ⟨by kernel_rfl, fun _ _ => by kernel_rfl⟩) (by assumption) ?_
  refine wpAnyH_take (i := 3) (v := .int .i64 b0) rfl (by kernel_rfl) (by kernel_rfl) (by kernel_rfl) (fun _ _ _ h => h) (Or.inl ⟨by kernel_rfl, fun wq hSw => by
      obtain ⟨s0, s1, s2, s3⟩ := HCl.out wq hSw
      go_simp⟩) (by assumption) ?_
  refine wpAnyH_take (i := 5) (v := .pointer (some ⟨q, 1, none⟩)) rfl (by kernel_rfl) (by kernel_rfl) (by kernel_rfl) (fun _ _ _ h => h) (Or.inl ⟨by kernel_rfl, fun _ _ => by kernel_rfl⟩) (by assumption) ?_
  refine wpAnyH_take (i := 6) (v := .int .i64 a1) rfl (by kernel_rfl) (by kernel_rfl) (by kernel_rfl) (fun _ _ _ h => h) (Or.inl ⟨by kernel_rfl, fun wq hSw => by
      obtain ⟨s0, s1, s2, s3⟩ := HCl.out wq hSw
      go_simp⟩) (by assumption) ?_
  refine wpAnyH_take (i := 7) (v := .pointer (some ⟨q + 1, 1, none⟩)) rfl (by kernel_rfl) (by kernel_rfl) (by kernel_rfl) (fun _ _ _ h => h) (Or.inl ⟨by kernel_rfl, fun _ _ => by kernel_rfl⟩) (by assumption) ?_
  refine wpAnyH_take (i := 8) (v := .int .i64 b1) rfl (by kernel_rfl) (by kernel_rfl) (by kernel_rfl) (fun _ _ _ h => h) (Or.inl ⟨by kernel_rfl, fun wq hSw => by
      obtain ⟨s0, s1, s2, s3⟩ := HCl.out wq hSw
      go_simp⟩) (by assumption) ?_
  refine wpAnyH_ready (rs := [4]) (by kernel_rfl) (by simp) ?_
  refine AllReadyH.cons (i := 4) rfl ?_ AllReadyH.nil
  go_simp
  intro K hK
  refine (cmpI_any a0 b0 wd).mono ?_
  rintro e w2 ⟨rfl, hw2⟩
  rw [hw2]
  clear hw2 w2
  refine hK.out _ _ hd0 (fun _ => ?_)
  clear hK K
  rw [Hc0.out]
  refine wpAnyH_ready (rs := [9]) (by kernel_rfl) (by simp) ?_
  refine AllReadyH.cons (i := 9) rfl ?_ AllReadyH.nil
  go_simp
  intro K hK
  refine (cmpI_any a1 b1 wd).mono ?_
  rintro e w2 ⟨rfl, hw2⟩
  rw [hw2]
  clear hw2 w2
  refine hK.out _ _ hd0 (fun _ => ?_)
  clear hK K
  rw [Hc1.out]
  refine wpAnyH_ready (rs := [10]) (by kernel_rfl) (by simp) ?_
  refine AllReadyH.cons (i := 10) rfl ?_ AllReadyH.nil
  go_simp
  intro K hK
  have hb3 := hd0.alloc hd0.size (.cells #[.int .i64 c0, .int .i64 c1] 3)
  have hz3 := heap_alloc_last wd (.cells #[.int .i64 c0, .int .i64 c1] 3)
  have HOr := hidIn (cmpOr_any hz3)
  obtain ⟨w3, hw3⟩ : ∃ w3, wd.alloc (.cells #[.int .i64 c0, .int .i64 c1] 3) = w3 := ⟨_, rfl⟩
  rw [hw3] at hb3 HOr ⊢
  have HW3 := hidIn hw3
  refine hK.out _ _ hb3 (fun _ => ?_)
  clear hK K hw3 hz3
  refine wpAnyH_ready (rs := [11]) (by kernel_rfl) (by simp) ?_
  refine AllReadyH.cons (i := 11) rfl ?_ AllReadyH.nil
  go_simp
  intro K hK
  refine HOr.out.mono ?_
  rintro e w4 ⟨rfl, hw4⟩
  rw [hw4]
  clear hw4 w4
  refine hK.out _ _ hb3 (fun _ => ?_)
  clear hK K
  refine wpAnyH_take (i := 12) (v := .int .i64 (orI c0 c1)) rfl (by kernel_rfl) (by kernel_rfl) (by kernel_rfl) (fun _ _ _ h => h) (Or.inl ⟨by kernel_rfl, fun _ _ => by kernel_rfl⟩) (by assumption) ?_
  refine wpAnyH_done (by kernel_rfl) ?_ _
  go_wp2_with fail
  go_ret
  refine ⟨by rw [HE.out]; rfl, 1, #[.cells #[.int .i64 a0, .int .i64 a1, .int .i64 a2, .slice a3 a4 a5] 67, .cells #[.int .i64 b0, .int .i64 b1, .int .i64 b2, .slice b3 b4 b5] 67, .cells #[.int .i64 c0, .int .i64 c1] 3], ?_⟩
  rw [← HW3.out, ← HWd.out, ← HW.out]
  rw [Go.Sort.alloc_eq_grow, Go.Sort.alloc_eq_grow, Go.Sort.alloc_eq_grow, Go.Sort.grow_grow]
  have hd : ∀ (w : World) (os : Array Obj), (Go.Sort.grow w os).drew = Go.Sort.grow (w.drewN 1) os := fun _ _ => rfl
  rw [hd, Go.Sort.grow_grow]
  rfl
end Go.Proofs.YtgeoghhajjlofaaGreatDoor
