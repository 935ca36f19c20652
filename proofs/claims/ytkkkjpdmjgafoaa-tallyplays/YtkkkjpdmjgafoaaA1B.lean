/- tally.added: its closures. -/
import Derived.Test.YtkkkjpdmjgafoaaA0
namespace Go.Proofs.Ytkkkjpdmjgafoaa
open Go.RowKit

theorem of3_any (c : Cn) (w : World) : Calls Try.prog 38 #[cV c] w fun e w' => e = .returned (.int .u64 (c 3)) ∧ Below w.heap.size w w' := by
  go_enter Try.func38, Try.ntmps38
  go_wp2
  go_ret
  exact ⟨rfl, by go_grown⟩
theorem of4_any (c : Cn) (w : World) : Calls Try.prog 39 #[cV c] w fun e w' => e = .returned (.int .u64 (c 4)) ∧ Below w.heap.size w w' := by
  go_enter Try.func39, Try.ntmps39
  go_wp2
  go_ret
  exact ⟨rfl, by go_grown⟩
theorem of5_any (c : Cn) (w : World) : Calls Try.prog 40 #[cV c] w fun e w' => e = .returned (.int .u64 (c 5)) ∧ Below w.heap.size w w' := by
  go_enter Try.func40, Try.ntmps40
  go_wp2
  go_ret
  exact ⟨rfl, by go_grown⟩
set_option maxRecDepth 100000 in
set_option maxHeartbeats 1000000 in
theorem fld3_any {a b : Cn} (ha : OkC a) (hb : OkC b) {pa pb : Nat} {w : World} (hA : w.heap[pa]? = some (cO a)) (hB : w.heap[pb]? = some (cO b)) :
    Calls Try.prog 34 #[.func (.func 38) #[] #[], .pointer (some ⟨pa, 0, none⟩), .pointer (some ⟨pb, 0, none⟩)] w fun e w' => e = .returned (.int .u64 (sadd (a 3) (b 3))) ∧ Below w.heap.size w w' := by
  have hca : ∀ dd os, (Go.Sort.grow (redrawn w dd) os).heap[pa]? = some (cO a) := fun dd os => ((below_regrown w dd os).block _ (block_lt hA)).trans hA
  have hcb : ∀ dd os, (Go.Sort.grow (redrawn w dd) os).heap[pb]? = some (cO b) := fun dd os => ((below_regrown w dd os).block _ (block_lt hB)).trans hB
  have c0 := cell_regrown (cell_of_row _ _ 0 _ _ _ hA)
  have c1 := cell_regrown (cell_of_row _ _ 1 _ _ _ hA)
  have c2 := cell_regrown (cell_of_row _ _ 2 _ _ _ hA)
  have c3 := cell_regrown (cell_of_row _ _ 3 _ _ _ hA)
  have c4 := cell_regrown (cell_of_row _ _ 4 _ _ _ hA)
  have c5 := cell_regrown (cell_of_row _ _ 5 _ _ _ hA)
  have d0 := cell_regrown (cell_of_row _ _ 0 _ _ _ hB)
  have d1 := cell_regrown (cell_of_row _ _ 1 _ _ _ hB)
  have d2 := cell_regrown (cell_of_row _ _ 2 _ _ _ hB)
  have d3 := cell_regrown (cell_of_row _ _ 3 _ _ _ hB)
  have d4 := cell_regrown (cell_of_row _ _ 4 _ _ _ hB)
  have d5 := cell_regrown (cell_of_row _ _ 5 _ _ _ hB)
  simp at c0 c1 c2 c3 c4 c5 d0 d1 d2 d3 d4 d5
  have HA := hidIn hca
  obtain ⟨r, hr⟩ : ∃ r, sadd (a 3) (b 3) = r := ⟨_, rfl⟩
  have HR := hidIn hr
  rw [hr]
  clear hr
  have hak := ha 3
  have hbk := hb 3
  clear hA hB hca hcb ha hb
  go_enter Try.func34, Try.ntmps34
  go_upto_region 1 with fail
  refine wp_region_quiet_below (by kernel_rfl) (by kernel_rfl) ?_
  repeat (go_big_quiet_step (first
    | (go_at_call 38; exact Calls.regrown_of (of3_any _ _))))
  refine wpQuiet_nil ?_
  intro _ hw'
  obtain ⟨⟨dq, osq⟩, hw''⟩ := hw'
  subst hw''
  have hbr := below_regrown w dq osq
  have hA1 := HA.out dq osq
  generalize Go.Sort.grow (redrawn w dq) osq = W4 at hbr hA1 ⊢
  clear c0 c1 c2 c3 c4 c5 d0 d1 d2 d3 d4 d5 HA
  have c0 := cell_of_row _ _ 0 _ _ _ hA1
  have c1 := cell_of_row _ _ 1 _ _ _ hA1
  have c2 := cell_of_row _ _ 2 _ _ _ hA1
  have c3 := cell_of_row _ _ 3 _ _ _ hA1
  have c4 := cell_of_row _ _ 4 _ _ _ hA1
  have c5 := cell_of_row _ _ 5 _ _ _ hA1
  simp at c0 c1 c2 c3 c4 c5
  clear hA1
  have HB := hidIn hbr
  by_cases ho : 18446744073709551616 ≤ a 3 + b 3
  · have hs : sadd (a 3) (b 3) = 18446744073709551615 := if_pos ho
    have hw : IntKind.u64.wrap ((a 3 : Int) + (b 3 : Int)) = (((a 3 + b 3 - 18446744073709551616 : Nat)) : Int) := wrap_over hak hbk ho
    have hlt : ((a 3 + b 3 - 18446744073709551616 : Nat) : Int) < (a 3 : Int) := by omega
    have HE : Hid (r = _) := hidIn (HR.out.symm.trans hs)
    try rw [hw]
    have HO := hidIn ho
    clear ho hs
    go_wp2_with (go_at_call 38; refine (of3_any _ _).mono ?_; rintro e w1 ⟨rfl, hb1⟩)
    go_ret
    exact ⟨by rw [HE.out]; rfl, HB.out.trans (hb1.mono HB.out.size)⟩
  · have hs : sadd (a 3) (b 3) = a 3 + b 3 := if_neg ho
    have hw : IntKind.u64.wrap ((a 3 : Int) + (b 3 : Int)) = ((a 3 + b 3 : Nat) : Int) := wrap_in ho
    have hlt : ¬ ((a 3 + b 3 : Nat) : Int) < (a 3 : Int) := by omega
    have HE : Hid (r = _) := hidIn (HR.out.symm.trans hs)
    try rw [hw]
    have HO := hidIn ho
    clear ho hs
    go_wp2_with (go_at_call 38; refine (of3_any _ _).mono ?_; rintro e w1 ⟨rfl, hb1⟩)
    go_ret
    exact ⟨by rw [HE.out]; rfl, HB.out.trans (hb1.mono HB.out.size)⟩
set_option maxRecDepth 100000 in
set_option maxHeartbeats 1000000 in
theorem fld4_any {a b : Cn} (ha : OkC a) (hb : OkC b) {pa pb : Nat} {w : World} (hA : w.heap[pa]? = some (cO a)) (hB : w.heap[pb]? = some (cO b)) :
    Calls Try.prog 34 #[.func (.func 39) #[] #[], .pointer (some ⟨pa, 0, none⟩), .pointer (some ⟨pb, 0, none⟩)] w fun e w' => e = .returned (.int .u64 (sadd (a 4) (b 4))) ∧ Below w.heap.size w w' := by
  have hca : ∀ dd os, (Go.Sort.grow (redrawn w dd) os).heap[pa]? = some (cO a) := fun dd os => ((below_regrown w dd os).block _ (block_lt hA)).trans hA
  have hcb : ∀ dd os, (Go.Sort.grow (redrawn w dd) os).heap[pb]? = some (cO b) := fun dd os => ((below_regrown w dd os).block _ (block_lt hB)).trans hB
  have c0 := cell_regrown (cell_of_row _ _ 0 _ _ _ hA)
  have c1 := cell_regrown (cell_of_row _ _ 1 _ _ _ hA)
  have c2 := cell_regrown (cell_of_row _ _ 2 _ _ _ hA)
  have c3 := cell_regrown (cell_of_row _ _ 3 _ _ _ hA)
  have c4 := cell_regrown (cell_of_row _ _ 4 _ _ _ hA)
  have c5 := cell_regrown (cell_of_row _ _ 5 _ _ _ hA)
  have d0 := cell_regrown (cell_of_row _ _ 0 _ _ _ hB)
  have d1 := cell_regrown (cell_of_row _ _ 1 _ _ _ hB)
  have d2 := cell_regrown (cell_of_row _ _ 2 _ _ _ hB)
  have d3 := cell_regrown (cell_of_row _ _ 3 _ _ _ hB)
  have d4 := cell_regrown (cell_of_row _ _ 4 _ _ _ hB)
  have d5 := cell_regrown (cell_of_row _ _ 5 _ _ _ hB)
  simp at c0 c1 c2 c3 c4 c5 d0 d1 d2 d3 d4 d5
  have HA := hidIn hca
  obtain ⟨r, hr⟩ : ∃ r, sadd (a 4) (b 4) = r := ⟨_, rfl⟩
  have HR := hidIn hr
  rw [hr]
  clear hr
  have hak := ha 4
  have hbk := hb 4
  clear hA hB hca hcb ha hb
  go_enter Try.func34, Try.ntmps34
  go_upto_region 1 with fail
  refine wp_region_quiet_below (by kernel_rfl) (by kernel_rfl) ?_
  repeat (go_big_quiet_step (first
    | (go_at_call 39; exact Calls.regrown_of (of4_any _ _))))
  refine wpQuiet_nil ?_
  intro _ hw'
  obtain ⟨⟨dq, osq⟩, hw''⟩ := hw'
  subst hw''
  have hbr := below_regrown w dq osq
  have hA1 := HA.out dq osq
  generalize Go.Sort.grow (redrawn w dq) osq = W4 at hbr hA1 ⊢
  clear c0 c1 c2 c3 c4 c5 d0 d1 d2 d3 d4 d5 HA
  have c0 := cell_of_row _ _ 0 _ _ _ hA1
  have c1 := cell_of_row _ _ 1 _ _ _ hA1
  have c2 := cell_of_row _ _ 2 _ _ _ hA1
  have c3 := cell_of_row _ _ 3 _ _ _ hA1
  have c4 := cell_of_row _ _ 4 _ _ _ hA1
  have c5 := cell_of_row _ _ 5 _ _ _ hA1
  simp at c0 c1 c2 c3 c4 c5
  clear hA1
  have HB := hidIn hbr
  by_cases ho : 18446744073709551616 ≤ a 4 + b 4
  · have hs : sadd (a 4) (b 4) = 18446744073709551615 := if_pos ho
    have hw : IntKind.u64.wrap ((a 4 : Int) + (b 4 : Int)) = (((a 4 + b 4 - 18446744073709551616 : Nat)) : Int) := wrap_over hak hbk ho
    have hlt : ((a 4 + b 4 - 18446744073709551616 : Nat) : Int) < (a 4 : Int) := by omega
    have HE : Hid (r = _) := hidIn (HR.out.symm.trans hs)
    try rw [hw]
    have HO := hidIn ho
    clear ho hs
    go_wp2_with (go_at_call 39; refine (of4_any _ _).mono ?_; rintro e w1 ⟨rfl, hb1⟩)
    go_ret
    exact ⟨by rw [HE.out]; rfl, HB.out.trans (hb1.mono HB.out.size)⟩
  · have hs : sadd (a 4) (b 4) = a 4 + b 4 := if_neg ho
    have hw : IntKind.u64.wrap ((a 4 : Int) + (b 4 : Int)) = ((a 4 + b 4 : Nat) : Int) := wrap_in ho
    have hlt : ¬ ((a 4 + b 4 : Nat) : Int) < (a 4 : Int) := by omega
    have HE : Hid (r = _) := hidIn (HR.out.symm.trans hs)
    try rw [hw]
    have HO := hidIn ho
    clear ho hs
    go_wp2_with (go_at_call 39; refine (of4_any _ _).mono ?_; rintro e w1 ⟨rfl, hb1⟩)
    go_ret
    exact ⟨by rw [HE.out]; rfl, HB.out.trans (hb1.mono HB.out.size)⟩
set_option maxRecDepth 100000 in
set_option maxHeartbeats 1000000 in
theorem fld5_any {a b : Cn} (ha : OkC a) (hb : OkC b) {pa pb : Nat} {w : World} (hA : w.heap[pa]? = some (cO a)) (hB : w.heap[pb]? = some (cO b)) :
    Calls Try.prog 34 #[.func (.func 40) #[] #[], .pointer (some ⟨pa, 0, none⟩), .pointer (some ⟨pb, 0, none⟩)] w fun e w' => e = .returned (.int .u64 (sadd (a 5) (b 5))) ∧ Below w.heap.size w w' := by
  have hca : ∀ dd os, (Go.Sort.grow (redrawn w dd) os).heap[pa]? = some (cO a) := fun dd os => ((below_regrown w dd os).block _ (block_lt hA)).trans hA
  have hcb : ∀ dd os, (Go.Sort.grow (redrawn w dd) os).heap[pb]? = some (cO b) := fun dd os => ((below_regrown w dd os).block _ (block_lt hB)).trans hB
  have c0 := cell_regrown (cell_of_row _ _ 0 _ _ _ hA)
  have c1 := cell_regrown (cell_of_row _ _ 1 _ _ _ hA)
  have c2 := cell_regrown (cell_of_row _ _ 2 _ _ _ hA)
  have c3 := cell_regrown (cell_of_row _ _ 3 _ _ _ hA)
  have c4 := cell_regrown (cell_of_row _ _ 4 _ _ _ hA)
  have c5 := cell_regrown (cell_of_row _ _ 5 _ _ _ hA)
  have d0 := cell_regrown (cell_of_row _ _ 0 _ _ _ hB)
  have d1 := cell_regrown (cell_of_row _ _ 1 _ _ _ hB)
  have d2 := cell_regrown (cell_of_row _ _ 2 _ _ _ hB)
  have d3 := cell_regrown (cell_of_row _ _ 3 _ _ _ hB)
  have d4 := cell_regrown (cell_of_row _ _ 4 _ _ _ hB)
  have d5 := cell_regrown (cell_of_row _ _ 5 _ _ _ hB)
  simp at c0 c1 c2 c3 c4 c5 d0 d1 d2 d3 d4 d5
  have HA := hidIn hca
  obtain ⟨r, hr⟩ : ∃ r, sadd (a 5) (b 5) = r := ⟨_, rfl⟩
  have HR := hidIn hr
  rw [hr]
  clear hr
  have hak := ha 5
  have hbk := hb 5
  clear hA hB hca hcb ha hb
  go_enter Try.func34, Try.ntmps34
  go_upto_region 1 with fail
  refine wp_region_quiet_below (by kernel_rfl) (by kernel_rfl) ?_
  repeat (go_big_quiet_step (first
    | (go_at_call 40; exact Calls.regrown_of (of5_any _ _))))
  refine wpQuiet_nil ?_
  intro _ hw'
  obtain ⟨⟨dq, osq⟩, hw''⟩ := hw'
  subst hw''
  have hbr := below_regrown w dq osq
  have hA1 := HA.out dq osq
  generalize Go.Sort.grow (redrawn w dq) osq = W4 at hbr hA1 ⊢
  clear c0 c1 c2 c3 c4 c5 d0 d1 d2 d3 d4 d5 HA
  have c0 := cell_of_row _ _ 0 _ _ _ hA1
  have c1 := cell_of_row _ _ 1 _ _ _ hA1
  have c2 := cell_of_row _ _ 2 _ _ _ hA1
  have c3 := cell_of_row _ _ 3 _ _ _ hA1
  have c4 := cell_of_row _ _ 4 _ _ _ hA1
  have c5 := cell_of_row _ _ 5 _ _ _ hA1
  simp at c0 c1 c2 c3 c4 c5
  clear hA1
  have HB := hidIn hbr
  by_cases ho : 18446744073709551616 ≤ a 5 + b 5
  · have hs : sadd (a 5) (b 5) = 18446744073709551615 := if_pos ho
    have hw : IntKind.u64.wrap ((a 5 : Int) + (b 5 : Int)) = (((a 5 + b 5 - 18446744073709551616 : Nat)) : Int) := wrap_over hak hbk ho
    have hlt : ((a 5 + b 5 - 18446744073709551616 : Nat) : Int) < (a 5 : Int) := by omega
    have HE : Hid (r = _) := hidIn (HR.out.symm.trans hs)
    try rw [hw]
    have HO := hidIn ho
    clear ho hs
    go_wp2_with (go_at_call 40; refine (of5_any _ _).mono ?_; rintro e w1 ⟨rfl, hb1⟩)
    go_ret
    exact ⟨by rw [HE.out]; rfl, HB.out.trans (hb1.mono HB.out.size)⟩
  · have hs : sadd (a 5) (b 5) = a 5 + b 5 := if_neg ho
    have hw : IntKind.u64.wrap ((a 5 : Int) + (b 5 : Int)) = ((a 5 + b 5 : Nat) : Int) := wrap_in ho
    have hlt : ¬ ((a 5 + b 5 : Nat) : Int) < (a 5 : Int) := by omega
    have HE : Hid (r = _) := hidIn (HR.out.symm.trans hs)
    try rw [hw]
    have HO := hidIn ho
    clear ho hs
    go_wp2_with (go_at_call 40; refine (of5_any _ _).mono ?_; rintro e w1 ⟨rfl, hb1⟩)
    go_ret
    exact ⟨by rw [HE.out]; rfl, HB.out.trans (hb1.mono HB.out.size)⟩
end Go.Proofs.Ytkkkjpdmjgafoaa
