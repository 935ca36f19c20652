/- tally.added: its closures. -/
import Derived.Test.YtkkkjpdmjgafoaaA0
namespace Go.Proofs.Ytkkkjpdmjgafoaa
open Go.RowKit

theorem of0_any (c : Cn) (w : World) : Calls Try.prog 35 #[cV c] w fun e w' => e = .returned (.int .u64 (c 0)) ∧ Below w.heap.size w w' := by
  go_enter Try.func35, Try.ntmps35
  go_wp2
  go_ret
  exact ⟨rfl, by go_grown⟩
theorem of1_any (c : Cn) (w : World) : Calls Try.prog 36 #[cV c] w fun e w' => e = .returned (.int .u64 (c 1)) ∧ Below w.heap.size w w' := by
  go_enter Try.func36, Try.ntmps36
  go_wp2
  go_ret
  exact ⟨rfl, by go_grown⟩
theorem of2_any (c : Cn) (w : World) : Calls Try.prog 37 #[cV c] w fun e w' => e = .returned (.int .u64 (c 2)) ∧ Below w.heap.size w w' := by
  go_enter Try.func37, Try.ntmps37
  go_wp2
  go_ret
  exact ⟨rfl, by go_grown⟩
set_option maxRecDepth 100000 in
set_option maxHeartbeats 1000000 in
theorem fld0_any {a b : Cn} (ha : OkC a) (hb : OkC b) {pa pb : Nat} {w : World} (hA : w.heap[pa]? = some (cO a)) (hB : w.heap[pb]? = some (cO b)) :
    Calls Try.prog 34 #[.func (.func 35) #[] #[], .pointer (some ⟨pa, 0, none⟩), .pointer (some ⟨pb, 0, none⟩)] w fun e w' => e = .returned (.int .u64 (sadd (a 0) (b 0))) ∧ Below w.heap.size w w' := by
  have hca : ∀ dd os, (Go.Sort.grow (redrawn w dd) os).heap[pa]? = some (cO a) := fun dd os => ((below_regrown w dd os).block _ (block_lt hA)).trans hA
  have hcb : ∀ dd os, (Go.Sort.grow (redrawn w dd) os).heap[pb]? = some (cO b) := fun dd os => ((below_regrown w dd os).block _ (block_lt hB)).trans hB
  have c0 := cell_regrown (cell_of_row _ _ 0 _ _ _ hA)
  have c1 := cell_regrown (cell_of_row _ _ 1 _ _ _ hA)
  have c2 := cell_regrown (cell_of_row _ _ 2 _ _ _ hA)
  have c3 := cell_regrown (cell_of_row _ _ 3 _ _ _ hA)
  have c4 := cell_regrown (cell_of_row _ _ 4 _ _ _ hA)
  have c5 := cell_regrown (cell_of_row _ _ 5 _ _ _ hA)
  have d0 := cell_regrown (cell_of_row _ _ 0 _ _ _ hB)
  have d1 := cell_regrown (cell_of_row _ _ 1 _ _ _ hB)
  have d2 := cell_regrown (cell_of_row _ _ 2 _ _ _ hB)
  have d3 := cell_regrown (cell_of_row _ _ 3 _ _ _ hB)
  have d4 := cell_regrown (cell_of_row _ _ 4 _ _ _ hB)
  have d5 := cell_regrown (cell_of_row _ _ 5 _ _ _ hB)
  simp at c0 c1 c2 c3 c4 c5 d0 d1 d2 d3 d4 d5
  have HA := hidIn hca
  obtain ⟨r, hr⟩ : ∃ r, sadd (a 0) (b 0) = r := ⟨_, rfl⟩
  have HR := hidIn hr
  rw [hr]
  clear hr
  have hak := ha 0
  have hbk := hb 0
  clear hA hB hca hcb ha hb
  go_enter Try.func34, Try.ntmps34
  go_upto_region 1 with fail
  refine wp_region_quiet_below (by kernel_rfl) (by kernel_rfl) ?_
  repeat (go_big_quiet_step (first
    | (go_at_call 35; exact Calls.regrown_of (of0_any _ _))))
  refine wpQuiet_nil ?_
  intro _ hw'
  obtain ⟨⟨dq, osq⟩, hw''⟩ := hw'
  subst hw''
  have hbr := below_regrown w dq osq
  have hA1 := HA.out dq osq
  generalize Go.Sort.grow (redrawn w dq) osq = W4 at hbr hA1 ⊢
  clear c0 c1 c2 c3 c4 c5 d0 d1 d2 d3 d4 d5 HA
  have c0 := cell_of_row _ _ 0 _ _ _ hA1
  have c1 := cell_of_row _ _ 1 _ _ _ hA1
  have c2 := cell_of_row _ _ 2 _ _ _ hA1
  have c3 := cell_of_row _ _ 3 _ _ _ hA1
  have c4 := cell_of_row _ _ 4 _ _ _ hA1
  have c5 := cell_of_row _ _ 5 _ _ _ hA1
  simp at c0 c1 c2 c3 c4 c5
  clear hA1
  have HB := hidIn hbr
  by_cases ho : 18446744073709551616 ≤ a 0 + b 0
  · have hs : sadd (a 0) (b 0) = 18446744073709551615 := if_pos ho
    have hw : IntKind.u64.wrap ((a 0 : Int) + (b 0 : Int)) = (((a 0 + b 0 - 18446744073709551616 : Nat)) : Int) := wrap_over hak hbk ho
    have hlt : ((a 0 + b 0 - 18446744073709551616 : Nat) : Int) < (a 0 : Int) := by omega
    have HE : Hid (r = _) := hidIn (HR.out.symm.trans hs)
    try rw [hw]
    have HO := hidIn ho
    clear ho hs
    go_wp2_with (go_at_call 35; refine (of0_any _ _).mono ?_; rintro e w1 ⟨rfl, hb1⟩)
    go_ret
    exact ⟨by rw [HE.out]; rfl, HB.out.trans (hb1.mono HB.out.size)⟩
  · have hs : sadd (a 0) (b 0) = a 0 + b 0 := if_neg ho
    have hw : IntKind.u64.wrap ((a 0 : Int) + (b 0 : Int)) = ((a 0 + b 0 : Nat) : Int) := wrap_in ho
    have hlt : ¬ ((a 0 + b 0 : Nat) : Int) < (a 0 : Int) := by omega
    have HE : Hid (r = _) := hidIn (HR.out.symm.trans hs)
    try rw [hw]
    have HO := hidIn ho
    clear ho hs
    go_wp2_with (go_at_call 35; refine (of0_any _ _).mono ?_; rintro e w1 ⟨rfl, hb1⟩)
    go_ret
    exact ⟨by rw [HE.out]; rfl, HB.out.trans (hb1.mono HB.out.size)⟩
set_option maxRecDepth 100000 in
set_option maxHeartbeats 1000000 in
theorem fld1_any {a b : Cn} (ha : OkC a) (hb : OkC b) {pa pb : Nat} {w : World} (hA : w.heap[pa]? = some (cO a)) (hB : w.heap[pb]? = some (cO b)) :
    Calls Try.prog 34 #[.func (.func 36) #[] #[], .pointer (some ⟨pa, 0, none⟩), .pointer (some ⟨pb, 0, none⟩)] w fun e w' => e = .returned (.int .u64 (sadd (a 1) (b 1))) ∧ Below w.heap.size w w' := by
  have hca : ∀ dd os, (Go.Sort.grow (redrawn w dd) os).heap[pa]? = some (cO a) := fun dd os => ((below_regrown w dd os).block _ (block_lt hA)).trans hA
  have hcb : ∀ dd os, (Go.Sort.grow (redrawn w dd) os).heap[pb]? = some (cO b) := fun dd os => ((below_regrown w dd os).block _ (block_lt hB)).trans hB
  have c0 := cell_regrown (cell_of_row _ _ 0 _ _ _ hA)
  have c1 := cell_regrown (cell_of_row _ _ 1 _ _ _ hA)
  have c2 := cell_regrown (cell_of_row _ _ 2 _ _ _ hA)
  have c3 := cell_regrown (cell_of_row _ _ 3 _ _ _ hA)
  have c4 := cell_regrown (cell_of_row _ _ 4 _ _ _ hA)
  have c5 := cell_regrown (cell_of_row _ _ 5 _ _ _ hA)
  have d0 := cell_regrown (cell_of_row _ _ 0 _ _ _ hB)
  have d1 := cell_regrown (cell_of_row _ _ 1 _ _ _ hB)
  have d2 := cell_regrown (cell_of_row _ _ 2 _ _ _ hB)
  have d3 := cell_regrown (cell_of_row _ _ 3 _ _ _ hB)
  have d4 := cell_regrown (cell_of_row _ _ 4 _ _ _ hB)
  have d5 := cell_regrown (cell_of_row _ _ 5 _ _ _ hB)
  simp at c0 c1 c2 c3 c4 c5 d0 d1 d2 d3 d4 d5
  have HA := hidIn hca
  obtain ⟨r, hr⟩ : ∃ r, sadd (a 1) (b 1) = r := ⟨_, rfl⟩
  have HR := hidIn hr
  rw [hr]
  clear hr
  have hak := ha 1
  have hbk := hb 1
  clear hA hB hca hcb ha hb
  go_enter Try.func34, Try.ntmps34
  go_upto_region 1 with fail
  refine wp_region_quiet_below (by kernel_rfl) (by kernel_rfl) ?_
  repeat (go_big_quiet_step (first
    | (go_at_call 36; exact Calls.regrown_of (of1_any _ _))))
  refine wpQuiet_nil ?_
  intro _ hw'
  obtain ⟨⟨dq, osq⟩, hw''⟩ := hw'
  subst hw''
  have hbr := below_regrown w dq osq
  have hA1 := HA.out dq osq
  generalize Go.Sort.grow (redrawn w dq) osq = W4 at hbr hA1 ⊢
  clear c0 c1 c2 c3 c4 c5 d0 d1 d2 d3 d4 d5 HA
  have c0 := cell_of_row _ _ 0 _ _ _ hA1
  have c1 := cell_of_row _ _ 1 _ _ _ hA1
  have c2 := cell_of_row _ _ 2 _ _ _ hA1
  have c3 := cell_of_row _ _ 3 _ _ _ hA1
  have c4 := cell_of_row _ _ 4 _ _ _ hA1
  have c5 := cell_of_row _ _ 5 _ _ _ hA1
  simp at c0 c1 c2 c3 c4 c5
  clear hA1
  have HB := hidIn hbr
  by_cases ho : 18446744073709551616 ≤ a 1 + b 1
  · have hs : sadd (a 1) (b 1) = 18446744073709551615 := if_pos ho
    have hw : IntKind.u64.wrap ((a 1 : Int) + (b 1 : Int)) = (((a 1 + b 1 - 18446744073709551616 : Nat)) : Int) := wrap_over hak hbk ho
    have hlt : ((a 1 + b 1 - 18446744073709551616 : Nat) : Int) < (a 1 : Int) := by omega
    have HE : Hid (r = _) := hidIn (HR.out.symm.trans hs)
    try rw [hw]
    have HO := hidIn ho
    clear ho hs
    go_wp2_with (go_at_call 36; refine (of1_any _ _).mono ?_; rintro e w1 ⟨rfl, hb1⟩)
    go_ret
    exact ⟨by rw [HE.out]; rfl, HB.out.trans (hb1.mono HB.out.size)⟩
  · have hs : sadd (a 1) (b 1) = a 1 + b 1 := if_neg ho
    have hw : IntKind.u64.wrap ((a 1 : Int) + (b 1 : Int)) = ((a 1 + b 1 : Nat) : Int) := wrap_in ho
    have hlt : ¬ ((a 1 + b 1 : Nat) : Int) < (a 1 : Int) := by omega
    have HE : Hid (r = _) := hidIn (HR.out.symm.trans hs)
    try rw [hw]
    have HO := hidIn ho
    clear ho hs
    go_wp2_with (go_at_call 36; refine (of1_any _ _).mono ?_; rintro e w1 ⟨rfl, hb1⟩)
    go_ret
    exact ⟨by rw [HE.out]; rfl, HB.out.trans (hb1.mono HB.out.size)⟩
set_option maxRecDepth 100000 in
set_option maxHeartbeats 1000000 in
theorem fld2_any {a b : Cn} (ha : OkC a) (hb : OkC b) {pa pb : Nat} {w : World} (hA : w.heap[pa]? = some (cO a)) (hB : w.heap[pb]? = some (cO b)) :
    Calls Try.prog 34 #[.func (.func 37) #[] #[], .pointer (some ⟨pa, 0, none⟩), .pointer (some ⟨pb, 0, none⟩)] w fun e w' => e = .returned (.int .u64 (sadd (a 2) (b 2))) ∧ Below w.heap.size w w' := by
  have hca : ∀ dd os, (Go.Sort.grow (redrawn w dd) os).heap[pa]? = some (cO a) := fun dd os => ((below_regrown w dd os).block _ (block_lt hA)).trans hA
  have hcb : ∀ dd os, (Go.Sort.grow (redrawn w dd) os).heap[pb]? = some (cO b) := fun dd os => ((below_regrown w dd os).block _ (block_lt hB)).trans hB
  have c0 := cell_regrown (cell_of_row _ _ 0 _ _ _ hA)
  have c1 := cell_regrown (cell_of_row _ _ 1 _ _ _ hA)
  have c2 := cell_regrown (cell_of_row _ _ 2 _ _ _ hA)
  have c3 := cell_regrown (cell_of_row _ _ 3 _ _ _ hA)
  have c4 := cell_regrown (cell_of_row _ _ 4 _ _ _ hA)
  have c5 := cell_regrown (cell_of_row _ _ 5 _ _ _ hA)
  have d0 := cell_regrown (cell_of_row _ _ 0 _ _ _ hB)
  have d1 := cell_regrown (cell_of_row _ _ 1 _ _ _ hB)
  have d2 := cell_regrown (cell_of_row _ _ 2 _ _ _ hB)
  have d3 := cell_regrown (cell_of_row _ _ 3 _ _ _ hB)
  have d4 := cell_regrown (cell_of_row _ _ 4 _ _ _ hB)
  have d5 := cell_regrown (cell_of_row _ _ 5 _ _ _ hB)
  simp at c0 c1 c2 c3 c4 c5 d0 d1 d2 d3 d4 d5
  have HA := hidIn hca
  obtain ⟨r, hr⟩ : ∃ r, sadd (a 2) (b 2) = r := ⟨_, rfl⟩
  have HR := hidIn hr
  rw [hr]
  clear hr
  have hak := ha 2
  have hbk := hb 2
  clear hA hB hca hcb ha hb
  go_enter Try.func34, Try.ntmps34
  go_upto_region 1 with fail
  refine wp_region_quiet_below (by kernel_rfl) (by kernel_rfl) ?_
  repeat (go_big_quiet_step (first
    | (go_at_call 37; exact Calls.regrown_of (of2_any _ _))))
  refine wpQuiet_nil ?_
  intro _ hw'
  obtain ⟨⟨dq, osq⟩, hw''⟩ := hw'
  subst hw''
  have hbr := below_regrown w dq osq
  have hA1 := HA.out dq osq
  generalize Go.Sort.grow (redrawn w dq) osq = W4 at hbr hA1 ⊢
  clear c0 c1 c2 c3 c4 c5 d0 d1 d2 d3 d4 d5 HA
  have c0 := cell_of_row _ _ 0 _ _ _ hA1
  have c1 := cell_of_row _ _ 1 _ _ _ hA1
  have c2 := cell_of_row _ _ 2 _ _ _ hA1
  have c3 := cell_of_row _ _ 3 _ _ _ hA1
  have c4 := cell_of_row _ _ 4 _ _ _ hA1
  have c5 := cell_of_row _ _ 5 _ _ _ hA1
  simp at c0 c1 c2 c3 c4 c5
  clear hA1
  have HB := hidIn hbr
  by_cases ho : 18446744073709551616 ≤ a 2 + b 2
  · have hs : sadd (a 2) (b 2) = 18446744073709551615 := if_pos ho
    have hw : IntKind.u64.wrap ((a 2 : Int) + (b 2 : Int)) = (((a 2 + b 2 - 18446744073709551616 : Nat)) : Int) := wrap_over hak hbk ho
    have hlt : ((a 2 + b 2 - 18446744073709551616 : Nat) : Int) < (a 2 : Int) := by omega
    have HE : Hid (r = _) := hidIn (HR.out.symm.trans hs)
    try rw [hw]
    have HO := hidIn ho
    clear ho hs
    go_wp2_with (go_at_call 37; refine (of2_any _ _).mono ?_; rintro e w1 ⟨rfl, hb1⟩)
    go_ret
    exact ⟨by rw [HE.out]; rfl, HB.out.trans (hb1.mono HB.out.size)⟩
  · have hs : sadd (a 2) (b 2) = a 2 + b 2 := if_neg ho
    have hw : IntKind.u64.wrap ((a 2 : Int) + (b 2 : Int)) = ((a 2 + b 2 : Nat) : Int) := wrap_in ho
    have hlt : ¬ ((a 2 + b 2 : Nat) : Int) < (a 2 : Int) := by omega
    have HE : Hid (r = _) := hidIn (HR.out.symm.trans hs)
    try rw [hw]
    have HO := hidIn ho
    clear ho hs
    go_wp2_with (go_at_call 37; refine (of2_any _ _).mono ?_; rintro e w1 ⟨rfl, hb1⟩)
    go_ret
    exact ⟨by rw [HE.out]; rfl, HB.out.trans (hb1.mono HB.out.size)⟩
end Go.Proofs.Ytkkkjpdmjgafoaa
