/- tally: of a tally that is none. -/
import Derived.Test.YtkkkjpdmjgafoaaA8
namespace Go.Proofs.Ytkkkjpdmjgafoaa
open Go.RowKit

theorem tat_nil (n : Int) (w : World) : Calls Try.prog 16 #[.pointer none, .int .i64 n] w fun e w' => e = .returned (.tuple #[cV0, .int .i64 1]) ∧ Below w.heap.size w w' := by
  have HC := hidIn (fun wx => tcheckN_any n wx)
  have hx := heap_alloc_last w cO0
  have HX := hidIn hx
  clear hx
  go_enter Try.func16, Try.ntmps16
  go_wp2_with (go_at_call 28; refine (HC.out _).mono ?_; rintro e w1 ⟨rfl, hw1⟩; rw [hw1]; clear hw1 w1)
  have hl := load_c0 HX.out
  refine bodyPost_ret (v := .tuple #[cV0, .int .i64 1]) (by simp [results, Try.results16, asAddr, Result.andThen, hl]) rfl ⟨rfl, by go_grown⟩
theorem add_nil (n : Int) (c : Cn) (w : World) : Calls Try.prog 26 #[.pointer none, .int .i64 n, cV c] w fun e w' => e = .returned (.int .i64 1) ∧ Below w.heap.size w w' := by
  have HC := hidIn (fun wx => tcheckN_any n wx)
  go_enter Try.func26, Try.ntmps26
  go_wp2_with (go_at_call 28; refine (HC.out _).mono ?_; rintro e w1 ⟨rfl, hw1⟩; rw [hw1]; clear hw1 w1)
  go_ret
  exact ⟨rfl, by go_grown⟩
theorem add_off {b : Nat} {w : World} (h : w.cell? ⟨b, 0, none⟩ = some (.bool false)) (n : Int) (c : Cn) : Calls Try.prog 26 #[tp b, .int .i64 n, cV c] w fun e w' => e = .returned (.int .i64 1) ∧ Below w.heap.size w w' := by
  have HC := hidIn (tcheckF_any ((((Below.refl w.heap.size w).alloc (Nat.le_refl _) (cO c)).cell (p := ⟨b, 0, none⟩) (block_lt_of_cell h)).trans h) n)
  clear h
  go_enter Try.func26, Try.ntmps26
  go_wp2_with (go_at_call 28; refine HC.out.mono ?_; rintro e w1 ⟨rfl, hw1⟩; rw [hw1]; clear hw1 w1)
  go_ret
  exact ⟨rfl, by go_grown⟩
theorem tbad_off {b : Nat} {w : World} (h : w.cell? ⟨b, 0, none⟩ = some (.bool false)) (n : Int) : Calls Try.prog 13 #[tp b, .int .i64 n] w fun e w' => e = .returned (.int .i64 1) ∧ Below w.heap.size w w' := by
  have HC := hidIn (add_off h n badC)
  clear h
  go_enter Try.func13, Try.ntmps13
  go_wp2_with fail
  refine HC.out.mono ?_
  rintro e w1 ⟨rfl, hb⟩
  go_wp2_with fail
  go_ret
  exact ⟨rfl, hb⟩
theorem tclear_nil (n : Int) (w : World) : Calls Try.prog 14 #[.pointer none, .int .i64 n] w fun e w' => e = .returned (.int .i64 1) ∧ w' = w := by
  go_enter Try.func14, Try.ntmps14
  go_wp2_with (go_at_call 28; refine (tcheckN_any n _).mono ?_; rintro e w1 ⟨rfl, hw1⟩; rw [hw1]; clear hw1 w1)
  go_ret
  exact ⟨rfl, rfl⟩
theorem tcopy_nil (w : World) : Calls Try.prog 20 #[.pointer none] w fun e w' => e = .returned (.pointer none) ∧ w' = w := by
  go_enter Try.func20, Try.ntmps20
  go_wp2_with (go_at_call 29; refine (there_nil _).mono ?_; rintro e w1 ⟨rfl, hw1⟩; rw [hw1]; clear hw1 w1)
  go_ret
  exact ⟨rfl, rfl⟩
set_option maxRecDepth 100000 in
set_option maxHeartbeats 1000000 in
theorem tall_nil (w : World) : Calls Try.prog 18 #[.pointer none] w fun e w' => e = .returned cV0 ∧ Below w.heap.size w w' := by
  obtain ⟨W1, hW1⟩ : ∃ W1, (w.alloc cO0).alloc cO0 = W1 := ⟨_, rfl⟩
  have b1 : Below w.heap.size w W1 := by rw [← hW1]; exact ((Below.refl _ w).alloc (Nat.le_refl _) _).alloc (by simp) _
  have hA : W1.heap[w.heap.size]? = some cO0 := by
    rw [← hW1, Below.heap_alloc _ _ _ (by simp)]
    exact heap_alloc_last w _
  have hB : W1.heap[w.heap.size + 1]? = some cO0 := by
    rw [← hW1]
    have := heap_alloc_last (w.alloc cO0) cO0
    rwa [World.size_alloc] at this
  obtain ⟨q, hq⟩ : ∃ q, w.heap.size = q := ⟨_, rfl⟩
  rw [hq] at hA hB
  have Hq := hidIn hq
  have d0 := cell_of_row _ _ 0 _ _ _ hB
  have d1 := cell_of_row _ _ 1 _ _ _ hB
  have d2 := cell_of_row _ _ 2 _ _ _ hB
  have d3 := cell_of_row _ _ 3 _ _ _ hB
  have d4 := cell_of_row _ _ 4 _ _ _ hB
  have d5 := cell_of_row _ _ 5 _ _ _ hB
  have e0 := cell_of_row _ _ 0 _ _ _ hA
  have e1 := cell_of_row _ _ 1 _ _ _ hA
  have e2 := cell_of_row _ _ 2 _ _ _ hA
  have e3 := cell_of_row _ _ 3 _ _ _ hA
  have e4 := cell_of_row _ _ 4 _ _ _ hA
  have e5 := cell_of_row _ _ 5 _ _ _ hA
  simp at d0 d1 d2 d3 d4 d5 e0 e1 e2 e3 e4 e5
  have f0 := frozen_new hA 0
  have f1 := frozen_new hA 1
  have f2 := frozen_new hA 2
  have f3 := frozen_new hA 3
  have f4 := frozen_new hA 4
  have f5 := frozen_new hA 5
  have HL := hidIn (load_c (setK_block (x := noC) hA noC))
  have HBe := hidIn (below_setK (b := q) b1 (by omega) noC)
  have HW := hidIn hW1
  clear hA hB b1 hW1
  go_enter Try.func18, Try.ntmps18
  go_upto_region 2 with fail
  rw [HW.out]
  clear HW hq
  go_wp2_with (go_at_call 29; refine (there_nil _).mono ?_; rintro e w1 ⟨rfl, hw1⟩; rw [hw1]; clear hw1 w1)
  have hl := HL.out
  unfold setK at hl
  refine bodyPost_ret (v := cV0) (by simp [results, Try.results18, asAddr]; exact hl) rfl ⟨rfl, HBe.out⟩
set_option maxRecDepth 100000 in
set_option maxHeartbeats 2000000 in
theorem tnote_nil (r : Int) (w : World) (L : Bool) (a : Option Addr) (n c : Nat) (hn : n < 9223372036854775808) (N M : Nat) : Calls Try.prog 11 #[.pointer none, .int .i64 r, dnV L (.slice a n c) N M] w fun e w' => e = .returned (.int .i64 1) ∧ Below w.heap.size w w' := by
  have HOf := hidIn (fun wx => tof_any L a n c hn N M wx)
  have hx := Bi.cntTo_le 256 N
  have hy := Bi.cntTo_le 256 M
  obtain ⟨C, hC⟩ : ∃ C, stepC L n (Bi.cntTo 256 N) (Bi.cntTo 256 M) = C := ⟨_, rfl⟩
  have HOk : Hid (OkC C) := hidIn (by rw [← hC]; exact stepC_ok L hn hx hy)
  rw [hC] at HOf
  clear hC hx hy
  unfold dnV at HOf ⊢
  obtain ⟨n0, hn0⟩ : ∃ z, Bi.wd N 0 = z := ⟨_, rfl⟩
  obtain ⟨n1, hn1⟩ : ∃ z, Bi.wd N 1 = z := ⟨_, rfl⟩
  obtain ⟨n2, hn2⟩ : ∃ z, Bi.wd N 2 = z := ⟨_, rfl⟩
  obtain ⟨n3, hn3⟩ : ∃ z, Bi.wd N 3 = z := ⟨_, rfl⟩
  obtain ⟨m0, hm0⟩ : ∃ z, Bi.wd M 0 = z := ⟨_, rfl⟩
  obtain ⟨m1, hm1⟩ : ∃ z, Bi.wd M 1 = z := ⟨_, rfl⟩
  obtain ⟨m2, hm2⟩ : ∃ z, Bi.wd M 2 = z := ⟨_, rfl⟩
  obtain ⟨m3, hm3⟩ : ∃ z, Bi.wd M 3 = z := ⟨_, rfl⟩
  rw [hn0, hn1, hn2, hn3, hm0, hm1, hm2, hm3] at HOf ⊢
  clear hn0 hn1 hn2 hn3 hm0 hm1 hm2 hm3
  obtain ⟨W1, hW1⟩ : ∃ W1, w.alloc (.cells #[.bool L, .slice a n c, .int .u64 n0, .int .u64 n1, .int .u64 n2, .int .u64 n3, .int .u64 m0, .int .u64 m1, .int .u64 m2, .int .u64 m3] 32) = W1 := ⟨_, rfl⟩
  have b1 : Below w.heap.size w W1 := by rw [← hW1]; exact (Below.refl _ w).alloc (Nat.le_refl _) _
  have hK : W1.heap[w.heap.size]? = some (.cells #[.bool L, .slice a n c, .int .u64 n0, .int .u64 n1, .int .u64 n2, .int .u64 n3, .int .u64 m0, .int .u64 m1, .int .u64 m2, .int .u64 m3] 32) := by rw [← hW1]; exact heap_alloc_last w _
  have HB1 := hidIn b1
  obtain ⟨q, hq⟩ : ∃ q, w.heap.size = q := ⟨_, rfl⟩
  rw [hq] at hK
  have Hq := hidIn hq
  have z0 := cell_of_row _ _ 0 _ _ _ hK
  have z1 := cell_of_row _ _ 1 _ _ _ hK
  have z2 := cell_of_row _ _ 2 _ _ _ hK
  have z3 := cell_of_row _ _ 3 _ _ _ hK
  have z4 := cell_of_row _ _ 4 _ _ _ hK
  have z5 := cell_of_row _ _ 5 _ _ _ hK
  have z6 := cell_of_row _ _ 6 _ _ _ hK
  have z7 := cell_of_row _ _ 7 _ _ _ hK
  have z8 := cell_of_row _ _ 8 _ _ _ hK
  have z9 := cell_of_row _ _ 9 _ _ _ hK
  simp at z0 z1 z2 z3 z4 z5 z6 z7 z8 z9
  have HW := hidIn hW1
  clear hK b1 hW1
  go_enter Try.func11, Try.ntmps11
  go_upto_region 1 with fail
  rw [HW.out]
  clear HW hq
  go_wp2_with fail
  refine (HOf.out _).mono ?_
  rintro e w1 ⟨rfl, hb1⟩
  have HB2 := hidIn hb1
  clear hb1 HOf z0 z1 z2 z3 z4 z5 z6 z7 z8 z9
  go_wp2_with fail
  refine (add_nil r C _).mono ?_
  rintro e w2 ⟨rfl, hF⟩
  have HF := hidIn ((HB1.out.trans (HB2.out.mono HB1.out.size)).trans (hF.mono (HB1.out.trans (HB2.out.mono HB1.out.size)).size))
  clear hF
  go_wp2_with fail
  go_ret
  exact ⟨rfl, HF.out⟩
theorem allC_no : ∀ n, allC noT n = noC
  | 0 => rfl
  | n + 1 => by unfold allC; rw [allC_no n]; funext k; rfl
theorem zeroTa (w : World) : (zeroValue 62).run Try.prog w = .ok (.agg (.bool false :: tcl noT).toArray) w := (zero_of_info infoTa).1 w
end Go.Proofs.Ytkkkjpdmjgafoaa
