/- Counts compared; tally.Note; the laws' example, done. -/
import Derived.Test.YtkkkjpdmjgafoaaA6
import Derived.Test.YtkkkjpdmjgafoaaGC
namespace Go.Proofs.Ytkkkjpdmjgafoaa
open Go.RowKit

theorem eqV (d : Nat) (x y : Int) (w : World) : (Op.equalIn (d + 1) 28 (.int .u64 x) (.int .u64 y)).run Try.prog w = .ok (x == y) w := run_equalIn_int w d _ _ _ x y Try.underlying28
theorem partC {x0 x1 x2 x3 x4 x5 : Value} (w : World) : (part 28 #[x0, x1, x2, x3, x4, x5] 0).run Try.prog w = .ok x0 w ∧ (part 28 #[x0, x1, x2, x3, x4, x5] 1).run Try.prog w = .ok x1 w ∧ (part 28 #[x0, x1, x2, x3, x4, x5] 2).run Try.prog w = .ok x2 w ∧ (part 28 #[x0, x1, x2, x3, x4, x5] 3).run Try.prog w = .ok x3 w ∧ (part 28 #[x0, x1, x2, x3, x4, x5] 4).run Try.prog w = .ok x4 w ∧ (part 28 #[x0, x1, x2, x3, x4, x5] 5).run Try.prog w = .ok x5 w :=
  ⟨by kernel_rfl, by kernel_rfl, by kernel_rfl, by kernel_rfl, by kernel_rfl, by kernel_rfl⟩
theorem cntFields : (Try.prog.fieldsOf 37).toList.map (fun f => (f.name == "_", f.type, f.offset)) = [(false, 28, 0), (false, 28, 1), (false, 28, 2), (false, 28, 3), (false, 28, 4), (false, 28, 5)] := by kernel_rfl
theorem cntUnder : Try.prog.underlying 37 = some (.struct (Try.prog.fieldsOf 37)) := by kernel_rfl
theorem cntStood : Try.prog.stoodInHeld 37 = false := by kernel_rfl
theorem eq_counts (a0 a1 a2 a3 a4 a5 b0 b1 b2 b3 b4 b5 : Int) (w : World) : (Op.equalIn 10000 37 (.agg #[.int .u64 a0, .int .u64 a1, .int .u64 a2, .int .u64 a3, .int .u64 a4, .int .u64 a5]) (.agg #[.int .u64 b0, .int .u64 b1, .int .u64 b2, .int .u64 b3, .int .u64 b4, .int .u64 b5])).run Try.prog w = Result.ok (a0 == b0 && a1 == b1 && a2 == b2 && a3 == b3 && a4 == b4 && a5 == b5) w := by
  rw [run_equalIn_struct w 9999 _ _ _ cntUnder cntStood]
  have hf := cntFields
  generalize (Try.prog.fieldsOf 37).toList = fs at hf
  obtain ⟨p0, p1, p2, p3, p4, p5⟩ := @partC (.int .u64 a0) (.int .u64 a1) (.int .u64 a2) (.int .u64 a3) (.int .u64 a4) (.int .u64 a5) w
  obtain ⟨q0, q1, q2, q3, q4, q5⟩ := @partC (.int .u64 b0) (.int .u64 b1) (.int .u64 b2) (.int .u64 b3) (.int .u64 b4) (.int .u64 b5) w
  obtain ⟨f0, r0, rfl, h0, hf⟩ := List.map_eq_cons_iff.1 hf
  obtain ⟨f1, r1, rfl, h1, hf⟩ := List.map_eq_cons_iff.1 hf
  obtain ⟨f2, r2, rfl, h2, hf⟩ := List.map_eq_cons_iff.1 hf
  obtain ⟨f3, r3, rfl, h3, hf⟩ := List.map_eq_cons_iff.1 hf
  obtain ⟨f4, r4, rfl, h4, hf⟩ := List.map_eq_cons_iff.1 hf
  obtain ⟨f5, r5, rfl, h5, hf⟩ := List.map_eq_cons_iff.1 hf
  obtain rfl := List.map_eq_nil_iff.1 hf
  simp only [Prod.mk.injEq] at h0
  obtain ⟨n0, t0, o0⟩ := h0
  simp only [Prod.mk.injEq] at h1
  obtain ⟨n1, t1, o1⟩ := h1
  simp only [Prod.mk.injEq] at h2
  obtain ⟨n2, t2, o2⟩ := h2
  simp only [Prod.mk.injEq] at h3
  obtain ⟨n3, t3, o3⟩ := h3
  simp only [Prod.mk.injEq] at h4
  obtain ⟨n4, t4, o4⟩ := h4
  simp only [Prod.mk.injEq] at h5
  obtain ⟨n5, t5, o5⟩ := h5
  rw [eqFields_cons 9999 _ _ f0 [f1, f2, f3, f4, f5] (.int .u64 a0) (.int .u64 b0) (a0 == b0) w n0 (by rw [t0, o0]; exact p0) (by rw [t0, o0]; exact q0) (by rw [t0]; exact eqV 9998 a0 b0 w)]
  rw [eqFields_cons 9999 _ _ f1 [f2, f3, f4, f5] (.int .u64 a1) (.int .u64 b1) (a1 == b1) w n1 (by rw [t1, o1]; exact p1) (by rw [t1, o1]; exact q1) (by rw [t1]; exact eqV 9998 a1 b1 w)]
  rw [eqFields_cons 9999 _ _ f2 [f3, f4, f5] (.int .u64 a2) (.int .u64 b2) (a2 == b2) w n2 (by rw [t2, o2]; exact p2) (by rw [t2, o2]; exact q2) (by rw [t2]; exact eqV 9998 a2 b2 w)]
  rw [eqFields_cons 9999 _ _ f3 [f4, f5] (.int .u64 a3) (.int .u64 b3) (a3 == b3) w n3 (by rw [t3, o3]; exact p3) (by rw [t3, o3]; exact q3) (by rw [t3]; exact eqV 9998 a3 b3 w)]
  rw [eqFields_cons 9999 _ _ f4 [f5] (.int .u64 a4) (.int .u64 b4) (a4 == b4) w n4 (by rw [t4, o4]; exact p4) (by rw [t4, o4]; exact q4) (by rw [t4]; exact eqV 9998 a4 b4 w)]
  rw [eqFields_cons 9999 _ _ f5 [] (.int .u64 a5) (.int .u64 b5) (a5 == b5) w n5 (by rw [t5, o5]; exact p5) (by rw [t5, o5]; exact q5) (by rw [t5]; exact eqV 9998 a5 b5 w)]
  cases a0 == b0 <;> cases a1 == b1 <;> cases a2 == b2 <;> cases a3 == b3 <;> cases a4 == b4 <;> cases a5 == b5 <;> simp [Op.eqFields]
theorem eq_cV (c : Cn) (w : World) : (Op.equalIn 10000 37 (cV c) (cV c)).run Try.prog w = Result.ok true w := by rw [eq_counts]; simp
theorem set10 {w : World} {b : Nat} {c0 c1 c2 c3 c4 c5 c6 c7 c8 c9 : Value} {t : TypeId} (x0 x1 x2 x3 x4 x5 x6 x7 x8 x9 : Value) (h : w.heap[b]? = some (.cells #[c0, c1, c2, c3, c4, c5, c6, c7, c8, c9] t)) : ((((((((((w.setCell ⟨b, 0, none⟩ x0).setCell ⟨b, 1, none⟩ x1).setCell ⟨b, 2, none⟩ x2).setCell ⟨b, 3, none⟩ x3).setCell ⟨b, 4, none⟩ x4).setCell ⟨b, 5, none⟩ x5).setCell ⟨b, 6, none⟩ x6).setCell ⟨b, 7, none⟩ x7).setCell ⟨b, 8, none⟩ x8).setCell ⟨b, 9, none⟩ x9).heap[b]? = some (.cells #[x0, x1, x2, x3, x4, x5, x6, x7, x8, x9] t) := by
  have h0 : (w.setCell ⟨b, 0, none⟩ x0).heap[b]? = some (.cells #[x0, c1, c2, c3, c4, c5, c6, c7, c8, c9] t) := heap_setCell_same _ b 0 _ _ x0 h
  have h1 : ((w.setCell ⟨b, 0, none⟩ x0).setCell ⟨b, 1, none⟩ x1).heap[b]? = some (.cells #[x0, x1, c2, c3, c4, c5, c6, c7, c8, c9] t) := heap_setCell_same _ b 1 _ _ x1 h0
  have h2 : (((w.setCell ⟨b, 0, none⟩ x0).setCell ⟨b, 1, none⟩ x1).setCell ⟨b, 2, none⟩ x2).heap[b]? = some (.cells #[x0, x1, x2, c3, c4, c5, c6, c7, c8, c9] t) := heap_setCell_same _ b 2 _ _ x2 h1
  have h3 : ((((w.setCell ⟨b, 0, none⟩ x0).setCell ⟨b, 1, none⟩ x1).setCell ⟨b, 2, none⟩ x2).setCell ⟨b, 3, none⟩ x3).heap[b]? = some (.cells #[x0, x1, x2, x3, c4, c5, c6, c7, c8, c9] t) := heap_setCell_same _ b 3 _ _ x3 h2
  have h4 : (((((w.setCell ⟨b, 0, none⟩ x0).setCell ⟨b, 1, none⟩ x1).setCell ⟨b, 2, none⟩ x2).setCell ⟨b, 3, none⟩ x3).setCell ⟨b, 4, none⟩ x4).heap[b]? = some (.cells #[x0, x1, x2, x3, x4, c5, c6, c7, c8, c9] t) := heap_setCell_same _ b 4 _ _ x4 h3
  have h5 : ((((((w.setCell ⟨b, 0, none⟩ x0).setCell ⟨b, 1, none⟩ x1).setCell ⟨b, 2, none⟩ x2).setCell ⟨b, 3, none⟩ x3).setCell ⟨b, 4, none⟩ x4).setCell ⟨b, 5, none⟩ x5).heap[b]? = some (.cells #[x0, x1, x2, x3, x4, x5, c6, c7, c8, c9] t) := heap_setCell_same _ b 5 _ _ x5 h4
  have h6 : (((((((w.setCell ⟨b, 0, none⟩ x0).setCell ⟨b, 1, none⟩ x1).setCell ⟨b, 2, none⟩ x2).setCell ⟨b, 3, none⟩ x3).setCell ⟨b, 4, none⟩ x4).setCell ⟨b, 5, none⟩ x5).setCell ⟨b, 6, none⟩ x6).heap[b]? = some (.cells #[x0, x1, x2, x3, x4, x5, x6, c7, c8, c9] t) := heap_setCell_same _ b 6 _ _ x6 h5
  have h7 : ((((((((w.setCell ⟨b, 0, none⟩ x0).setCell ⟨b, 1, none⟩ x1).setCell ⟨b, 2, none⟩ x2).setCell ⟨b, 3, none⟩ x3).setCell ⟨b, 4, none⟩ x4).setCell ⟨b, 5, none⟩ x5).setCell ⟨b, 6, none⟩ x6).setCell ⟨b, 7, none⟩ x7).heap[b]? = some (.cells #[x0, x1, x2, x3, x4, x5, x6, x7, c8, c9] t) := heap_setCell_same _ b 7 _ _ x7 h6
  have h8 : (((((((((w.setCell ⟨b, 0, none⟩ x0).setCell ⟨b, 1, none⟩ x1).setCell ⟨b, 2, none⟩ x2).setCell ⟨b, 3, none⟩ x3).setCell ⟨b, 4, none⟩ x4).setCell ⟨b, 5, none⟩ x5).setCell ⟨b, 6, none⟩ x6).setCell ⟨b, 7, none⟩ x7).setCell ⟨b, 8, none⟩ x8).heap[b]? = some (.cells #[x0, x1, x2, x3, x4, x5, x6, x7, x8, c9] t) := heap_setCell_same _ b 8 _ _ x8 h7
  have h9 : ((((((((((w.setCell ⟨b, 0, none⟩ x0).setCell ⟨b, 1, none⟩ x1).setCell ⟨b, 2, none⟩ x2).setCell ⟨b, 3, none⟩ x3).setCell ⟨b, 4, none⟩ x4).setCell ⟨b, 5, none⟩ x5).setCell ⟨b, 6, none⟩ x6).setCell ⟨b, 7, none⟩ x7).setCell ⟨b, 8, none⟩ x8).setCell ⟨b, 9, none⟩ x9).heap[b]? = some (.cells #[x0, x1, x2, x3, x4, x5, x6, x7, x8, x9] t) := heap_setCell_same _ b 9 _ _ x9 h8
  exact h9
theorem underDn : Try.prog.underlying 32 = some (.struct (Try.prog.fieldsOf 32)) := by kernel_rfl
theorem infoDn : (Try.prog.info? 32).map (·.size) = some 10 := by kernel_rfl
theorem load_dn {w : World} {b : Nat} {x0 x1 x2 x3 x4 x5 x6 x7 x8 x9 : Value} (h : w.heap[b]? = some (.cells #[x0, x1, x2, x3, x4, x5, x6, x7, x8, x9] 32)) : (loadVar 32 ⟨b, 0, none⟩).run Try.prog w = .ok (.agg #[x0, x1, x2, x3, x4, x5, x6, x7, x8, x9]) w :=
  run_loadVar_mid w b 0 32 [x0, x1, x2, x3, x4, x5, x6, x7, x8, x9] (.struct (Try.prog.fieldsOf 32)) (fun j v hv => by
    rw [Nat.zero_add, cell_of_row w b j _ _ _ h, List.getElem?_toArray]
    exact hv) underDn rfl infoDn
set_option maxRecDepth 100000 in
set_option maxHeartbeats 2000000 in
theorem tnote_yes {b : Nat} {T : Nat → Cn} {w : World} (h : TaAt w b T) (hT : OkT T) {r : Nat} (h1 : 1 ≤ r) (h2 : r ≤ 24) (L : Bool) (a : Option Addr) (n c : Nat) (hn : n < 9223372036854775808) (N M : Nat) : Calls Try.prog 11 #[tp b, .int .i64 r, dnV L (.slice a n c) N M] w fun e w' => e = .returned (.int .i64 0) ∧ TaAt w' b (putC T r (addC (T r) (stepC L n (Bi.cntTo 256 N) (Bi.cntTo 256 M)))) ∧ Fr (fun j => j = b) w w' := by
  have HOf := hidIn (fun wx => tof_any L a n c hn N M wx)
  have hx := Bi.cntTo_le 256 N
  have hy := Bi.cntTo_le 256 M
  obtain ⟨C, hC⟩ : ∃ C, stepC L n (Bi.cntTo 256 N) (Bi.cntTo 256 M) = C := ⟨_, rfl⟩
  have HOk : Hid (OkC C) := hidIn (by rw [← hC]; exact stepC_ok L hn hx hy)
  rw [hC] at HOf ⊢
  clear hC hx hy
  unfold dnV at HOf ⊢
  obtain ⟨n0, hn0⟩ : ∃ z, Bi.wd N 0 = z := ⟨_, rfl⟩
  obtain ⟨n1, hn1⟩ : ∃ z, Bi.wd N 1 = z := ⟨_, rfl⟩
  obtain ⟨n2, hn2⟩ : ∃ z, Bi.wd N 2 = z := ⟨_, rfl⟩
  obtain ⟨n3, hn3⟩ : ∃ z, Bi.wd N 3 = z := ⟨_, rfl⟩
  obtain ⟨m0, hm0⟩ : ∃ z, Bi.wd M 0 = z := ⟨_, rfl⟩
  obtain ⟨m1, hm1⟩ : ∃ z, Bi.wd M 1 = z := ⟨_, rfl⟩
  obtain ⟨m2, hm2⟩ : ∃ z, Bi.wd M 2 = z := ⟨_, rfl⟩
  obtain ⟨m3, hm3⟩ : ∃ z, Bi.wd M 3 = z := ⟨_, rfl⟩
  rw [hn0, hn1, hn2, hn3, hm0, hm1, hm2, hm3] at HOf ⊢
  clear hn0 hn1 hn2 hn3 hm0 hm1 hm2 hm3
  obtain ⟨W1, hW1⟩ : ∃ W1, w.alloc (.cells #[.bool L, .slice a n c, .int .u64 n0, .int .u64 n1, .int .u64 n2, .int .u64 n3, .int .u64 m0, .int .u64 m1, .int .u64 m2, .int .u64 m3] 32) = W1 := ⟨_, rfl⟩
  have b1 : Below w.heap.size w W1 := by rw [← hW1]; exact (Below.refl _ w).alloc (Nat.le_refl _) _
  have hK : W1.heap[w.heap.size]? = some (.cells #[.bool L, .slice a n c, .int .u64 n0, .int .u64 n1, .int .u64 n2, .int .u64 n3, .int .u64 m0, .int .u64 m1, .int .u64 m2, .int .u64 m3] 32) := by rw [← hW1]; exact heap_alloc_last w _
  have HT1 := hidIn (h.keep b1 h.lt)
  have HB1 := hidIn b1
  obtain ⟨q, hq⟩ : ∃ q, w.heap.size = q := ⟨_, rfl⟩
  rw [hq] at hK
  have Hq := hidIn hq
  have z0 := cell_of_row _ _ 0 _ _ _ hK
  have z1 := cell_of_row _ _ 1 _ _ _ hK
  have z2 := cell_of_row _ _ 2 _ _ _ hK
  have z3 := cell_of_row _ _ 3 _ _ _ hK
  have z4 := cell_of_row _ _ 4 _ _ _ hK
  have z5 := cell_of_row _ _ 5 _ _ _ hK
  have z6 := cell_of_row _ _ 6 _ _ _ hK
  have z7 := cell_of_row _ _ 7 _ _ _ hK
  have z8 := cell_of_row _ _ 8 _ _ _ hK
  have z9 := cell_of_row _ _ 9 _ _ _ hK
  simp at z0 z1 z2 z3 z4 z5 z6 z7 z8 z9
  have HW := hidIn hW1
  have HTk := hidIn hT
  clear h hK b1 hW1 hT
  go_enter Try.func11, Try.ntmps11
  go_upto_region 1 with fail
  rw [HW.out]
  clear HW hq
  go_wp2_with fail
  refine (HOf.out _).mono ?_
  rintro e w1 ⟨rfl, hb1⟩
  have HB2 := hidIn hb1
  clear hb1 HOf z0 z1 z2 z3 z4 z5 z6 z7 z8 z9
  go_wp2_with fail
  refine (add_yes (HT1.out.keep HB2.out HT1.out.lt) HTk.out h1 h2 HOk.out).mono ?_
  rintro e w2 ⟨rfl, hA, hF⟩
  have HA := hidIn hA
  have HF := hidIn (((Fr.of_below (S := fun j => j = b) HB1.out).trans (Fr.of_below HB2.out)).trans hF)
  clear hA hF
  go_wp2_with fail
  go_ret
  exact ⟨rfl, HA.out, HF.out⟩
set_option maxRecDepth 100000 in
set_option maxHeartbeats 2000000 in
theorem tnote_no {b : Nat} {T : Nat → Cn} {w : World} (h : TaAt w b T) (r : Int) (hr : ¬ (1 ≤ r ∧ r ≤ 24)) (L : Bool) (a : Option Addr) (n c : Nat) (hn : n < 9223372036854775808) (N M : Nat) : Calls Try.prog 11 #[tp b, .int .i64 r, dnV L (.slice a n c) N M] w fun e w' => e = .returned (.int .i64 2) ∧ Below w.heap.size w w' := by
  have HOf := hidIn (fun wx => tof_any L a n c hn N M wx)
  have hx := Bi.cntTo_le 256 N
  have hy := Bi.cntTo_le 256 M
  obtain ⟨C, hC⟩ : ∃ C, stepC L n (Bi.cntTo 256 N) (Bi.cntTo 256 M) = C := ⟨_, rfl⟩
  have HOk : Hid (OkC C) := hidIn (by rw [← hC]; exact stepC_ok L hn hx hy)
  rw [hC] at HOf
  clear hC hx hy
  unfold dnV at HOf ⊢
  obtain ⟨n0, hn0⟩ : ∃ z, Bi.wd N 0 = z := ⟨_, rfl⟩
  obtain ⟨n1, hn1⟩ : ∃ z, Bi.wd N 1 = z := ⟨_, rfl⟩
  obtain ⟨n2, hn2⟩ : ∃ z, Bi.wd N 2 = z := ⟨_, rfl⟩
  obtain ⟨n3, hn3⟩ : ∃ z, Bi.wd N 3 = z := ⟨_, rfl⟩
  obtain ⟨m0, hm0⟩ : ∃ z, Bi.wd M 0 = z := ⟨_, rfl⟩
  obtain ⟨m1, hm1⟩ : ∃ z, Bi.wd M 1 = z := ⟨_, rfl⟩
  obtain ⟨m2, hm2⟩ : ∃ z, Bi.wd M 2 = z := ⟨_, rfl⟩
  obtain ⟨m3, hm3⟩ : ∃ z, Bi.wd M 3 = z := ⟨_, rfl⟩
  rw [hn0, hn1, hn2, hn3, hm0, hm1, hm2, hm3] at HOf ⊢
  clear hn0 hn1 hn2 hn3 hm0 hm1 hm2 hm3
  obtain ⟨W1, hW1⟩ : ∃ W1, w.alloc (.cells #[.bool L, .slice a n c, .int .u64 n0, .int .u64 n1, .int .u64 n2, .int .u64 n3, .int .u64 m0, .int .u64 m1, .int .u64 m2, .int .u64 m3] 32) = W1 := ⟨_, rfl⟩
  have b1 : Below w.heap.size w W1 := by rw [← hW1]; exact (Below.refl _ w).alloc (Nat.le_refl _) _
  have hK : W1.heap[w.heap.size]? = some (.cells #[.bool L, .slice a n c, .int .u64 n0, .int .u64 n1, .int .u64 n2, .int .u64 n3, .int .u64 m0, .int .u64 m1, .int .u64 m2, .int .u64 m3] 32) := by rw [← hW1]; exact heap_alloc_last w _
  have HT1 := hidIn (h.keep b1 h.lt)
  have HB1 := hidIn b1
  obtain ⟨q, hq⟩ : ∃ q, w.heap.size = q := ⟨_, rfl⟩
  rw [hq] at hK
  have Hq := hidIn hq
  have z0 := cell_of_row _ _ 0 _ _ _ hK
  have z1 := cell_of_row _ _ 1 _ _ _ hK
  have z2 := cell_of_row _ _ 2 _ _ _ hK
  have z3 := cell_of_row _ _ 3 _ _ _ hK
  have z4 := cell_of_row _ _ 4 _ _ _ hK
  have z5 := cell_of_row _ _ 5 _ _ _ hK
  have z6 := cell_of_row _ _ 6 _ _ _ hK
  have z7 := cell_of_row _ _ 7 _ _ _ hK
  have z8 := cell_of_row _ _ 8 _ _ _ hK
  have z9 := cell_of_row _ _ 9 _ _ _ hK
  simp at z0 z1 z2 z3 z4 z5 z6 z7 z8 z9
  have HW := hidIn hW1
  clear h hK b1 hW1
  go_enter Try.func11, Try.ntmps11
  go_upto_region 1 with fail
  rw [HW.out]
  clear HW hq
  go_wp2_with fail
  refine (HOf.out _).mono ?_
  rintro e w1 ⟨rfl, hb1⟩
  have HB2 := hidIn hb1
  clear hb1 HOf z0 z1 z2 z3 z4 z5 z6 z7 z8 z9
  go_wp2_with fail
  refine (add_no (HT1.out.keep HB2.out HT1.out.lt) r hr C).mono ?_
  rintro e w2 ⟨rfl, hF⟩
  have HF := hidIn ((HB1.out.trans (HB2.out.mono HB1.out.size)).trans (hF.mono (HB1.out.trans (HB2.out.mono HB1.out.size)).size))
  clear hF
  go_wp2_with fail
  go_ret
  exact ⟨rfl, HF.out⟩
theorem infoCp : (Try.prog.info? 92).map (fun i => (i.zero, i.size, i.bytes)) = some (some (.agg #[.int .i64 0, .int .i64 0, .int .i64 0, .int .u32 0, .int .i64 0, .int .i64 0, .int .i64 0, .int .u32 0, .int .u64 0, .int .u64 0, .int .u64 0, .int .u64 0]), 12, 96) := by kernel_rfl
theorem make_cp (k : IntKind) (n : Nat) (hn : n ≤ 4) (w : World) : ∃ W, (Instr.makeSlice 27 (.int k (n : Int)) (.int k (n : Int))).run Try.prog w = .ok (.slice (some ⟨w.heap.size, 0, none⟩) n n) W ∧ Below w.heap.size w W ∧ W.heap.size = w.heap.size + 1 := by
  obtain ⟨i0, hi, hz0, hz1, hz2⟩ := info_parts infoCp
  have := run_make (P := Try.prog) w 27 92 i0 _ Try.underlying27 hi hz0 k k n n (by omega) (Int.le_refl _) (by rw [hz2]; omega) (by omega)
  refine ⟨_, by simpa using this, (Below.refl _ w).alloc (Nat.le_refl _) _, World.size_alloc _ _⟩
set_option maxRecDepth 100000 in
set_option maxHeartbeats 2000000 in
theorem exampleD_any (w : World) : Calls Try.prog 23 #[] w fun e w' => (∃ a c, e = .returned (dnV true (.slice a 2 c) 257 0)) ∧ Below w.heap.size w w' := by
  obtain ⟨W1, hW1⟩ : ∃ W1, w.alloc (.cells #[.bool false, .slice none 0 0, .int .u64 0, .int .u64 0, .int .u64 0, .int .u64 0, .int .u64 0, .int .u64 0, .int .u64 0, .int .u64 0] 32) = W1 := ⟨_, rfl⟩
  have b1 : Below w.heap.size w W1 := by rw [← hW1]; exact (Below.refl _ w).alloc (Nat.le_refl _) _
  have hK : W1.heap[w.heap.size]? = some (.cells #[.bool false, .slice none 0 0, .int .u64 0, .int .u64 0, .int .u64 0, .int .u64 0, .int .u64 0, .int .u64 0, .int .u64 0, .int .u64 0] 32) := by rw [← hW1]; exact heap_alloc_last w _
  obtain ⟨W2, hmk, hb2, _⟩ := make_cp .i64 2 (by omega) W1
  have hK2 := (hb2.block _ (block_lt hK)).trans hK
  have hB2 := b1.trans (hb2.mono b1.size)
  have HL := hidIn (load_dn (set10 (.bool true) (.slice (some ⟨W1.heap.size, 0, none⟩) 2 2) (.int .u64 257) (.int .u64 0) (.int .u64 0) (.int .u64 0) (.int .u64 0) (.int .u64 0) (.int .u64 0) (.int .u64 0) hK2))
  have HBe : Hid (Below w.heap.size w ((((((((((W2.setCell ⟨w.heap.size, 0, none⟩ (.bool true)).setCell ⟨w.heap.size, 1, none⟩ (.slice (some ⟨W1.heap.size, 0, none⟩) 2 2)).setCell ⟨w.heap.size, 2, none⟩ (.int .u64 257)).setCell ⟨w.heap.size, 3, none⟩ (.int .u64 0)).setCell ⟨w.heap.size, 4, none⟩ (.int .u64 0)).setCell ⟨w.heap.size, 5, none⟩ (.int .u64 0)).setCell ⟨w.heap.size, 6, none⟩ (.int .u64 0)).setCell ⟨w.heap.size, 7, none⟩ (.int .u64 0)).setCell ⟨w.heap.size, 8, none⟩ (.int .u64 0)).setCell ⟨w.heap.size, 9, none⟩ (.int .u64 0))) := hidIn (((((((((((hB2.setCell (p := ⟨w.heap.size, 0, none⟩) (Nat.le_refl _) _).setCell (p := ⟨w.heap.size, 1, none⟩) (Nat.le_refl _) _).setCell (p := ⟨w.heap.size, 2, none⟩) (Nat.le_refl _) _).setCell (p := ⟨w.heap.size, 3, none⟩) (Nat.le_refl _) _).setCell (p := ⟨w.heap.size, 4, none⟩) (Nat.le_refl _) _).setCell (p := ⟨w.heap.size, 5, none⟩) (Nat.le_refl _) _).setCell (p := ⟨w.heap.size, 6, none⟩) (Nat.le_refl _) _).setCell (p := ⟨w.heap.size, 7, none⟩) (Nat.le_refl _) _).setCell (p := ⟨w.heap.size, 8, none⟩) (Nat.le_refl _) _).setCell (p := ⟨w.heap.size, 9, none⟩) (Nat.le_refl _) _))
  obtain ⟨q, hq⟩ : ∃ q, w.heap.size = q := ⟨_, rfl⟩
  rw [hq] at hK2 HL HBe ⊢
  have z0 := cell_of_row _ _ 0 _ _ _ hK2
  have z1 := cell_of_row _ _ 1 _ _ _ hK2
  have z2 := cell_of_row _ _ 2 _ _ _ hK2
  have z3 := cell_of_row _ _ 3 _ _ _ hK2
  have z4 := cell_of_row _ _ 4 _ _ _ hK2
  have z5 := cell_of_row _ _ 5 _ _ _ hK2
  have z6 := cell_of_row _ _ 6 _ _ _ hK2
  have z7 := cell_of_row _ _ 7 _ _ _ hK2
  have z8 := cell_of_row _ _ 8 _ _ _ hK2
  have z9 := cell_of_row _ _ 9 _ _ _ hK2
  simp at z0 z1 z2 z3 z4 z5 z6 z7 z8 z9
  have fz0 := frozen_new hK2 0
  have fz1 := frozen_new hK2 1
  have fz2 := frozen_new hK2 2
  have fz3 := frozen_new hK2 3
  have fz4 := frozen_new hK2 4
  have fz5 := frozen_new hK2 5
  have fz6 := frozen_new hK2 6
  have fz7 := frozen_new hK2 7
  have fz8 := frozen_new hK2 8
  have fz9 := frozen_new hK2 9
  have HW := hidIn hW1
  have hmk' : (Instr.makeSlice 27 (.int .i64 2) (.int .i64 2)).run Try.prog W1 = .ok (.slice (some ⟨W1.heap.size, 0, none⟩) 2 2) W2 := hmk
  clear hW1 b1 hK hb2 hK2 hB2 hmk
  go_enter Try.func23, Try.ntmps23
  go_upto_region 1 with fail
  rw [HW.out]
  clear HW hq
  go_wp2_with fail
  have hl := HL.out
  refine bodyPost_ret (v := dnV true (.slice (some ⟨W1.heap.size, 0, none⟩) 2 2) 257 0) (by simp [results, Try.results23, asAddr]; exact hl) rfl ⟨⟨_, _, rfl⟩, HBe.out⟩
abbrev mkV (R C : Nat) (L : Bool) (N M : Nat) : Value := .agg #[.int .u8 R, .int .u8 C, .bool L, .int .u64 (Bi.wd N 0), .int .u64 (Bi.wd N 1), .int .u64 (Bi.wd N 2), .int .u64 (Bi.wd N 3), .int .u64 (Bi.wd M 0), .int .u64 (Bi.wd M 1), .int .u64 (Bi.wd M 2), .int .u64 (Bi.wd M 3)]
set_option maxRecDepth 100000 in
set_option maxHeartbeats 2000000 in
theorem done_any (R C : Nat) (L : Bool) (N M : Nat) (hC : C < 256) (w : World) : Calls Try.prog 22 #[mkV R C L N M] w fun e w' => (∃ a c, e = .returned (dnV L (.slice a (C % 5) c) N M)) ∧ Below w.heap.size w w' := by
  unfold mkV dnV
  obtain ⟨n0, hn0⟩ : ∃ z, Bi.wd N 0 = z := ⟨_, rfl⟩
  obtain ⟨n1, hn1⟩ : ∃ z, Bi.wd N 1 = z := ⟨_, rfl⟩
  obtain ⟨n2, hn2⟩ : ∃ z, Bi.wd N 2 = z := ⟨_, rfl⟩
  obtain ⟨n3, hn3⟩ : ∃ z, Bi.wd N 3 = z := ⟨_, rfl⟩
  obtain ⟨m0, hm0⟩ : ∃ z, Bi.wd M 0 = z := ⟨_, rfl⟩
  obtain ⟨m1, hm1⟩ : ∃ z, Bi.wd M 1 = z := ⟨_, rfl⟩
  obtain ⟨m2, hm2⟩ : ∃ z, Bi.wd M 2 = z := ⟨_, rfl⟩
  obtain ⟨m3, hm3⟩ : ∃ z, Bi.wd M 3 = z := ⟨_, rfl⟩
  rw [hn0, hn1, hn2, hn3, hm0, hm1, hm2, hm3]
  clear hn0 hn1 hn2 hn3 hm0 hm1 hm2 hm3
  obtain ⟨W1, hW1⟩ : ∃ W1, (w.alloc (.cells #[.int .u8 R, .int .u8 C, .bool L, .int .u64 n0, .int .u64 n1, .int .u64 n2, .int .u64 n3, .int .u64 m0, .int .u64 m1, .int .u64 m2, .int .u64 m3] 53)).alloc (.cells #[.bool false, .slice none 0 0, .int .u64 0, .int .u64 0, .int .u64 0, .int .u64 0, .int .u64 0, .int .u64 0, .int .u64 0, .int .u64 0] 32) = W1 := ⟨_, rfl⟩
  have b1 : Below w.heap.size w W1 := by rw [← hW1]; exact ((Below.refl _ w).alloc (Nat.le_refl _) _).alloc (by simp) _
  have hK : W1.heap[w.heap.size]? = some (.cells #[.int .u8 R, .int .u8 C, .bool L, .int .u64 n0, .int .u64 n1, .int .u64 n2, .int .u64 n3, .int .u64 m0, .int .u64 m1, .int .u64 m2, .int .u64 m3] 53) := by rw [← hW1, Below.heap_alloc _ _ _ (by simp)]; exact heap_alloc_last w _
  have hR : W1.heap[w.heap.size + 1]? = some (.cells #[.bool false, .slice none 0 0, .int .u64 0, .int .u64 0, .int .u64 0, .int .u64 0, .int .u64 0, .int .u64 0, .int .u64 0, .int .u64 0] 32) := by
    rw [← hW1]
    have := heap_alloc_last (w.alloc (.cells #[.int .u8 R, .int .u8 C, .bool L, .int .u64 n0, .int .u64 n1, .int .u64 n2, .int .u64 n3, .int .u64 m0, .int .u64 m1, .int .u64 m2, .int .u64 m3] 53)) (.cells #[.bool false, .slice none 0 0, .int .u64 0, .int .u64 0, .int .u64 0, .int .u64 0, .int .u64 0, .int .u64 0, .int .u64 0, .int .u64 0] 32)
    rwa [World.size_alloc] at this
  obtain ⟨q, hq⟩ : ∃ q, w.heap.size = q := ⟨_, rfl⟩
  rw [hq] at hK hR
  have Hq := hidIn hq
  have HCl : Hid (∀ wq, Fr (fun j => j = q + 1) W1 wq → wq.cell? ⟨q, 0, none⟩ = some (.int .u8 R) ∧ wq.cell? ⟨q, 1, none⟩ = some (.int .u8 C) ∧ wq.cell? ⟨q, 2, none⟩ = some (.bool L) ∧ wq.cell? ⟨q, 3, none⟩ = some (.int .u64 n0) ∧ wq.cell? ⟨q, 4, none⟩ = some (.int .u64 n1) ∧ wq.cell? ⟨q, 5, none⟩ = some (.int .u64 n2) ∧ wq.cell? ⟨q, 6, none⟩ = some (.int .u64 n3) ∧ wq.cell? ⟨q, 7, none⟩ = some (.int .u64 m0) ∧ wq.cell? ⟨q, 8, none⟩ = some (.int .u64 m1) ∧ wq.cell? ⟨q, 9, none⟩ = some (.int .u64 m2) ∧ wq.cell? ⟨q, 10, none⟩ = some (.int .u64 m3)) := hidIn fun wq h => by
    have j := (h.block _ (block_lt hK) (by omega)).trans hK
    exact ⟨cell_of_row _ _ 0 _ _ _ j, cell_of_row _ _ 1 _ _ _ j, cell_of_row _ _ 2 _ _ _ j, cell_of_row _ _ 3 _ _ _ j, cell_of_row _ _ 4 _ _ _ j, cell_of_row _ _ 5 _ _ _ j, cell_of_row _ _ 6 _ _ _ j, cell_of_row _ _ 7 _ _ _ j, cell_of_row _ _ 8 _ _ _ j, cell_of_row _ _ 9 _ _ _ j, cell_of_row _ _ 10 _ _ _ j⟩
  have HR := hidIn hR
  have HW := hidIn hW1
  have HB1 := hidIn b1
  have Hlt := hidIn (block_lt hR)
  obtain ⟨n, hn⟩ : ∃ n, C % 5 = n := ⟨_, rfl⟩
  have hn5 : n ≤ 4 := by omega
  have hm : (C : Int).tmod 5 = (n : Int) := by rw [← hn, Int.tmod_eq_emod_of_nonneg (by omega)]; rfl
  have wn : IntKind.u8.wrap (n : Int) = (n : Int) := by rw [IntKind.wrap_u8]; omega
  rw [hn]
  clear hK hR hW1 b1 hn
  go_enter Try.func22, Try.ntmps22
  go_upto_region 1 with fail
  rw [HW.out]
  clear HW hq
  refine wp_region_held_drew (S := fun wx => Fr (fun j => j = q + 1) W1 wx) (by kernel_rfl) ((Fr.refl _ W1).drew) (fun hHeld => ?_)
  have hd0 : Fr (fun j => j = q + 1) W1 W1.drew := hHeld
  have hb0 : Below W1.heap.size W1 W1.drew := (Below.refl _ W1).drew
  obtain ⟨wd, hwd⟩ : ∃ wd, W1.drew = wd := ⟨_, rfl⟩
  rw [hwd] at hd0 hb0 ⊢
  clear hwd hHeld
  refine wpAnyH_take (i := 0) (v := .pointer (some ⟨q, 2, none⟩)) rfl (by kernel_rfl) (by kernel_rfl) (by kernel_rfl) (fun _ _ _ h => h) (Or.inl ⟨by kernel_rfl, fun _ _ => by kernel_rfl⟩) (by assumption) ?_
  refine wpAnyH_take (i := 1) (v := .bool L) rfl (by kernel_rfl) (by kernel_rfl) (by kernel_rfl) (fun _ _ _ h => h) (Or.inl ⟨by kernel_rfl, fun wq hSw => by
    obtain ⟨u0, u1, u2, u3, u4, u5, u6, u7, u8, u9, ua⟩ := HCl.out wq hSw
    go_simp⟩) (by assumption) ?_
  refine wpAnyH_take (i := 2) (v := .pointer (some ⟨q, 1, none⟩)) rfl (by kernel_rfl) (by kernel_rfl) (by kernel_rfl) (fun _ _ _ h => h) (Or.inl ⟨by kernel_rfl, fun _ _ => by kernel_rfl⟩) (by assumption) ?_
  refine wpAnyH_take (i := 3) (v := .int .u8 C) rfl (by kernel_rfl) (by kernel_rfl) (by kernel_rfl) (fun _ _ _ h => h) (Or.inl ⟨by kernel_rfl, fun wq hSw => by
    obtain ⟨u0, u1, u2, u3, u4, u5, u6, u7, u8, u9, ua⟩ := HCl.out wq hSw
    go_simp⟩) (by assumption) ?_
  refine wpAnyH_take (i := 4) (v := .int .u8 n) rfl (by kernel_rfl) (by kernel_rfl) (by kernel_rfl) (fun _ _ _ h => h) (Or.inl ⟨by kernel_rfl, fun _ _ => by go_simp⟩) (by assumption) ?_
  refine wpAnyH_take (i := 6) (v := .pointer (some ⟨q, 3, none⟩)) rfl (by kernel_rfl) (by kernel_rfl) (by kernel_rfl) (fun _ _ _ h => h) (Or.inl ⟨by kernel_rfl, fun _ _ => by kernel_rfl⟩) (by assumption) ?_
  refine wpAnyH_take (i := 7) (v := .agg #[.int .u64 n0, .int .u64 n1, .int .u64 n2, .int .u64 n3]) rfl (by kernel_rfl) (by kernel_rfl) (by kernel_rfl) (fun _ _ _ h => h) (Or.inl ⟨by kernel_rfl, fun wq hSw => by
    obtain ⟨u0, u1, u2, u3, u4, u5, u6, u7, u8, u9, ua⟩ := HCl.out wq hSw
    go_simp⟩) (by assumption) ?_
  refine wpAnyH_take (i := 8) (v := .pointer (some ⟨q, 7, none⟩)) rfl (by kernel_rfl) (by kernel_rfl) (by kernel_rfl) (fun _ _ _ h => h) (Or.inl ⟨by kernel_rfl, fun _ _ => by kernel_rfl⟩) (by assumption) ?_
  refine wpAnyH_take (i := 9) (v := .agg #[.int .u64 m0, .int .u64 m1, .int .u64 m2, .int .u64 m3]) rfl (by kernel_rfl) (by kernel_rfl) (by kernel_rfl) (fun _ _ _ h => h) (Or.inl ⟨by kernel_rfl, fun wq hSw => by
    obtain ⟨u0, u1, u2, u3, u4, u5, u6, u7, u8, u9, ua⟩ := HCl.out wq hSw
    go_simp⟩) (by assumption) ?_
  obtain ⟨W2, hmk, hb2, _⟩ := make_cp .u8 n hn5 wd
  obtain ⟨g, hg⟩ : ∃ g, wd.heap.size = g := ⟨_, rfl⟩
  have hd2 := hd0.trans (Fr.of_below (S := fun j => j = q + 1) hb2)
  have hb3 := hb0.trans (hb2.mono hb0.size)
  rw [hg] at hmk
  refine wpAnyH_ready (rs := [5]) (by kernel_rfl) (by simp) ?_
  refine AllReadyH.cons (i := 5) rfl ?_ AllReadyH.nil
  go_simp
  intro K hK
  refine hK.out _ _ hd2 (fun _ => ?_)
  clear hK K
  refine wpAnyH_take (i := 10) (v := .agg #[.bool L, .slice (some ⟨g, 0, none⟩) n n, .int .u64 n0, .int .u64 n1, .int .u64 n2, .int .u64 n3, .int .u64 m0, .int .u64 m1, .int .u64 m2, .int .u64 m3]) rfl (by kernel_rfl) (by kernel_rfl) (by kernel_rfl) (fun _ _ _ h => h) (Or.inl ⟨by kernel_rfl, fun _ _ => by kernel_rfl⟩) (by assumption) ?_
  have hK2 := (hb3.block _ Hlt.out).trans HR.out
  have hl := load_dn (set10 (.bool L) (.slice (some ⟨g, 0, none⟩) n n) (.int .u64 n0) (.int .u64 n1) (.int .u64 n2) (.int .u64 n3) (.int .u64 m0) (.int .u64 m1) (.int .u64 m2) (.int .u64 m3) hK2)
  have hF : Fr (fun j => j = q + 1) W2 ((((((((((W2.setCell ⟨(q + 1), 0, none⟩ (.bool L)).setCell ⟨(q + 1), 1, none⟩ (.slice (some ⟨g, 0, none⟩) n n)).setCell ⟨(q + 1), 2, none⟩ (.int .u64 n0)).setCell ⟨(q + 1), 3, none⟩ (.int .u64 n1)).setCell ⟨(q + 1), 4, none⟩ (.int .u64 n2)).setCell ⟨(q + 1), 5, none⟩ (.int .u64 n3)).setCell ⟨(q + 1), 6, none⟩ (.int .u64 m0)).setCell ⟨(q + 1), 7, none⟩ (.int .u64 m1)).setCell ⟨(q + 1), 8, none⟩ (.int .u64 m2)).setCell ⟨(q + 1), 9, none⟩ (.int .u64 m3)) := ((((((((((Fr.refl (fun j => j = q + 1) W2).set (p := ⟨q + 1, 0, none⟩) rfl _).set (p := ⟨q + 1, 1, none⟩) rfl _).set (p := ⟨q + 1, 2, none⟩) rfl _).set (p := ⟨q + 1, 3, none⟩) rfl _).set (p := ⟨q + 1, 4, none⟩) rfl _).set (p := ⟨q + 1, 5, none⟩) rfl _).set (p := ⟨q + 1, 6, none⟩) rfl _).set (p := ⟨q + 1, 7, none⟩) rfl _).set (p := ⟨q + 1, 8, none⟩) rfl _).set (p := ⟨q + 1, 9, none⟩) rfl _
  have HBe := hidIn (HB1.out.trans (hb3.mono HB1.out.size))
  have z0 := cell_of_row _ _ 0 _ _ _ hK2
  have z1 := cell_of_row _ _ 1 _ _ _ hK2
  have z2 := cell_of_row _ _ 2 _ _ _ hK2
  have z3 := cell_of_row _ _ 3 _ _ _ hK2
  have z4 := cell_of_row _ _ 4 _ _ _ hK2
  have z5 := cell_of_row _ _ 5 _ _ _ hK2
  have z6 := cell_of_row _ _ 6 _ _ _ hK2
  have z7 := cell_of_row _ _ 7 _ _ _ hK2
  have z8 := cell_of_row _ _ 8 _ _ _ hK2
  have z9 := cell_of_row _ _ 9 _ _ _ hK2
  simp at z0 z1 z2 z3 z4 z5 z6 z7 z8 z9
  have fz0 := frozen_new hK2 0
  have fz1 := frozen_new hK2 1
  have fz2 := frozen_new hK2 2
  have fz3 := frozen_new hK2 3
  have fz4 := frozen_new hK2 4
  have fz5 := frozen_new hK2 5
  have fz6 := frozen_new hK2 6
  have fz7 := frozen_new hK2 7
  have fz8 := frozen_new hK2 8
  have fz9 := frozen_new hK2 9
  clear hK2 hmk hb2
  refine wpAnyH_ready (rs := [11]) (by kernel_rfl) (by simp) ?_
  refine AllReadyH.cons (i := 11) rfl ?_ AllReadyH.nil
  go_simp
  intro K hK
  have hSe := hd2.trans hF
  have hfin : Below w.heap.size w _ := HBe.out.trans (hF.below HBe.out.size (fun j hj => by have := Hq.out; omega))
  generalize (((((((((World.setCell _ _ _).setCell _ _).setCell _ _).setCell _ _).setCell _ _).setCell _ _).setCell _ _).setCell _ _).setCell _ _).setCell _ _ = W5 at hl hF hSe hfin ⊢
  refine hK.out _ _ hSe (fun _ => ?_)
  clear hK K z0 fz0 z1 fz1 z2 fz2 z3 fz3 z4 fz4 z5 fz5 z6 fz6 z7 fz7 z8 fz8 z9 fz9
  refine wpAnyH_done (by kernel_rfl) ?_ _
  go_wp2_with fail
  refine bodyPost_ret (v := .agg #[.bool L, .slice (some ⟨g, 0, none⟩) n n, .int .u64 n0, .int .u64 n1, .int .u64 n2, .int .u64 n3, .int .u64 m0, .int .u64 m1, .int .u64 m2, .int .u64 m3]) (by simp [results, Try.results22, asAddr]; exact hl) rfl ⟨⟨_, _, rfl⟩, hfin⟩
end Go.Proofs.Ytkkkjpdmjgafoaa
