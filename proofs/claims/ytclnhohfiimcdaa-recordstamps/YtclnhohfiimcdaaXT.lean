/- RecordStamps. -/
import Derived.Test.YtclnhohfiimcdaaXP
namespace Go.Proofs.Ytclnhohfiimcdaa
open Go.RowKit

set_option maxRecDepth 100000 in
set_option maxHeartbeats 4000000 in
theorem recordStamps_walk (o0 e0 q0 o1 e1 q1 : Int) (bE0 : 0 ≤ e0 ∧ e0 < 4294967296) (bQ0 : 0 ≤ q0 ∧ q0 < 4294967296) (bE1 : 0 ≤ e1 ∧ e1 < 4294967296) (bQ1 : 0 ≤ q1 ∧ q1 < 4294967296) (b : ByteArray) (hb : b.size ≤ maxLen) (w : World) :
    Calls Try.prog 5 #[stV o0 e0 q0, stV o1 e1 q1, .string b] w fun e w' => e = .returned (.bool true) ∧ Below w.heap.size w w' := by
  have HE := hidIn (fun w1 => encSt_any o0 e0 q0 bE0 bQ0 w1)
  have HDE := hidIn (fun w1 => dencSt_any o0 e0 q0 bE0 bQ0 w1)
  have HD := hidIn (fun w1 => decSt_any b hb w1)
  have HDD := hidIn (fun w1 => ddecSt_any b hb w1)
  obtain ⟨E0, rfl⟩ : ∃ n : Nat, e0 = (n : Int) := ⟨e0.toNat, by omega⟩
  obtain ⟨Q0, rfl⟩ : ∃ n : Nat, q0 = (n : Int) := ⟨q0.toNat, by omega⟩
  obtain ⟨E1, rfl⟩ : ∃ n : Nat, e1 = (n : Int) := ⟨e1.toNat, by omega⟩
  obtain ⟨Q1, rfl⟩ : ∃ n : Nat, q1 = (n : Int) := ⟨q1.toNat, by omega⟩
  have HN := hidIn (fun w1 => newer_any o0 E0 Q0 o1 E1 Q1 w1)
  have HDN := hidIn (fun w1 => dnewer_any E0 Q0 E1 Q1 (by omega) (by omega) (by omega) (by omega) o0 o1 w1)
  obtain ⟨⟨t, c⟩, ht⟩ : ∃ p, esA o0 (E0 : Int) (Q0 : Int) = p := ⟨_, rfl⟩
  obtain ⟨⟨⟨x0, x1, x2⟩, d⟩, hx⟩ : ∃ p, dsA b = p := ⟨_, rfl⟩
  obtain ⟨nn, hnn⟩ : ∃ n, newI (E0 : Int) (Q0 : Int) (E1 : Int) (Q1 : Int) = n := ⟨_, rfl⟩
  rw [ht] at HE HDE
  rw [hx] at HD HDD
  rw [hnn] at HN HDN
  obtain ⟨W1, hW1⟩ : ∃ W1, (w.alloc (stO o0 E0 Q0)).alloc (stO o1 E1 Q1) = W1 := ⟨_, rfl⟩
  have b1 : Below w.heap.size w W1 := by rw [← hW1]; exact ((Below.refl _ w).alloc (Nat.le_refl _) _).alloc (by simp) _
  have hX : W1.heap[w.heap.size]? = some (stO o0 E0 Q0) := by rw [← hW1, Below.heap_alloc _ _ _ (by simp)]; exact heap_alloc_last w _
  have hY : W1.heap[w.heap.size + 1]? = some (stO o1 E1 Q1) := by
    rw [← hW1]
    have := heap_alloc_last (w.alloc (stO o0 E0 Q0)) (stO o1 E1 Q1)
    rw [World.size_alloc] at this
    exact this
  have HK : Hid (∀ wq, Below W1.heap.size W1 wq → (wq.heap[w.heap.size]? = some (stO o0 E0 Q0) ∧ wq.heap[w.heap.size + 1]? = some (stO o1 E1 Q1)) ∧ Below w.heap.size w wq) := hidIn fun wq h => ⟨⟨(h.block _ (block_lt hX)).trans hX, (h.block _ (block_lt hY)).trans hY⟩, b1.trans (h.mono b1.size)⟩
  have HW := hidIn hW1
  clear ht hx hnn hW1 b1 hX hY bE0 bQ0 bE1 bQ1 hb
  obtain ⟨⟨hX, hY⟩, _⟩ := HK.out W1 (Below.refl _ _)
  have a0 := cell_of_row _ _ 0 _ _ _ hX
  have a1 := cell_of_row _ _ 1 _ _ _ hX
  have a2 := cell_of_row _ _ 2 _ _ _ hX
  simp at a0 a1 a2
  clear hX hY
  go_enter Try.func5, Try.ntmps5
  go_upto_region 1 with fail
  rw [HW.out]
  clear HW
  go_wp2_with fail
  refine (HE.out _).mono ?_
  rintro e w2 ⟨rfl, hb2⟩
  obtain ⟨⟨hX, hY⟩, _⟩ := HK.out w2 hb2
  have HB2 := hidIn hb2
  clear a0 a1 a2 hb2 HE
  have a0 := cell_of_row _ _ 0 _ _ _ hX
  have a1 := cell_of_row _ _ 1 _ _ _ hX
  have a2 := cell_of_row _ _ 2 _ _ _ hX
  simp at a0 a1 a2
  clear hX hY
  simp only
  go_wp2_with fail
  refine (HDE.out _).mono ?_
  rintro e w3 ⟨rfl, hb3⟩
  have HB3 := hidIn (HB2.out.trans (hb3.mono HB2.out.size))
  clear a0 a1 a2 hb3 HDE HB2
  simp only
  go_wp2_with fail
  refine (HD.out _).mono ?_
  rintro e w4 ⟨rfl, hb4⟩
  have HB4 := hidIn (HB3.out.trans (hb4.mono HB3.out.size))
  clear hb4 HD HB3
  obtain ⟨V4, hV4⟩ : ∃ V4, w4.alloc (stO x0 x1 x2) = V4 := ⟨_, rfl⟩
  have bV : Below w4.heap.size w4 V4 := by rw [← hV4]; exact (Below.refl _ w4).alloc (Nat.le_refl _) _
  have hS : V4.heap[w4.heap.size]? = some (stO x0 x1 x2) := by rw [← hV4]; exact heap_alloc_last w4 _
  obtain ⟨xb, hxb⟩ : ∃ xb, w4.heap.size = xb := ⟨_, rfl⟩
  rw [hxb] at hS
  have HS := hidIn hS
  have HBV := hidIn (HB4.out.trans (bV.mono HB4.out.size))
  have HW4 := hidIn hV4
  have Hxb := hidIn hxb
  clear hV4 bV hS hxb HB4
  simp only
  go_upto_region 4 with fail
  rw [HW4.out, Hxb.out]
  clear HW4 Hxb
  go_wp2_with fail
  refine (HDD.out _).mono ?_
  rintro e w5 ⟨rfl, hb5⟩
  have hS5 := (hb5.block _ (block_lt HS.out)).trans HS.out
  have HB5 := hidIn (HBV.out.trans (hb5.mono HBV.out.size))
  clear hb5 HDD HS HBV
  obtain ⟨V5, hV5⟩ : ∃ V5, w5.alloc (stO x0 x1 x2) = V5 := ⟨_, rfl⟩
  have bV : Below w5.heap.size w5 V5 := by rw [← hV5]; exact (Below.refl _ w5).alloc (Nat.le_refl _) _
  have hT : V5.heap[w5.heap.size]? = some (stO x0 x1 x2) := by rw [← hV5]; exact heap_alloc_last w5 _
  obtain ⟨yb, hyb⟩ : ∃ yb, w5.heap.size = yb := ⟨_, rfl⟩
  rw [hyb] at hT
  have hSV := (bV.block _ (block_lt hS5)).trans hS5
  have HBV := hidIn (HB5.out.trans (bV.mono HB5.out.size))
  have HW5 := hidIn hV5
  have Hyb := hidIn hyb
  obtain ⟨⟨hX, hY⟩, _⟩ := HK.out V5 HBV.out
  have a0 := cell_regrown (cell_of_row _ _ 0 _ _ _ hX)
  have a1 := cell_regrown (cell_of_row _ _ 1 _ _ _ hX)
  have a2 := cell_regrown (cell_of_row _ _ 2 _ _ _ hX)
  have f0 := cell_regrown (cell_of_row _ _ 0 _ _ _ hY)
  have f1 := cell_regrown (cell_of_row _ _ 1 _ _ _ hY)
  have f2 := cell_regrown (cell_of_row _ _ 2 _ _ _ hY)
  have s0 := cell_regrown (cell_of_row _ _ 0 _ _ _ hSV)
  have s1 := cell_regrown (cell_of_row _ _ 1 _ _ _ hSV)
  have s2 := cell_regrown (cell_of_row _ _ 2 _ _ _ hSV)
  have u0 := cell_regrown (cell_of_row _ _ 0 _ _ _ hT)
  have u1 := cell_regrown (cell_of_row _ _ 1 _ _ _ hT)
  have u2 := cell_regrown (cell_of_row _ _ 2 _ _ _ hT)
  simp at a0 a1 a2 f0 f1 f2 s0 s1 s2 u0 u1 u2
  clear hV5 bV hT hyb HB5 hS5 hSV hX hY
  simp only
  go_upto_region 5 with fail
  rw [HW5.out, Hyb.out]
  clear HW5 Hyb
  have heq : (t.toList == t.toList) = true := by simp
  have hcc : (c == c) = true := by simp
  have hdd : (d == d) = true := by simp
  have hnq : (nn == nn) = true := by simp
  have hqs : ∀ w, (Op.equalIn 10000 32 (.agg #[.int .i64 x0, .int .u32 x1, .int .u32 x2]) (.agg #[.int .i64 x0, .int .u32 x1, .int .u32 x2])).run Try.prog w = Result.ok true w := fun w => by rw [eq_stamp]; simp
  refine wp_region_quiet_below (by kernel_rfl) (by kernel_rfl) ?_
  repeat (go_big_quiet_step (first | (go_at_call 24; exact Calls.regrown_of (HN.out _)) | (go_at_call 25; exact Calls.regrown_of (HDN.out _)) | (go_at_call 17; exact Calls.regrown_of (rworks_any _))))
  refine wpQuiet_nil ?_
  intro _ hw'
  obtain ⟨⟨dq, osq⟩, hw''⟩ := hw'
  subst hw''
  have hb4 := HBV.out.trans ((below_regrown V5 dq osq).mono HBV.out.size)
  have HB6 := hidIn (HK.out _ hb4).2
  clear hb4
  generalize Go.Sort.grow (redrawn V5 dq) osq = W4 at HB6 ⊢
  clear a0 a1 a2 f0 f1 f2 s0 s1 s2 u0 u1 u2 HN HDN hqs heq
  go_wp2_with fail
  go_ret
  exact ⟨rfl, HB6.out⟩
end Go.Proofs.Ytclnhohfiimcdaa
