/- linkMayBe. -/
import Derived.Test.YtkhfpcnmnnboeaaGVP
import Derived.Test.YtkhfpcnmnnboeaaGW0
namespace Go.Proofs.Ytkhfpcnmnnboeaa
open Go.RowKit

set_option maxRecDepth 100000 in
set_option maxHeartbeats 2000000 in
theorem link_any (f : Nat → Bool) (x y c : Int) (w : World) :
    Calls Try.prog 54 #[edV (x, y, c), .agg (mcl f).toArray] w fun e w' => e = .returned (.bool (lkOk f (x, y, c))) ∧ Below w.heap.size w w' := by
  obtain ⟨res, hres⟩ : ∃ res, lkOk f (x, y, c) = res := ⟨_, rfl⟩
  rw [hres]
  have Hres := hidIn hres
  clear hres
  obtain ⟨W0, hW0⟩ : ∃ W0, (w.alloc (.cells #[.int .i64 x, .int .i64 y, .int .i64 c] 52)).alloc (.cells (mcl f).toArray 118) = W0 := ⟨_, rfl⟩
  have hA : Arr W0 (w.heap.size + 1) 118 (mcl f) := by
    rw [← hW0]
    have := arr_new (w.alloc (.cells #[.int .i64 x, .int .i64 y, .int .i64 c] 52)) 118 (mcl f)
    rw [World.size_alloc] at this
    exact this
  have hL : W0.heap[w.heap.size]? = some (.cells #[.int .i64 x, .int .i64 y, .int .i64 c] 52) := by
    rw [← hW0, Below.heap_alloc _ _ _ (by simp)]
    exact heap_alloc_last w _
  have hb0 : Below w.heap.size w W0 := by rw [← hW0]; go_grown
  have l0 := cell_of_row _ _ 0 _ _ _ hL
  have l1 := cell_of_row _ _ 1 _ _ _ hL
  have l2 := cell_of_row _ _ 2 _ _ _ hL
  simp at l0 l1 l2
  have HA := hidIn hA
  have HW := hidIn hW0
  clear hW0 hA hL
  go_enter Try.func54, Try.ntmps54
  go_upto_region 1 with fail
  rw [HW.out]
  clear HW
  go_wp2_with fail
  refine (isR_any x _).mono ?_
  rintro e' w2 ⟨rfl, hw2⟩
  rw [hw2]
  clear hw2 w2
  obtain ⟨b1, hb1⟩ : ∃ b1, isR x = b1 := ⟨_, rfl⟩
  have Hb1 := hidIn hb1
  rw [hb1]
  clear hb1
  cases b1
  · go_wp2_with fail
    go_ret
    exact ⟨by rw [← Hres.out]; simp [lkOk, Hb1.out], hb0⟩
  go_wp2_with fail
  refine (isR_any y _).mono ?_
  rintro e' w2 ⟨rfl, hw2⟩
  rw [hw2]
  clear hw2 w2
  obtain ⟨b2, hb2⟩ : ∃ b2, isR y = b2 := ⟨_, rfl⟩
  have Hb2 := hidIn hb2
  rw [hb2]
  clear hb2
  cases b2
  · go_wp2_with fail
    go_ret
    exact ⟨by rw [← Hres.out]; simp [lkOk, Hb2.out], hb0⟩
  obtain ⟨p, rfl⟩ : ∃ p : Nat, x = (p : Int) := ⟨x.toNat, by have := isR_iff.1 Hb1.out; omega⟩
  obtain ⟨q, rfl⟩ : ∃ q : Nat, y = (q : Int) := ⟨y.toNat, by have := isR_iff.1 Hb2.out; omega⟩
  have hp : p < 25 := by have := isR_iff.1 Hb1.out; omega
  have hq : q < 25 := by have := isR_iff.1 Hb2.out; omega
  have hpi : (p : Int) < 25 := by omega
  have hqi : (q : Int) < 25 := by omega
  have m0 := HA.out.cell p
  rw [mcl_get _ hp] at m0
  have m1 := HA.out.cell q
  rw [mcl_get _ hq] at m1
  obtain ⟨b3, hb3⟩ : ∃ b3, f p = b3 := ⟨_, rfl⟩
  obtain ⟨b4, hb4⟩ : ∃ b4, f q = b4 := ⟨_, rfl⟩
  rw [hb3] at m0
  rw [hb4] at m1
  have Hb3 := hidIn hb3
  have Hb4 := hidIn hb4
  clear hb3 hb4
  cases b3
  · go_wp2_with fail
    go_ret
    exact ⟨by rw [← Hres.out]; simp [lkOk, Hb3.out], hb0⟩
  cases b4
  · go_wp2_with fail
    go_ret
    exact ⟨by rw [← Hres.out]; simp [lkOk, Hb4.out], hb0⟩
  by_cases hpq : (p : Int) = (q : Int)
  · have h1 : ((p : Int) == (q : Int)) = true := by simpa using hpq
    have Hpq := hidIn hpq
    clear hpq
    go_wp2_with fail
    go_ret
    exact ⟨by rw [← Hres.out]; simp [lkOk, Hpq.out], hb0⟩
  have h1 : ((p : Int) == (q : Int)) = false := by
    apply Bool.eq_false_iff.2
    intro h
    exact hpq (by simpa using h)
  have Hpq := hidIn hpq
  clear hpq
  go_wp2_with fail
  refine (isC_any c _).mono ?_
  rintro e' w2 ⟨rfl, hw2⟩
  rw [hw2]
  clear hw2 w2
  obtain ⟨b5, hb5⟩ : ∃ b5, isC c = b5 := ⟨_, rfl⟩
  rw [hb5]
  have Hb5 := hidIn hb5
  clear hb5
  have hd : decide ((p : Int) = (q : Int)) = false := by simpa using Hpq.out
  have Hd := hidIn hd
  clear hd
  go_wp2_with fail
  go_ret
  exact ⟨by rw [← Hres.out]; simp [lkOk, Hb1.out, Hb2.out, Hb3.out, Hb4.out, Hb5.out, Hd.out]; exact fun _ => Hpq.out, hb0⟩
end Go.Proofs.Ytkhfpcnmnnboeaa
