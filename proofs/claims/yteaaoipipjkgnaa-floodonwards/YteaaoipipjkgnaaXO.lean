/- Newer; RecordOrder. -/
import Derived.Test.YteaaoipipjkgnaaX6
import Derived.Deep.RegionHeld3
namespace Go.Proofs.Yteaaoipipjkgnaa
open Go.RowKit

/-- Which number is the greater? -/
def cmpI (a b : Int) : Int := if a < b then -1 else if b < a then 1 else 0
def newI (e q f r : Int) : Int := if cmpI e f = 0 then cmpI q r else cmpI e f
theorem isNaNU (x : Int) (w : World) : Calls Try.prog 84 #[.int .u32 x] w fun e w' => e = .returned (.bool false) ∧ w' = w := by
  go_enter Try.func84, Try.ntmps84
  go_wp2
  go_ret
  exact ⟨by simp, rfl⟩
set_option maxHeartbeats 1000000 in
theorem cmpU (a b : Int) (w : World) : Calls Try.prog 61 #[.int .u32 a, .int .u32 b] w fun e w' => e = .returned (.int .i64 (cmpI a b)) ∧ w' = w := by
  go_enter Try.func61, Try.ntmps61
  go_wp2_with fail
  refine (isNaNU a _).mono ?_
  rintro e w1 ⟨rfl, hw1⟩
  rw [hw1]
  clear hw1 w1
  go_wp2_with fail
  refine (isNaNU b _).mono ?_
  rintro e w1 ⟨rfl, hw1⟩
  rw [hw1]
  clear hw1 w1
  by_cases h1 : a < b
  · go_wp2_with fail
    go_returns
    exact ⟨by unfold cmpI; rw [if_pos h1]; rfl, rfl⟩
  by_cases h2 : b < a
  · go_wp2_with fail
    go_returns
    exact ⟨by unfold cmpI; rw [if_neg (by omega), if_pos h2]; rfl, rfl⟩
  · go_wp2_with fail
    go_returns
    exact ⟨by unfold cmpI; rw [if_neg (by omega), if_neg (by omega)]; rfl, rfl⟩
set_option maxHeartbeats 1000000 in
theorem cmpOr {v : Value} {x y : Int} {w : World} (h : SlAt ic 1 w v [x, y]) : Calls Try.prog 60 #[v] w fun e w' => e = .returned (.int .i64 (if x = 0 then y else x)) ∧ w' = w := by
  obtain ⟨a, cap, rfl, _, _, hc⟩ := h.ints
  obtain ⟨bk, o, rfl, _, hc⟩ := hc (by simp)
  have c0 := hc 0 x rfl
  have c1 := hc 1 y rfl
  simp at c0 c1
  clear hc h
  obtain ⟨res, hres⟩ : ∃ res, (if x = 0 then y else x) = res := ⟨_, rfl⟩
  rw [hres]
  have Hres := hidIn hres
  clear hres
  simp only [List.length_cons, List.length_nil, Nat.zero_add, Nat.reduceAdd]
  go_enter Try.func60, Try.ntmps60
  go_wp2_with fail
  go_loop [8] (fun i => ∃ k : Nat, k ≤ 2 ∧ i = .int .i64 k ∧ (0 < k → x = 0) ∧ (1 < k → y = 0)) (fun i => 2 - (intOf i).toNat)
  case atStart => exact ⟨0, by omega, rfl, by omega, by omega⟩
  case round =>
    obtain ⟨k, hk, rfl, h0, h1⟩ := hrel
    have hk3 : k = 0 ∨ k = 1 ∨ k = 2 := by omega
    rcases hk3 with rfl | rfl | rfl
    · by_cases hx : x = 0
      · have hx' : (x != 0) = false := by simp [hx]
        go_wp2_with fail
        go_round
        case rel => exact ⟨1, by omega, rfl, fun _ => hx, by omega⟩
        case measure => simp [intOf]
      · have hx' : (x != 0) = true := by simp [hx]
        go_wp2_with fail
        go_returns
        exact ⟨by rw [← Hres.out, if_neg hx]; rfl, rfl⟩
    · have hx := h0 (by omega)
      by_cases hy : y = 0
      · have hy' : (y != 0) = false := by simp [hy]
        have Hx := hidIn hx
        clear hx h0 h1
        go_wp2_with fail
        go_round
        case rel => exact ⟨2, by omega, rfl, fun _ => Hx.out, fun _ => hy⟩
        case measure => simp [intOf]
      · have hy' : (y != 0) = true := by simp [hy]
        have Hx := hidIn hx
        clear hx h0 h1
        go_wp2_with fail
        go_returns
        exact ⟨by rw [← Hres.out, if_pos Hx.out]; rfl, rfl⟩
    · have Hx := hidIn (h0 (by omega))
      have Hy := hidIn (h1 (by omega))
      clear h0 h1
      go_wp2_with fail
      go_returns
      exact ⟨by rw [← Hres.out, if_pos Hx.out, Hy.out]; rfl, rfl⟩
set_option maxRecDepth 100000 in
set_option maxHeartbeats 2000000 in
theorem newer_any (o e q p f r : Int) (w : World) : Calls Try.prog 24 #[stV o e q, stV p f r] w fun x w' => x = .returned (.int .i64 (newI e q f r)) ∧ Below w.heap.size w w' := by
  obtain ⟨W1, hW1⟩ : ∃ W1, (w.alloc (stO o e q)).alloc (stO p f r) = W1 := ⟨_, rfl⟩
  have b1 : Below w.heap.size w W1 := by rw [← hW1]; exact ((Below.refl _ w).alloc (Nat.le_refl _) _).alloc (by simp) _
  have hX : W1.heap[w.heap.size]? = some (stO o e q) := by rw [← hW1, Below.heap_alloc _ _ _ (by simp)]; exact heap_alloc_last w _
  have hY : W1.heap[w.heap.size + 1]? = some (stO p f r) := by
    rw [← hW1]
    have := heap_alloc_last (w.alloc (stO o e q)) (stO p f r)
    rw [World.size_alloc] at this
    exact this
  have HW := hidIn hW1
  have HB := hidIn b1
  have x1 := cell_of_row _ _ 1 _ _ _ hX
  have x2 := cell_of_row _ _ 2 _ _ _ hX
  have y1 := cell_of_row _ _ 1 _ _ _ hY
  have y2 := cell_of_row _ _ 2 _ _ _ hY
  simp at x1 x2 y1 y2
  clear hW1 b1
  obtain ⟨res, hres⟩ : ∃ res, newI e q f r = res := ⟨_, rfl⟩
  rw [hres]
  have Hres := hidIn hres
  clear hres
  go_enter Try.func24, Try.ntmps24
  go_upto_region 1 with fail
  rw [HW.out]
  clear HW
  have HOr : Hid (Calls Try.prog 60 #[.slice (some ⟨W1.heap.size, 0, none⟩) 2 2] (W1.alloc (.cells #[.int .i64 (cmpI e f), .int .i64 (cmpI q r)] 3)).drew fun x w' => x = .returned (.int .i64 res) ∧ w' = (W1.alloc (.cells #[.int .i64 (cmpI e f), .int .i64 (cmpI q r)] 3)).drew) := hidIn (by
    rw [← Hres.out]
    exact cmpOr (x := cmpI e f) (y := cmpI q r) (slAt_block (w := (W1.alloc (.cells #[.int .i64 (cmpI e f), .int .i64 (cmpI q r)] 3)).drew) (cs := ic) (sz := 1) (l := [cmpI e f, cmpI q r]) (fun _ => rfl) (T := 3) (heap_alloc_last W1 _) (by simp)))
  go_region_held3 (fun w' => w'.cell? ⟨w.heap.size, 1, none⟩ = some (.int .u32 e) ∧ w'.cell? ⟨w.heap.size, 2, none⟩ = some (.int .u32 q) ∧ w'.cell? ⟨w.heap.size + 1, 1, none⟩ = some (.int .u32 f) ∧ w'.cell? ⟨w.heap.size + 1, 2, none⟩ = some (.int .u32 r)) (go_keep)
    (first
      | (go_at_call 61; refine (cmpU _ _ _).mono ?_; rintro e' w' ⟨rfl, rfl⟩)
      | (go_at_call 60; refine HOr.out.mono ?_; rintro e' w' ⟨rfl, rfl⟩))
  go_wp2_with fail
  go_ret
  exact ⟨rfl, (HB.out.alloc HB.out.size _).drew⟩
theorem newI_neg (e q f r : Int) : newI f r e q = - newI e q f r := by
  unfold newI cmpI
  split <;> split <;> (try split) <;> (try split) <;> omega
theorem newI_zero (e q f r : Int) : newI e q f r = 0 ↔ e = f ∧ q = r := by
  unfold newI cmpI
  split <;> (try split) <;> (try split) <;> omega
theorem newI_vals (e q f r : Int) : newI e q f r = -1 ∨ newI e q f r = 0 ∨ newI e q f r = 1 := by
  unfold newI cmpI
  split <;> (try split) <;> (try split) <;> omega
theorem newI_pos (e q f r : Int) : newI e q f r = 1 ↔ (f < e ∨ (e = f ∧ r < q)) := by
  unfold newI cmpI
  split <;> (try split) <;> (try split) <;> omega
theorem newI_low (e q f r : Int) : newI e q f r = -1 ↔ (e < f ∨ (e = f ∧ q < r)) := by
  unfold newI cmpI
  split <;> (try split) <;> (try split) <;> omega
/-- An order. -/
theorem newI_ord (e q f r g s x y z : Int) (hx : newI e q f r = x) (hy : newI f r g s = y) (hz : newI e q g s = z) : (x ≠ y ∨ z = x) ∧ (x ≠ 0 ∨ z = y) ∧ (y ≠ 0 ∨ z = x) := by
  have a1 := newI_pos e q f r
  have a2 := newI_low e q f r
  have a3 := newI_zero e q f r
  have a4 := newI_vals e q f r
  have b1 := newI_pos f r g s
  have b2 := newI_low f r g s
  have b3 := newI_zero f r g s
  have b4 := newI_vals f r g s
  have c1 := newI_pos e q g s
  have c2 := newI_low e q g s
  have c3 := newI_zero e q g s
  rw [hx] at a1 a2 a3 a4
  rw [hy] at b1 b2 b3 b4
  rw [hz] at c1 c2 c3
  rcases a4 with rfl | rfl | rfl <;> rcases b4 with rfl | rfl | rfl <;> simp at a1 a2 a3 b1 b2 b3 ⊢ <;> omega
theorem newI_self (e q : Int) : newI e q e q = 0 := (newI_zero e q e q).2 ⟨rfl, rfl⟩
end Go.Proofs.Yteaaoipipjkgnaa
