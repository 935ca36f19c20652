/- bits.Lowest, bits.highest, bits.Below: the walks. -/
import Derived.Test.YtjpnbjfomikhaaaDoorW4
import Derived.Test.YtjpnbjfomikhaaaDoorM3
import Derived.Test.YtjpnbjfomikhaaaDoorShelf
import Derived.Lib.LaidTab
import Derived.Lib.SmallJoins
namespace Go.Proofs.YtjpnbjfomikhaaaDoor
open Go.RowKit

theorem gDb : Tryd.prog.globalNamed "math/bits.deBruijn64tab" = some 0 := by kernel_rfl
theorem gP10 : Tryd.prog.globalNamed "internal/strconv.uint64pow10" = some 2 := by kernel_rfl

/-- The library's two tables, as their initialisers lay them. -/
structure Tabs (w : World) : Prop where
  db : Lib.TabIs Tryd.prog w "math/bits.deBruijn64tab" .u8 (Lib.deBruijn64tab.map fun n : Nat => (n : Int))
  p10 : Lib.TabIs Tryd.prog w "internal/strconv.uint64pow10" .u64 Lib.pow10Tab
theorem Tabs.keep {w w' : World} (h : Tabs w) (hb : Below w.heap.size w w') : Tabs w' :=
  ⟨Joins.tab_stays gDb h.db hb (Nat.le_refl _), Joins.tab_stays gP10 h.p10 hb (Nat.le_refl _)⟩
theorem Tabs.at {w : World} (h : Tabs w) : TabAt 0 Lib.deBruijn64tab w := by
  intro j hj
  have := h.db.cell gDb j (by simpa using hj)
  rw [this]
  simp [List.getElem?_eq_getElem hj]

theorem tz_any (x : Nat) (hx : x < 18446744073709551616) (w : World) (h : Tabs w) :
    Calls Tryd.prog 30 #[.int .u64 x] w fun e w' => e = .returned (.int .i64 (Lib.ctz 64 x)) ∧ w' = w :=
  Any7.bits_TrailingZeros64 Tryd.laysT29 x hx w (fun _ => h.at)

set_option maxHeartbeats 400000 in
theorem lowest_none (w : World) :
    Calls Tryd.prog 7 #[.agg #[.int .u64 0, .int .u64 0, .int .u64 0, .int .u64 0]] w fun e w' => e = .returned (.int .i64 0) ∧ Below w.heap.size w w' := by
  have i0 := ix0 (.int .u64 0) (.int .u64 0) (.int .u64 0) (.int .u64 0)
  have i1 := ix1 (.int .u64 0) (.int .u64 0) (.int .u64 0) (.int .u64 0)
  have i2 := ix2 (.int .u64 0) (.int .u64 0) (.int .u64 0) (.int .u64 0)
  have i3 := ix3 (.int .u64 0) (.int .u64 0) (.int .u64 0) (.int .u64 0)
  go_enter Tryd.func7, Tryd.ntmps7
  go_wp2
  go_rounds 5
  go_ret
  exact ⟨rfl, by go_grown⟩

set_option maxHeartbeats 400000 in
theorem lowest_0 (x0 x1 x2 x3 : Nat) (h0 : 0 < x0) (hx : x0 < 18446744073709551616) (hc : Lib.ctz 64 x0 < 64) (w : World) (ht : Tabs w) :
    Calls Tryd.prog 7 #[.agg #[.int .u64 x0, .int .u64 x1, .int .u64 x2, .int .u64 x3]] w fun e w' => e = .returned (.int .i64 (((64 * 0 + Lib.ctz 64 x0 : Nat) : Int) + 1)) ∧ Below w.heap.size w w' := by
  have i0 := ix0 (.int .u64 x0) (.int .u64 x1) (.int .u64 x2) (.int .u64 x3)
  have ho : ∀ W, Tabs W → Calls Tryd.prog 30 #[.int .u64 x0] W fun e w' => e = .returned (.int .i64 (Lib.ctz 64 x0)) ∧ w' = W := fun W h => tz_any x0 hx W h
  generalize Lib.ctz 64 x0 = c at *
  have Ho : Hid (∀ W, Tabs W → Calls Tryd.prog 30 #[.int .u64 x0] W fun e w' => e = .returned (.int .i64 (c : Int)) ∧ w' = W) := ho
  clear ho
  go_enter Tryd.func7, Tryd.ntmps7
  go_wp2
  refine wp_loop_rounds 1 ?_
  repeat any_goals (rw [rounds_succ]; go_wp2_with (go_at_call 30; refine (Ho.out _ ?_).mono ?_; (exact ht.keep (by go_grown)); rintro e w' ⟨rfl, rfl⟩))
  go_ret
  refine ⟨?_, by go_grown⟩
  simp

set_option maxHeartbeats 400000 in
theorem lowest_1 (x1 x2 x3 : Nat) (h0 : 0 < x1) (hx : x1 < 18446744073709551616) (hc : Lib.ctz 64 x1 < 64) (w : World) (ht : Tabs w) :
    Calls Tryd.prog 7 #[.agg #[.int .u64 0, .int .u64 x1, .int .u64 x2, .int .u64 x3]] w fun e w' => e = .returned (.int .i64 (((64 * 1 + Lib.ctz 64 x1 : Nat) : Int) + 1)) ∧ Below w.heap.size w w' := by
  have i0 := ix0 (.int .u64 0) (.int .u64 x1) (.int .u64 x2) (.int .u64 x3)
  have i1 := ix1 (.int .u64 0) (.int .u64 x1) (.int .u64 x2) (.int .u64 x3)
  have ho : ∀ W, Tabs W → Calls Tryd.prog 30 #[.int .u64 x1] W fun e w' => e = .returned (.int .i64 (Lib.ctz 64 x1)) ∧ w' = W := fun W h => tz_any x1 hx W h
  generalize Lib.ctz 64 x1 = c at *
  have Ho : Hid (∀ W, Tabs W → Calls Tryd.prog 30 #[.int .u64 x1] W fun e w' => e = .returned (.int .i64 (c : Int)) ∧ w' = W) := ho
  clear ho
  go_enter Tryd.func7, Tryd.ntmps7
  go_wp2
  refine wp_loop_rounds 2 ?_
  repeat any_goals (rw [rounds_succ]; go_wp2_with (go_at_call 30; refine (Ho.out _ ?_).mono ?_; (exact ht.keep (by go_grown)); rintro e w' ⟨rfl, rfl⟩))
  go_ret
  refine ⟨?_, by go_grown⟩
  simp

set_option maxHeartbeats 400000 in
theorem lowest_2 (x2 x3 : Nat) (h0 : 0 < x2) (hx : x2 < 18446744073709551616) (hc : Lib.ctz 64 x2 < 64) (w : World) (ht : Tabs w) :
    Calls Tryd.prog 7 #[.agg #[.int .u64 0, .int .u64 0, .int .u64 x2, .int .u64 x3]] w fun e w' => e = .returned (.int .i64 (((64 * 2 + Lib.ctz 64 x2 : Nat) : Int) + 1)) ∧ Below w.heap.size w w' := by
  have i0 := ix0 (.int .u64 0) (.int .u64 0) (.int .u64 x2) (.int .u64 x3)
  have i1 := ix1 (.int .u64 0) (.int .u64 0) (.int .u64 x2) (.int .u64 x3)
  have i2 := ix2 (.int .u64 0) (.int .u64 0) (.int .u64 x2) (.int .u64 x3)
  have ho : ∀ W, Tabs W → Calls Tryd.prog 30 #[.int .u64 x2] W fun e w' => e = .returned (.int .i64 (Lib.ctz 64 x2)) ∧ w' = W := fun W h => tz_any x2 hx W h
  generalize Lib.ctz 64 x2 = c at *
  have Ho : Hid (∀ W, Tabs W → Calls Tryd.prog 30 #[.int .u64 x2] W fun e w' => e = .returned (.int .i64 (c : Int)) ∧ w' = W) := ho
  clear ho
  go_enter Tryd.func7, Tryd.ntmps7
  go_wp2
  refine wp_loop_rounds 3 ?_
  repeat any_goals (rw [rounds_succ]; go_wp2_with (go_at_call 30; refine (Ho.out _ ?_).mono ?_; (exact ht.keep (by go_grown)); rintro e w' ⟨rfl, rfl⟩))
  go_ret
  refine ⟨?_, by go_grown⟩
  simp

set_option maxHeartbeats 400000 in
theorem lowest_3 (x3 : Nat) (h0 : 0 < x3) (hx : x3 < 18446744073709551616) (hc : Lib.ctz 64 x3 < 64) (w : World) (ht : Tabs w) :
    Calls Tryd.prog 7 #[.agg #[.int .u64 0, .int .u64 0, .int .u64 0, .int .u64 x3]] w fun e w' => e = .returned (.int .i64 (((64 * 3 + Lib.ctz 64 x3 : Nat) : Int) + 1)) ∧ Below w.heap.size w w' := by
  have i0 := ix0 (.int .u64 0) (.int .u64 0) (.int .u64 0) (.int .u64 x3)
  have i1 := ix1 (.int .u64 0) (.int .u64 0) (.int .u64 0) (.int .u64 x3)
  have i2 := ix2 (.int .u64 0) (.int .u64 0) (.int .u64 0) (.int .u64 x3)
  have i3 := ix3 (.int .u64 0) (.int .u64 0) (.int .u64 0) (.int .u64 x3)
  have ho : ∀ W, Tabs W → Calls Tryd.prog 30 #[.int .u64 x3] W fun e w' => e = .returned (.int .i64 (Lib.ctz 64 x3)) ∧ w' = W := fun W h => tz_any x3 hx W h
  generalize Lib.ctz 64 x3 = c at *
  have Ho : Hid (∀ W, Tabs W → Calls Tryd.prog 30 #[.int .u64 x3] W fun e w' => e = .returned (.int .i64 (c : Int)) ∧ w' = W) := ho
  clear ho
  go_enter Tryd.func7, Tryd.ntmps7
  go_wp2
  refine wp_loop_rounds 4 ?_
  repeat any_goals (rw [rounds_succ]; go_wp2_with (go_at_call 30; refine (Ho.out _ ?_).mono ?_; (exact ht.keep (by go_grown)); rintro e w' ⟨rfl, rfl⟩))
  go_ret
  refine ⟨?_, by go_grown⟩
  simp

theorem wd_ne_of_least {N m : Nat} (h : Least N m) : ∃ i, i < 4 ∧ wd N i ≠ 0 ∧ (∀ k, k < i → wd N k = 0) ∧ m = 64 * i + Lib.ctz 64 (wd N i) := by
  have h1 := h.2.1
  rw [testBit_of_wd] at h1
  have hne : wd N (m / 64) ≠ 0 := by intro e; rw [e] at h1; simp at h1
  have hlow : ∀ k, k < m / 64 → wd N k = 0 := by
    intro k hk
    apply Nat.eq_of_testBit_eq
    intro j
    rw [Nat.zero_testBit, testBit_wd]
    by_cases hj : j < 64
    · rw [h.2.2 _ (by omega)]; simp
    · simp [hj]
  have hi : m / 64 < 4 := by have := h.1; omega
  refine ⟨m / 64, hi, hne, hlow, ?_⟩
  have h2 := least_word N (m / 64) hi hne hlow
  have a := lst_least h
  rw [lst_least h2] at a
  exact (List.cons.inj a).1.symm

/-- **The least bit, and 1 more; 0 of none.** -/
theorem lowest_zero (w : World) : Calls Tryd.prog 7 #[bs 0] w fun e w' => e = .returned (.int .i64 0) ∧ Below w.heap.size w w' := by
  simp only [bs, wd_zero]
  exact lowest_none w
theorem lowest_any (N m : Nat) (h : Least N m) (w : World) (ht : Tabs w) :
    Calls Tryd.prog 7 #[bs N] w fun e w' => e = .returned (.int .i64 ((m : Int) + 1)) ∧ Below w.heap.size w w' := by
  obtain ⟨i, hi, hne, hlow, rfl⟩ := wd_ne_of_least h
  have hc := (ctz_bit (wd N i) hne (wd_lt N i)).2.2
  have hcs : i = 0 ∨ i = 1 ∨ i = 2 ∨ i = 3 := by omega
  rcases hcs with rfl | rfl | rfl | rfl
  · exact lowest_0 (wd N 0) (wd N 1) (wd N 2) (wd N 3) (by omega) (wd_lt N 0) hc w ht
  · have := lowest_1 (wd N 1) (wd N 2) (wd N 3) (by omega) (wd_lt N 1) hc w ht
    simp only [bs, hlow 0 (by omega)]
    exact this
  · have := lowest_2 (wd N 2) (wd N 3) (by omega) (wd_lt N 2) hc w ht
    simp only [bs, hlow 0 (by omega), hlow 1 (by omega)]
    exact this
  · have := lowest_3 (wd N 3) (by omega) (wd_lt N 3) hc w ht
    simp only [bs, hlow 0 (by omega), hlow 1 (by omega), hlow 2 (by omega)]
    exact this
end Go.Proofs.YtjpnbjfomikhaaaDoor
