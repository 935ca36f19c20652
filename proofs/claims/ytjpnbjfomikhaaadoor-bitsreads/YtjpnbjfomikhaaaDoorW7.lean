/- bits.highest, bits.Below: the walks. -/
import Derived.Test.YtjpnbjfomikhaaaDoorW6
namespace Go.Proofs.YtjpnbjfomikhaaaDoor
open Go.RowKit

set_option maxHeartbeats 400000 in
theorem highest_none (w : World) :
    Calls Tryd.prog 32 #[.agg #[.int .u64 0, .int .u64 0, .int .u64 0, .int .u64 0]] w fun e w' => e = .returned (.int .i64 0) ∧ Below w.heap.size w w' := by
  go_enter Tryd.func32, Tryd.ntmps32
  go_wp2
  go_rounds 5
  go_ret
  exact ⟨rfl, by go_grown⟩

set_option maxHeartbeats 400000 in
theorem highest_0 (x0 : Nat) (h0 : 0 < x0) (hx : x0 < 18446744073709551616) (hc : Lib.bitLen x0 ≤ 64) (w : World) :
    Calls Tryd.prog 32 #[.agg #[.int .u64 x0, .int .u64 0, .int .u64 0, .int .u64 0]] w fun e w' => e = .returned (.int .i64 ((64 * 0 + Lib.bitLen x0 : Nat) : Int)) ∧ Below w.heap.size w w' := by
  have ho : ∀ W, Calls Tryd.prog 44 #[.int .u64 x0] W fun e w' => e = .returned (.int .i64 (Lib.bitLen x0)) ∧ w' = W := fun W => by
    have := Tryd.bits_Len64 (x0 : Int) W (by omega) (by omega)
    simpa using this
  generalize Lib.bitLen x0 = c at *
  have Ho : Hid (∀ W, Calls Tryd.prog 44 #[.int .u64 x0] W fun e w' => e = .returned (.int .i64 (c : Int)) ∧ w' = W) := ho
  clear ho
  go_enter Tryd.func32, Tryd.ntmps32
  go_wp2
  refine wp_loop_rounds 4 ?_
  repeat any_goals (rw [rounds_succ]; go_wp2_with (go_at_call 44; refine (Ho.out _).mono ?_; rintro e w' ⟨rfl, rfl⟩))
  go_ret
  refine ⟨?_, by go_grown⟩
  simp

set_option maxHeartbeats 400000 in
theorem highest_1 (x0 x1 : Nat) (h0 : 0 < x1) (hx : x1 < 18446744073709551616) (hc : Lib.bitLen x1 ≤ 64) (w : World) :
    Calls Tryd.prog 32 #[.agg #[.int .u64 x0, .int .u64 x1, .int .u64 0, .int .u64 0]] w fun e w' => e = .returned (.int .i64 ((64 * 1 + Lib.bitLen x1 : Nat) : Int)) ∧ Below w.heap.size w w' := by
  have ho : ∀ W, Calls Tryd.prog 44 #[.int .u64 x1] W fun e w' => e = .returned (.int .i64 (Lib.bitLen x1)) ∧ w' = W := fun W => by
    have := Tryd.bits_Len64 (x1 : Int) W (by omega) (by omega)
    simpa using this
  generalize Lib.bitLen x1 = c at *
  have Ho : Hid (∀ W, Calls Tryd.prog 44 #[.int .u64 x1] W fun e w' => e = .returned (.int .i64 (c : Int)) ∧ w' = W) := ho
  clear ho
  go_enter Tryd.func32, Tryd.ntmps32
  go_wp2
  refine wp_loop_rounds 3 ?_
  repeat any_goals (rw [rounds_succ]; go_wp2_with (go_at_call 44; refine (Ho.out _).mono ?_; rintro e w' ⟨rfl, rfl⟩))
  go_ret
  refine ⟨?_, by go_grown⟩
  simp

set_option maxHeartbeats 400000 in
theorem highest_2 (x0 x1 x2 : Nat) (h0 : 0 < x2) (hx : x2 < 18446744073709551616) (hc : Lib.bitLen x2 ≤ 64) (w : World) :
    Calls Tryd.prog 32 #[.agg #[.int .u64 x0, .int .u64 x1, .int .u64 x2, .int .u64 0]] w fun e w' => e = .returned (.int .i64 ((64 * 2 + Lib.bitLen x2 : Nat) : Int)) ∧ Below w.heap.size w w' := by
  have ho : ∀ W, Calls Tryd.prog 44 #[.int .u64 x2] W fun e w' => e = .returned (.int .i64 (Lib.bitLen x2)) ∧ w' = W := fun W => by
    have := Tryd.bits_Len64 (x2 : Int) W (by omega) (by omega)
    simpa using this
  generalize Lib.bitLen x2 = c at *
  have Ho : Hid (∀ W, Calls Tryd.prog 44 #[.int .u64 x2] W fun e w' => e = .returned (.int .i64 (c : Int)) ∧ w' = W) := ho
  clear ho
  go_enter Tryd.func32, Tryd.ntmps32
  go_wp2
  refine wp_loop_rounds 2 ?_
  repeat any_goals (rw [rounds_succ]; go_wp2_with (go_at_call 44; refine (Ho.out _).mono ?_; rintro e w' ⟨rfl, rfl⟩))
  go_ret
  refine ⟨?_, by go_grown⟩
  simp

set_option maxHeartbeats 400000 in
theorem highest_3 (x0 x1 x2 x3 : Nat) (h0 : 0 < x3) (hx : x3 < 18446744073709551616) (hc : Lib.bitLen x3 ≤ 64) (w : World) :
    Calls Tryd.prog 32 #[.agg #[.int .u64 x0, .int .u64 x1, .int .u64 x2, .int .u64 x3]] w fun e w' => e = .returned (.int .i64 ((64 * 3 + Lib.bitLen x3 : Nat) : Int)) ∧ Below w.heap.size w w' := by
  have ho : ∀ W, Calls Tryd.prog 44 #[.int .u64 x3] W fun e w' => e = .returned (.int .i64 (Lib.bitLen x3)) ∧ w' = W := fun W => by
    have := Tryd.bits_Len64 (x3 : Int) W (by omega) (by omega)
    simpa using this
  generalize Lib.bitLen x3 = c at *
  have Ho : Hid (∀ W, Calls Tryd.prog 44 #[.int .u64 x3] W fun e w' => e = .returned (.int .i64 (c : Int)) ∧ w' = W) := ho
  clear ho
  go_enter Tryd.func32, Tryd.ntmps32
  go_wp2
  refine wp_loop_rounds 1 ?_
  repeat any_goals (rw [rounds_succ]; go_wp2_with (go_at_call 44; refine (Ho.out _).mono ?_; rintro e w' ⟨rfl, rfl⟩))
  go_ret
  refine ⟨?_, by go_grown⟩
  simp

/-- **How long a bit string is.** -/
theorem highest_any (N : Nat) (hN : N < 2 ^ 256) (w : World) :
    Calls Tryd.prog 32 #[bs N] w fun e w' => e = .returned (.int .i64 (bl N)) ∧ Below w.heap.size w w' := by
  have hc : ∀ i, Lib.bitLen (wd N i) ≤ 64 := fun i => Lib.bitLen_le _ 64 (by omega) (wd_lt N i)
  by_cases z3 : wd N 3 = 0
  · have l3 := lt_of_top N 3 hN z3
    by_cases z2 : wd N 2 = 0
    · have l2 := lt_of_top N 2 l3 z2
      by_cases z1 : wd N 1 = 0
      · have l1 := lt_of_top N 1 l2 z1
        by_cases z0 : wd N 0 = 0
        · have l0 := lt_of_top N 0 l1 z0
          have e : N = 0 := by simpa using l0
          subst e
          simp only [bs, wd_zero]
          exact highest_none w
        · rw [bl_word N 0 l1 z0]
          have := highest_0 (wd N 0) (by omega) (wd_lt N 0) (hc 0) w
          simp only [bs, z1, z2, z3]
          exact this
      · rw [bl_word N 1 l2 z1]
        have := highest_1 (wd N 0) (wd N 1) (by omega) (wd_lt N 1) (hc 1) w
        simp only [bs, z2, z3]
        exact this
    · rw [bl_word N 2 l3 z2]
      have := highest_2 (wd N 0) (wd N 1) (wd N 2) (by omega) (wd_lt N 2) (hc 2) w
      simp only [bs, z3]
      exact this
  · rw [bl_word N 3 hN z3]
    exact highest_3 (wd N 0) (wd N 1) (wd N 2) (wd N 3) (by omega) (wd_lt N 3) (hc 3) w

set_option maxHeartbeats 400000 in
theorem below_yes (N : Nat) (hN : N < 2 ^ 256) (width : Int) (h0 : 0 ≤ width) (h1 : width ≤ 256) (h2 : (bl N : Int) ≤ width) (w : World) :
    Calls Tryd.prog 11 #[bs N, .int .i64 width] w fun e w' => e = .returned (.bool true) ∧ Below w.heap.size w w' := by
  unfold bs
  go_enter Tryd.func11, Tryd.ntmps11
  go_wp2_with (go_at_call 32; refine (highest_any N hN _).mono ?_; rintro e w1 ⟨rfl, hb1⟩)
  go_ret
  exact ⟨rfl, Below.trans (by go_grown) (hb1.mono (by simp))⟩
set_option maxHeartbeats 400000 in
theorem below_no (N : Nat) (hN : N < 2 ^ 256) (width : Int) (h : width < 0 ∨ 256 < width ∨ width < (bl N : Int)) (w : World) :
    Calls Tryd.prog 11 #[bs N, .int .i64 width] w fun e w' => e = .returned (.bool false) ∧ Below w.heap.size w w' := by
  unfold bs
  by_cases h0 : width < 0
  · clear h
    go_enter Tryd.func11, Tryd.ntmps11
    go_wp2_with (go_at_call 32; refine (highest_any N hN _).mono ?_; rintro e w1 ⟨rfl, hb1⟩)
    go_ret
    exact ⟨rfl, by go_grown⟩
  · have h0' : 0 ≤ width := by omega
    by_cases h1 : 256 < width
    · have h1' : decide (width ≤ 256) = false := by simp; omega
      clear h h0
      go_enter Tryd.func11, Tryd.ntmps11
      go_wp2_with (go_at_call 32; refine (highest_any N hN _).mono ?_; rintro e w1 ⟨rfl, hb1⟩)
      go_ret
      exact ⟨rfl, by go_grown⟩
    · have h1' : width ≤ 256 := by omega
      have h2 : width < (bl N : Int) := by omega
      have h2' : decide ((bl N : Int) ≤ width) = false := by simp; omega
      clear h h0 h1
      go_enter Tryd.func11, Tryd.ntmps11
      go_wp2_with (go_at_call 32; refine (highest_any N hN _).mono ?_; rintro e w1 ⟨rfl, hb1⟩)
      go_ret
      exact ⟨rfl, Below.trans (by go_grown) (hb1.mono (by simp))⟩
end Go.Proofs.YtjpnbjfomikhaaaDoor
