/- The widths' table; header.Wide, sets.Place, table.isRouter, table.isSet (by program out of H1 and S1). -/
import Derived.Test.YtgeoghhajjlofaaGreatDoorGM
import Derived.Lib.LaidTab
import Derived.Lib.SmallJoins
import Derived.Deep.RegionHeld3
namespace Go.Proofs.YtgeoghhajjlofaaGreatDoor
open Go.RowKit

theorem gWid : Tryz.prog.globalNamed "dandelion/header.widths" = some 0 := by kernel_rfl
/-- The table of the widths, as its initialiser lays it. -/
structure Wid (w : World) : Prop where
  t : Lib.TabIs Tryz.prog w "dandelion/header.widths" .i64 [8, 16, 32, 64, 128, 256]
theorem Wid.keep {w w' : World} (h : Wid w) (hb : Below w.heap.size w w') : Wid w' := ⟨Joins.tab_stays gWid h.t hb (Nat.le_refl _)⟩
theorem Wid.cells {w : World} (h : Wid w) : w.cell? ⟨0, 0, none⟩ = some (.int .i64 8) ∧ w.cell? ⟨0, 1, none⟩ = some (.int .i64 16) ∧ w.cell? ⟨0, 2, none⟩ = some (.int .i64 32) ∧
    w.cell? ⟨0, 3, none⟩ = some (.int .i64 64) ∧ w.cell? ⟨0, 4, none⟩ = some (.int .i64 128) ∧ w.cell? ⟨0, 5, none⟩ = some (.int .i64 256) :=
  ⟨h.t.cell gWid 0 (by decide), h.t.cell gWid 1 (by decide), h.t.cell gWid 2 (by decide), h.t.cell gWid 3 (by decide), h.t.cell gWid 4 (by decide), h.t.cell gWid 5 (by decide)⟩

/-- The width of a code. -/
def wOf (c : Nat) : Int := 8 * 2 ^ c
/-- It is a width. -/
def IsW (W : Int) : Prop := W = 8 ∨ W = 16 ∨ W = 32 ∨ W = 64 ∨ W = 128 ∨ W = 256
/-- The code of a width. -/
def cOf (W : Int) : Int := if W = 8 then 0 else if W = 16 then 1 else if W = 32 then 2 else if W = 64 then 3 else if W = 128 then 4 else 5
theorem cOf_bd (W : Int) : 0 ≤ cOf W ∧ cOf W ≤ 5 := by unfold cOf; (repeat' split) <;> omega

theorem wx (x0 x1 x2 x3 x4 x5 : Value) (w : World) :
    (Instr.index 120 (.agg #[x0, x1, x2, x3, x4, x5]) (.int .i64 0)).run Tryz.prog w = .ok x0 w ∧ (Instr.index 120 (.agg #[x0, x1, x2, x3, x4, x5]) (.int .i64 1)).run Tryz.prog w = .ok x1 w ∧
    (Instr.index 120 (.agg #[x0, x1, x2, x3, x4, x5]) (.int .i64 2)).run Tryz.prog w = .ok x2 w ∧ (Instr.index 120 (.agg #[x0, x1, x2, x3, x4, x5]) (.int .i64 3)).run Tryz.prog w = .ok x3 w ∧
    (Instr.index 120 (.agg #[x0, x1, x2, x3, x4, x5]) (.int .i64 4)).run Tryz.prog w = .ok x4 w ∧ (Instr.index 120 (.agg #[x0, x1, x2, x3, x4, x5]) (.int .i64 5)).run Tryz.prog w = .ok x5 w :=
  ⟨by kernel_rfl, by kernel_rfl, by kernel_rfl, by kernel_rfl, by kernel_rfl, by kernel_rfl⟩

set_option maxHeartbeats 1000000 in
theorem codeOf_yes (W : Int) (h : IsW W) (w : World) (ht : Wid w) :
    Calls Tryz.prog 36 #[.int .i64 W] w fun e w' => e = .returned (.tuple #[.int .i64 (cOf W), .bool true]) ∧ w' = w := by
  obtain ⟨t0, t1, t2, t3, t4, t5⟩ := ht.cells
  have ix := wx (.int .i64 8) (.int .i64 16) (.int .i64 32) (.int .i64 64) (.int .i64 128) (.int .i64 256)
  unfold IsW at h
  rcases h with rfl | rfl | rfl | rfl | rfl | rfl
  all_goals
    go_enter Tryz.func36, Tryz.ntmps36
    go_wp2
    go_rounds 7
    go_ret2
    exact ⟨rfl, rfl⟩
set_option maxHeartbeats 1000000 in
theorem codeOf_no (W : Int) (h : ¬ IsW W) (w : World) (ht : Wid w) :
    Calls Tryz.prog 36 #[.int .i64 W] w fun e w' => e = .returned (.tuple #[.int .i64 0, .bool false]) ∧ w' = w := by
  obtain ⟨t0, t1, t2, t3, t4, t5⟩ := ht.cells
  have ix := wx (.int .i64 8) (.int .i64 16) (.int .i64 32) (.int .i64 64) (.int .i64 128) (.int .i64 256)
  unfold IsW at h
  have e0 : ((8 : Int) == W) = false := beq_eq_false_iff_ne.2 (by omega)
  have e1 : ((16 : Int) == W) = false := beq_eq_false_iff_ne.2 (by omega)
  have e2 : ((32 : Int) == W) = false := beq_eq_false_iff_ne.2 (by omega)
  have e3 : ((64 : Int) == W) = false := beq_eq_false_iff_ne.2 (by omega)
  have e4 : ((128 : Int) == W) = false := beq_eq_false_iff_ne.2 (by omega)
  have e5 : ((256 : Int) == W) = false := beq_eq_false_iff_ne.2 (by omega)
  clear h
  go_enter Tryz.func36, Tryz.ntmps36
  go_wp2
  go_rounds 7
  go_ret2
  exact ⟨rfl, rfl⟩
set_option maxHeartbeats 400000 in
theorem wide_yes (W : Int) (h : IsW W) (w : World) (ht : Wid w) :
    Calls Tryz.prog 16 #[.int .i64 W] w fun e w' => e = .returned (.bool true) ∧ w' = w := by
  go_enter Tryz.func16, Tryz.ntmps16
  go_wp2_with (go_at_call 36; refine (codeOf_yes W h _ ht).mono ?_; rintro e w' ⟨rfl, rfl⟩)
  go_ret
  exact ⟨rfl, rfl⟩
set_option maxHeartbeats 400000 in
theorem wide_no (W : Int) (h : ¬ IsW W) (w : World) (ht : Wid w) :
    Calls Tryz.prog 16 #[.int .i64 W] w fun e w' => e = .returned (.bool false) ∧ w' = w := by
  go_enter Tryz.func16, Tryz.ntmps16
  go_wp2_with (go_at_call 36; refine (codeOf_no W h _ ht).mono ?_; rintro e w' ⟨rfl, rfl⟩)
  go_ret
  exact ⟨rfl, rfl⟩
theorem isId_yes (i : Int) (h0 : 1 ≤ i) (h1 : i ≤ 1024) (w : World) : Calls Tryz.prog 44 #[.int .i64 i] w fun e w' => e = .returned (.bool true) ∧ w' = w := by
  go_enter Tryz.func44, Tryz.ntmps44
  go_wp2
  go_ret
  exact ⟨rfl, rfl⟩
theorem isId_no (i : Int) (h : i < 1 ∨ 1024 < i) (w : World) : Calls Tryz.prog 44 #[.int .i64 i] w fun e w' => e = .returned (.bool false) ∧ w' = w := by
  rcases h with h | h
  · go_enter Tryz.func44, Tryz.ntmps44
    go_wp2
    go_ret
    exact ⟨rfl, rfl⟩
  · have h0 : 1 ≤ i := by omega
    have h1 : ¬ i ≤ 1024 := by omega
    go_enter Tryz.func44, Tryz.ntmps44
    go_wp2
    go_ret
    exact ⟨rfl, rfl⟩
theorem isW_pos {W : Nat} (h : IsW W) : 8 ≤ W ∧ W ≤ 256 := by unfold IsW at h; omega
theorem div_w (k W : Nat) (hk : k < 1024) : wrap64 ((k : Int) / (W : Int)) = ((k / W : Nat) : Int) := by
  rw [← Int.natCast_ediv]
  have := Nat.div_le_self k W
  generalize k / W = q at this ⊢
  unfold wrap64; omega
theorem mod_w (k W : Nat) (hk : k < 1024) : wrap64 ((k : Int) % (W : Int) + 1) = ((k % W : Nat) : Int) + 1 := by
  rw [← Int.natCast_emod]
  have := Nat.mod_le k W
  generalize k % W = q at this ⊢
  unfold wrap64; omega
set_option maxHeartbeats 1000000 in
theorem place_yes (k W : Nat) (hk : k < 1024) (hW : IsW W) (w : World) (ht : Wid w) :
    Calls Tryz.prog 19 #[.int .i64 ((k : Int) + 1), .int .i64 W] w fun e w' => e = .returned (.tuple #[.int .i64 ((k / W : Nat) : Int), .int .i64 (((k % W : Nat) : Int) + 1), .int .i64 0]) ∧ Below w.heap.size w w' := by
  have hWp : (W : Int) ≠ 0 := by have := isW_pos hW; omega
  have q1 : IntKind.i64.wrap ((k : Int) + 1 - 1) = (k : Int) := by rw [Int.add_sub_cancel, IntKind.wrap_i64]; omega
  go_enter Tryz.func19, Tryz.ntmps19
  go_wp2_with (first
    | (go_at_call 16; refine (wide_yes W hW _ ht).mono ?_; rintro e w1 ⟨rfl, rfl⟩)
    | (go_at_call 44; refine (isId_yes _ (by omega) (by omega) _).mono ?_; rintro e w1 ⟨rfl, rfl⟩))
  go_region
  go_wp2
  go_returns
  refine ⟨?_, Below.drew (Below.refl _ _)⟩
  show Ending.returned (Value.tuple #[.int .i64 (wrap64 ((k : Int) / (W : Int))), .int .i64 (wrap64 ((k : Int) % (W : Int) + 1)), .int .i64 0]) = _
  rw [div_w k W hk, mod_w k W hk]
set_option maxHeartbeats 1000000 in
theorem place_no (i W : Int) (h : ¬ IsW W ∨ i < 1 ∨ 1024 < i) (w : World) (ht : Wid w) :
    Calls Tryz.prog 19 #[.int .i64 i, .int .i64 W] w fun e w' => e = .returned (.tuple #[.int .i64 0, .int .i64 0, .int .i64 2]) ∧ w' = w := by
  by_cases hW : IsW W
  · have h' : i < 1 ∨ 1024 < i := by rcases h with h | h; exact absurd hW h; exact h
    clear h
    go_enter Tryz.func19, Tryz.ntmps19
    go_wp2_with (first
      | (go_at_call 16; refine (wide_yes W hW _ ht).mono ?_; rintro e w1 ⟨rfl, rfl⟩)
      | (go_at_call 44; refine (isId_no _ h' _).mono ?_; rintro e w1 ⟨rfl, rfl⟩))
    go_returns
    exact ⟨rfl, rfl⟩
  · clear h
    go_enter Tryz.func19, Tryz.ntmps19
    go_wp2_with (go_at_call 16; refine (wide_no W hW _ ht).mono ?_; rintro e w1 ⟨rfl, rfl⟩)
    go_returns
    exact ⟨rfl, rfl⟩

theorem tisR_any (n : Int) (w : World) : Calls Tryz.prog 15 #[.int .i64 n] w fun e w' => e = .returned (.bool (decide (1 ≤ n) && decide (n ≤ 24))) ∧ w' = w := by
  by_cases h0 : 1 ≤ n
  · by_cases h1 : n ≤ 24
    · rw [decide_eq_true h0, decide_eq_true h1]
      go_enter Tryz.func15, Tryz.ntmps15
      go_wp2
      go_ret
      exact ⟨rfl, rfl⟩
    · rw [decide_eq_true h0, decide_eq_false h1]
      go_enter Tryz.func15, Tryz.ntmps15
      go_wp2
      go_ret
      exact ⟨rfl, rfl⟩
  · rw [decide_eq_false h0]
    go_enter Tryz.func15, Tryz.ntmps15
    go_wp2
    go_ret
    exact ⟨rfl, rfl⟩
theorem tisS_any (n : Int) (w : World) : Calls Tryz.prog 22 #[.int .i64 n] w fun e w' => e = .returned (.bool (decide (0 ≤ n) && decide (n < 128))) ∧ w' = w := by
  by_cases h0 : 0 ≤ n
  · by_cases h1 : n < 128
    · rw [decide_eq_true h0, decide_eq_true h1]
      go_enter Tryz.func22, Tryz.ntmps22
      go_wp2
      go_ret
      exact ⟨rfl, rfl⟩
    · rw [decide_eq_true h0, decide_eq_false h1]
      go_enter Tryz.func22, Tryz.ntmps22
      go_wp2
      go_ret
      exact ⟨rfl, rfl⟩
  · rw [decide_eq_false h0]
    go_enter Tryz.func22, Tryz.ntmps22
    go_wp2
    go_ret
    exact ⟨rfl, rfl⟩
end Go.Proofs.YtgeoghhajjlofaaGreatDoor
