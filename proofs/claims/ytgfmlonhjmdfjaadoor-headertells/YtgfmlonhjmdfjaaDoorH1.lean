/- The widths' table; header.codeOf, Wide, Size, within, inRange. -/
import Derived.Test.YtgfmlonhjmdfjaaDoorW7
import Derived.Test.YtgfmlonhjmdfjaaDoorB2
import Derived.Lib.LaidTab
import Derived.Lib.SmallJoins
namespace Go.Proofs.YtgfmlonhjmdfjaaDoor
open Go.RowKit

theorem gWid : Tryd.prog.globalNamed "dandelion/header.widths" = some 0 := by kernel_rfl
/-- The table of the widths, as its initialiser lays it. -/
structure Wid (w : World) : Prop where
  t : Lib.TabIs Tryd.prog w "dandelion/header.widths" .i64 [8, 16, 32, 64, 128, 256]
theorem Wid.keep {w w' : World} (h : Wid w) (hb : Below w.heap.size w w') : Wid w' := ⟨Joins.tab_stays gWid h.t hb (Nat.le_refl _)⟩
theorem Wid.cells {w : World} (h : Wid w) : w.cell? ⟨0, 0, none⟩ = some (.int .i64 8) ∧ w.cell? ⟨0, 1, none⟩ = some (.int .i64 16) ∧ w.cell? ⟨0, 2, none⟩ = some (.int .i64 32) ∧
    w.cell? ⟨0, 3, none⟩ = some (.int .i64 64) ∧ w.cell? ⟨0, 4, none⟩ = some (.int .i64 128) ∧ w.cell? ⟨0, 5, none⟩ = some (.int .i64 256) :=
  ⟨h.t.cell gWid 0 (by decide), h.t.cell gWid 1 (by decide), h.t.cell gWid 2 (by decide), h.t.cell gWid 3 (by decide), h.t.cell gWid 4 (by decide), h.t.cell gWid 5 (by decide)⟩

/-- The width of a code. -/
def wOf (c : Nat) : Int := 8 * 2 ^ c
/-- It is a width. -/
def IsW (W : Int) : Prop := W = 8 ∨ W = 16 ∨ W = 32 ∨ W = 64 ∨ W = 128 ∨ W = 256
/-- The code of a width. -/
def cOf (W : Int) : Int := if W = 8 then 0 else if W = 16 then 1 else if W = 32 then 2 else if W = 64 then 3 else if W = 128 then 4 else 5
theorem cOf_bd (W : Int) : 0 ≤ cOf W ∧ cOf W ≤ 5 := by unfold cOf; (repeat' split) <;> omega

theorem wx (x0 x1 x2 x3 x4 x5 : Value) (w : World) :
    (Instr.index 63 (.agg #[x0, x1, x2, x3, x4, x5]) (.int .i64 0)).run Tryd.prog w = .ok x0 w ∧ (Instr.index 63 (.agg #[x0, x1, x2, x3, x4, x5]) (.int .i64 1)).run Tryd.prog w = .ok x1 w ∧
    (Instr.index 63 (.agg #[x0, x1, x2, x3, x4, x5]) (.int .i64 2)).run Tryd.prog w = .ok x2 w ∧ (Instr.index 63 (.agg #[x0, x1, x2, x3, x4, x5]) (.int .i64 3)).run Tryd.prog w = .ok x3 w ∧
    (Instr.index 63 (.agg #[x0, x1, x2, x3, x4, x5]) (.int .i64 4)).run Tryd.prog w = .ok x4 w ∧ (Instr.index 63 (.agg #[x0, x1, x2, x3, x4, x5]) (.int .i64 5)).run Tryd.prog w = .ok x5 w :=
  ⟨by kernel_rfl, by kernel_rfl, by kernel_rfl, by kernel_rfl, by kernel_rfl, by kernel_rfl⟩

set_option maxHeartbeats 1000000 in
theorem codeOf_yes (W : Int) (h : IsW W) (w : World) (ht : Wid w) :
    Calls Tryd.prog 23 #[.int .i64 W] w fun e w' => e = .returned (.tuple #[.int .i64 (cOf W), .bool true]) ∧ w' = w := by
  obtain ⟨t0, t1, t2, t3, t4, t5⟩ := ht.cells
  have ix := wx (.int .i64 8) (.int .i64 16) (.int .i64 32) (.int .i64 64) (.int .i64 128) (.int .i64 256)
  unfold IsW at h
  rcases h with rfl | rfl | rfl | rfl | rfl | rfl
  all_goals
    go_enter Tryd.func23, Tryd.ntmps23
    go_wp2
    go_rounds 7
    go_ret2
    exact ⟨rfl, rfl⟩
set_option maxHeartbeats 1000000 in
theorem codeOf_no (W : Int) (h : ¬ IsW W) (w : World) (ht : Wid w) :
    Calls Tryd.prog 23 #[.int .i64 W] w fun e w' => e = .returned (.tuple #[.int .i64 0, .bool false]) ∧ w' = w := by
  obtain ⟨t0, t1, t2, t3, t4, t5⟩ := ht.cells
  have ix := wx (.int .i64 8) (.int .i64 16) (.int .i64 32) (.int .i64 64) (.int .i64 128) (.int .i64 256)
  unfold IsW at h
  have e0 : ((8 : Int) == W) = false := beq_eq_false_iff_ne.2 (by omega)
  have e1 : ((16 : Int) == W) = false := beq_eq_false_iff_ne.2 (by omega)
  have e2 : ((32 : Int) == W) = false := beq_eq_false_iff_ne.2 (by omega)
  have e3 : ((64 : Int) == W) = false := beq_eq_false_iff_ne.2 (by omega)
  have e4 : ((128 : Int) == W) = false := beq_eq_false_iff_ne.2 (by omega)
  have e5 : ((256 : Int) == W) = false := beq_eq_false_iff_ne.2 (by omega)
  clear h
  go_enter Tryd.func23, Tryd.ntmps23
  go_wp2
  go_rounds 7
  go_ret2
  exact ⟨rfl, rfl⟩
set_option maxHeartbeats 400000 in
theorem wide_yes (W : Int) (h : IsW W) (w : World) (ht : Wid w) :
    Calls Tryd.prog 7 #[.int .i64 W] w fun e w' => e = .returned (.bool true) ∧ w' = w := by
  go_enter Tryd.func7, Tryd.ntmps7
  go_wp2_with (go_at_call 23; refine (codeOf_yes W h _ ht).mono ?_; rintro e w' ⟨rfl, rfl⟩)
  go_ret
  exact ⟨rfl, rfl⟩
set_option maxHeartbeats 400000 in
theorem wide_no (W : Int) (h : ¬ IsW W) (w : World) (ht : Wid w) :
    Calls Tryd.prog 7 #[.int .i64 W] w fun e w' => e = .returned (.bool false) ∧ w' = w := by
  go_enter Tryd.func7, Tryd.ntmps7
  go_wp2_with (go_at_call 23; refine (codeOf_no W h _ ht).mono ?_; rintro e w' ⟨rfl, rfl⟩)
  go_ret
  exact ⟨rfl, rfl⟩
set_option maxHeartbeats 400000 in
theorem size_yes (W : Int) (h : IsW W) (w : World) (ht : Wid w) :
    Calls Tryd.prog 9 #[.int .i64 W] w fun e w' => e = .returned (.tuple #[.int .i64 (15 + W / 8), .int .i64 0]) ∧ w' = w := by
  have hb : 8 ≤ W ∧ W ≤ 256 := by unfold IsW at h; omega
  obtain ⟨hb1, hb2⟩ := hb
  go_enter Tryd.func9, Tryd.ntmps9
  go_wp2_with (go_at_call 7; refine (wide_yes W h _ ht).mono ?_; rintro e w' ⟨rfl, rfl⟩)
  go_ret2
  exact ⟨by rw [show 13 + W / 8 + 2 = 15 + W / 8 from by omega]; rfl, rfl⟩
set_option maxHeartbeats 400000 in
theorem size_no (W : Int) (h : ¬ IsW W) (w : World) (ht : Wid w) :
    Calls Tryd.prog 9 #[.int .i64 W] w fun e w' => e = .returned (.tuple #[.int .i64 0, .int .i64 2]) ∧ w' = w := by
  go_enter Tryd.func9, Tryd.ntmps9
  go_wp2_with (go_at_call 7; refine (wide_no W h _ ht).mono ?_; rintro e w' ⟨rfl, rfl⟩)
  go_ret2
  exact ⟨rfl, rfl⟩
end Go.Proofs.YtgfmlonhjmdfjaaDoor
