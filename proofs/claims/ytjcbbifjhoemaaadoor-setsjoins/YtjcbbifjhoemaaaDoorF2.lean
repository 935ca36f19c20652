/- What the rows of layer 4 are opened and shut by. -/
import Derived.Test.YtjcbbifjhoemaaaDoorF1
namespace Go.Proofs.YtjcbbifjhoemaaaDoor
open Go.ChangeShapes Go.WideShapes Go.ChangeAt Go.RowKit

theorem cellsI : Tryd.prog.cellsOf 3 = 1 := by kernel_rfl
theorem two {α : Type} {cs : Array α} (h : cs.size = 2) : ∃ c0 c1, cs = #[c0, c1] := by
  obtain ⟨l⟩ := cs
  match l, h with
  | [a, b], _ => exact ⟨a, b, rfl⟩
/-- The two tables, out of a row's list. -/
theorem tabs_in {W : World} {rest : List (String × DataW Unit)} (h : laidMet Tryd.prog (("math/bits.deBruijn64tab", Rows.laid_math_bits_deBruijn64tab) :: rest) W) : Tabs W := by
  obtain ⟨ps, h, _⟩ := h
  exact ⟨laid_tab gDb gDbType Tryd.underlying74 Tryd.underlying5 (by kernel_rfl) (by kernel_rfl) h⟩
theorem wid_in {W : World} {x : String × DataW Unit} {rest : List (String × DataW Unit)} (h : laidMet Tryd.prog (x :: ("dandelion/header.widths", Rows.laid_dandelion_header_widths) :: rest) W) : Wid W := by
  obtain ⟨ps, h, _⟩ := h
  obtain ⟨q, h⟩ := laid_rest h
  exact ⟨laid_tab gWid gWidType Tryd.underlying72 Tryd.underlying3 (by kernel_rfl) (by kernel_rfl) h⟩
end Go.Proofs.YtjcbbifjhoemaaaDoor
