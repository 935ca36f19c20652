/- dandelionlaw05.tens, works. -/
import Derived.Test.YtndiafbldgbplaaJ6
import Derived.Test.YtndiafbldgbplaaJE
namespace Go.Proofs.Ytndiafbldgbplaa
open Go.RowKit

def ltTen (a b : Int) : Bool := decide (a / 10 < b / 10)
theorem tens_any (a b : Int) (ha : 0 ≤ a ∧ a ≤ 1000) (hb : 0 ≤ b ∧ b ≤ 1000) (w : World) : Calls Try.prog 27 #[.int .i64 a, .int .i64 b] w fun e w' => e = .returned (.bool (ltTen a b)) ∧ Below w.heap.size w w' := by
  have h1 : Int.tdiv a 10 = a / 10 := Int.tdiv_eq_ediv_of_nonneg ha.1
  have h2 : Int.tdiv b 10 = b / 10 := Int.tdiv_eq_ediv_of_nonneg hb.1
  obtain ⟨ha0, ha1⟩ := ha
  obtain ⟨hb0, hb1⟩ := hb
  unfold ltTen
  have h3 : 0 ≤ a / 10 ∧ a / 10 ≤ 1000 := by omega
  have h4 : 0 ≤ b / 10 ∧ b / 10 ≤ 1000 := by omega
  generalize a / 10 = x at *
  generalize b / 10 = y at *
  go_enter Try.func27, Try.ntmps27
  go_wp2
  go_ret
  exact ⟨rfl, Below.refl _ _⟩
/-- The order by tens. -/
def OT : In.OrdS where
  f := 27
  caps := #[]
  B := 0
  I := fun _ => True
  D := fun a => 0 ≤ a ∧ a ≤ 1000
  lt := ltTen
  call := fun a b w ha hb _ => tens_any a b ha hb w
  keep := fun _ _ _ _ => trivial
  enter := fun args w => by kernel_rfl
  nil := fun w => by kernel_rfl
end Go.Proofs.Ytndiafbldgbplaa
