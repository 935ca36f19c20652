/- First, whole. -/
import Derived.Test.YtgeoghhajjlofaaGreatDoorV9
namespace Go.Proofs.YtgeoghhajjlofaaGreatDoor
open Go.RowKit

/-- What First answers of a way that is or is not. -/
def FstAns (w' : World) (e : Ending) : Option (List Int) → Prop
  | none => e = .returned (.tuple #[.slice none 0 0, .int .i64 6])
  | some l => ∃ v, e = .returned (.tuple #[v, .int .i64 0]) ∧ SlAt ic 1 w' v l ∧ 0 < l.length
end Go.Proofs.YtgeoghhajjlofaaGreatDoor
