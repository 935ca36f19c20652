/- Part. -/
import Derived.Test.YtkhfpcnmnnboeaaGA
namespace Go.Proofs.Ytkhfpcnmnnboeaa
open Go.RowKit

/-- What Part answers. -/
def PartAns (w : World) (ns : List Int) (es : List Ed) (n : Int) (e : Ending) (w' : World) : Prop :=
  ((graphOk ns es && hasN ns n) = true ∧ ∃ f u, IsPart es n f ∧ e = .returned (.tuple #[u, .int .i64 0]) ∧ w'.ownsRow w.heap.size 3 1 u (markedL f).length (fl ic (markedL f))) ∨
    ((graphOk ns es && hasN ns n) = false ∧ e = .returned (.tuple #[.slice none 0 0, .int .i64 2]))
end Go.Proofs.Ytkhfpcnmnnboeaa
