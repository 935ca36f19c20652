/- Nothing is laid here: the texts that import this find all they need in the program. -/
import Derived.Shelf.Lay
import Derived.Test.YtkkkjpdmjgafoaaProg
namespace Go.Proofs.Ytkkkjpdmjgafoaa
end Go.Proofs.Ytkkkjpdmjgafoaa
