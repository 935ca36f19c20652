/- A calendar of int: remove. -/
import Derived.Test.YtaldehgggilmdaaC5I
namespace Go.Proofs.Ytaldehgggilmdaa.Ca.I
open Go.RowKit Go.Maps

end Go.Proofs.Ytaldehgggilmdaa.Ca.I
