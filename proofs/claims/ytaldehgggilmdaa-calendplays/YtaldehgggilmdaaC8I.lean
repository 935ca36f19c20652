/- A calendar of int: Put. -/
import Derived.Test.YtaldehgggilmdaaC7I
namespace Go.Proofs.Ytaldehgggilmdaa.Ca.I
open Go.RowKit Go.Maps

end Go.Proofs.Ytaldehgggilmdaa.Ca.I
