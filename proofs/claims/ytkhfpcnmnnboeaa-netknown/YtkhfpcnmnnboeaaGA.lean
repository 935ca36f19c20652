/- Part: the closure that goes on. -/
import Derived.Test.YtkhfpcnmnnboeaaG9
import Derived.Test.YtkhfpcnmnnboeaaGP
namespace Go.Proofs.Ytkhfpcnmnnboeaa
open Go.RowKit

/-- The boxes of Part: who waits, the graph, who was met, the closure. -/
structure Bxs (base bw bg bm bf : Nat) : Prop where
  w : base ≤ bw
  g : base ≤ bg
  m : base ≤ bm
  f : base ≤ bf
  wg : bw ≠ bg
  wm : bw ≠ bm
  wf : bw ≠ bf
  gm : bg ≠ bm
  gf : bg ≠ bf
  mf : bm ≠ bf
def oneOf (bw bg bm bf : Nat) (Y : Nat → Prop) (k : Nat) : Prop := k = bw ∨ k = bg ∨ k = bm ∨ k = bf ∨ Y k
end Go.Proofs.Ytkhfpcnmnnboeaa
