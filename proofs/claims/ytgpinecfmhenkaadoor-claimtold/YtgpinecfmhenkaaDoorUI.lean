/- Ids. -/
import Derived.Test.YtgpinecfmhenkaaDoorUI0
import Derived.Deep.RegionHeld3
namespace Go.Proofs.YtgpinecfmhenkaaDoor
open Go.RowKit Go.Maps

/-- A claim's block and its first router are read. -/
def idC (br bx ox : Nat) (id y : Int) (xa : Option Addr) (xc : Nat) (wx : World) : Prop := wx.cell? ⟨br, 0, none⟩ = some (.int .i64 id) ∧ wx.cell? ⟨br, 1, none⟩ = some (.slice xa 1 xc) ∧ wx.cell? ⟨bx, ox, none⟩ = some (.int .i64 y)
/-- Two lists of numbers in memory of their own, apart. -/
structure TwoM (w wz : World) (ua ub : Value) (la lb : List Int) : Prop where
  a : wz.ownsRow w.heap.size 3 1 ua la.length (fl ic la)
  b : wz.ownsRow w.heap.size 3 1 ub lb.length (fl ic lb)
  d : ∀ j, ua.ownBlock = some j → ub.ownBlock ≠ some j
  w : Below w.heap.size w wz
/-- What Ids answers. -/
def IdsA (w w' : World) (T : List (Int × List Int)) (R : List Int) (e : Ending) : Prop :=
  ∃ u1 u2, e = .returned (.tuple #[u1, u2]) ∧ w'.ownsRow w.heap.size 3 1 u1 (idsT T R).length (fl ic (idsT T R)) ∧ w'.ownsRow w.heap.size 3 1 u2 (wioT T R).length (fl ic (wioT T R))
theorem flat_len {T : List (Int × List Int)} {n : Nat} (hT : T.length ≤ n) : ∀ R : List Int, (R.flatMap (frI T)).length ≤ R.length * n
  | [] => by simp
  | x :: R => by
    rw [List.flatMap_cons, List.length_append, List.length_cons, Nat.succ_mul]
    have := flat_len hT R
    have := frI_len T x
    omega
end Go.Proofs.YtgpinecfmhenkaaDoor
