/- wire.isSize, wire.addByte, wire.Take. -/
import Derived.Test.YtgpinecfmhenkaaDoorProg
import Derived.Test.YtgpinecfmhenkaaDoorK1
import Derived.WalkKit
import Derived.WalkSpells
import Derived.WalkLawsBesides
import Derived.Handy
namespace Go.Proofs.YtgpinecfmhenkaaDoor.Wi
open Go.RowKit

theorem hidIn {p : Prop} (h : p) : Hid p := h
theorem ret_int {k : IntKind} {a b : Int} (h : a = b) : Ending.returned (.int k a) = .returned (.int k b) := by rw [h]
theorem int_int {k : IntKind} {a b : Int} (h : a = b) : Value.int k a = .int k b := by rw [h]

theorem u16_in' (s c : Nat) (h : s < 65536) (hc : c < 256) : bits .xor .u16 (s : Int) (c * 256 : Int) = ((s ^^^ (c * 256) : Nat) : Int) := by
  rw [show ((c : Int) * 256) = ((c * 256 : Nat) : Int) from by omega, u16_xor_nat _ _ h (by omega)]

end Go.Proofs.YtgpinecfmhenkaaDoor.Wi
