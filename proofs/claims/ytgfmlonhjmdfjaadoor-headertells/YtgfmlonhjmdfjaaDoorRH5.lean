/- The document's four; small slices of bytes as strings. -/
import Derived.Test.YtgfmlonhjmdfjaaDoorRH4
import Derived.Test.YtgfmlonhjmdfjaaDoorH15
import Derived.Test.YtgfmlonhjmdfjaaDoorR3
namespace Go.Proofs.YtgfmlonhjmdfjaaDoor
open Go.RowKit

theorem conv_four (W : World) (a b c d : Int) (T : TypeId) : (convert 48 9 (.slice (some ⟨W.heap.size, 0, none⟩) 4 4)).run Tryd.prog (W.alloc (.cells #[.int .u8 a, .int .u8 b, .int .u8 c, .int .u8 d] T)) = .ok (.string (strOfNums [a, b, c, d])) (W.alloc (.cells #[.int .u8 a, .int .u8 b, .int .u8 c, .int .u8 d] T)) := by
  refine run_convert_bytes_arg _ 48 5 Tryd.underlying48 Tryd.underlying5 W.heap.size 0 4 4 [a, b, c, d] rfl (fun i hi => ?_) 9 Tryd.underlying9
  have hc : i = 0 ∨ i = 1 ∨ i = 2 ∨ i = 3 := by omega
  rcases hc with rfl | rfl | rfl | rfl <;> simp
theorem ly4_nums (v : Nat) : ly v 4 = strOfNums [(v : Int) / 16777216 % 256, (v : Int) / 65536 % 256, (v : Int) / 256 % 256, (v : Int) % 256] := by
  apply Wi.ext_bytes
  rw [ly4_data, strOfNums_data]
  simp only [List.map_cons, List.map_nil]
  rw [show ((v : Int) / 16777216 % 256).toNat = v / 16777216 % 256 from by omega, show ((v : Int) / 65536 % 256).toNat = v / 65536 % 256 from by omega, show ((v : Int) / 256 % 256).toNat = v / 256 % 256 from by omega, show ((v : Int) % 256).toNat = v % 256 from by omega]
set_option maxHeartbeats 400000 in
theorem four_any (v : Nat) (hv : v < 4294967296) (w : World) :
    Calls Tryd.prog 27 #[.int .u32 v] w fun e w' => e = .returned (.string (ly v 4)) ∧ Below w.heap.size w w' := by
  rw [ly4_nums]
  have hconv := fun a b c d => conv_four w a b c d 5
  have h1 : (v : Int) / 16777216 < 256 := by omega
  go_enter Tryd.func27, Tryd.ntmps27
  go_wp2
  go_ret
  refine ⟨?_, by go_grown⟩
  rw [show (v : Int) / 16777216 % 256 = (v : Int) / 16777216 from by omega]
  rfl
end Go.Proofs.YtgfmlonhjmdfjaaDoor
