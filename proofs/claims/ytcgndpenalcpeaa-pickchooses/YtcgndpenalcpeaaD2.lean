/- greatestFirst and its closure: who comes first of two. -/
import Derived.Test.YtcgndpenalcpeaaD1
namespace Go.Proofs.Ytcgndpenalcpeaa
open Go.RowKit

/-- The method as a value. -/
abbrev rkF (e : Nat) : Value := .func (.func 28) #[.int .u32 e] #[]
abbrev gfF (B : Nat) : Value := .func (.func 32) #[] #[.pointer (some ⟨B, 0, none⟩)]
set_option maxRecDepth 100000 in
theorem great_any (e : Nat) (w : World) : Calls Try.prog 27 #[rkF e] w fun r w' => r = .returned (gfF w.heap.size) ∧ w' = w.alloc (.cells #[rkF e] 46) := by
  go_enter Try.func27, Try.ntmps27
  go_wp2
  go_ret
  exact ⟨rfl, rfl⟩
set_option maxRecDepth 100000 in
theorem less_any {e : Nat} (he : e < 4294967296) {B : Nat} {w : World} (hc : w.cell? ⟨B, 0, none⟩ = some (rkF e)) (x y : Int) :
    Calls Try.prog 32 #[.int .i64 x, .int .i64 y, .pointer (some ⟨B, 0, none⟩)] w fun r w' => r = .returned (.int .i64 (cmpN (mix e y) (mix e x))) ∧ ∃ q, w' = w.drewN q := by
  have HR := hidIn (fun n W => rank_any he n W)
  generalize mix e = r at *
  have HC := hidIn (fun W => cmp_any (r y) (r x) W)
  generalize cmpN (r y) (r x) = c at *
  go_enter Try.func32, Try.ntmps32
  go_upto_region 1 with fail
  go_quiet (first | (go_at_call 33; exact Calls.quiet_of_same (HC.out _)) | (go_at_call 28; exact Calls.quiet_of_same (HR.out _ _)))
  go_wp2_with fail
  go_ret
  exact ⟨rfl, _, rfl⟩
end Go.Proofs.Ytcgndpenalcpeaa
