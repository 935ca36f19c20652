/- The document's Router, has, Check. -/
import Derived.Test.YtnhlonapbohaeaaGF
import Derived.Test.YtnhlonapbohaeaaGQ
namespace Go.Proofs.Ytnhlonapbohaeaa
open Go.RowKit

theorem rrouter_any (n : Int) (w : World) : Calls Try.prog 51 #[.int .i64 n] w fun e w' => e = .returned (.bool (isR n)) ∧ Below w.heap.size w w' := by
  by_cases h1 : 1 ≤ n
  · by_cases h2 : n ≤ 24
    · go_enter Try.func51, Try.ntmps51
      go_wp2
      go_ret
      exact ⟨by simp [isR, h1, h2], Below.refl _ _⟩
    · go_enter Try.func51, Try.ntmps51
      go_wp2
      go_ret
      exact ⟨by simp [isR, h1]; omega, Below.refl _ _⟩
  · go_enter Try.func51, Try.ntmps51
    go_wp2
    go_ret
    exact ⟨by simp [isR]; omega, Below.refl _ _⟩
def lastN (ns : List Int) : Nat → Int
  | 0 => 0
  | k + 1 => ns[k]?.getD 0
def lastE (es : List Ed) : Nat → Ed
  | 0 => (0, 0, 0)
  | k + 1 => es[k]?.getD (0, 0, 0)
def ckC (ns : List Int) (es : List Ed) : Int := if graphOk ns es = true then 0 else 2
theorem ckC_no {ns : List Int} {es : List Ed} (h : graphOk ns es = false) : ckC ns es = 2 := by unfold ckC; rw [h]; rfl
theorem ckC_yes {ns : List Int} {es : List Ed} (h : graphOk ns es = true) : ckC ns es = 0 := by unfold ckC; rw [h]; rfl
end Go.Proofs.Ytnhlonapbohaeaa
