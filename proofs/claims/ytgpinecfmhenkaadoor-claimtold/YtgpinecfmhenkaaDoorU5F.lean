/- errors.Is, of a fault. -/
import Derived.Test.YtgpinecfmhenkaaDoorU5
namespace Go.Proofs.YtgpinecfmhenkaaDoor
open Go.RowKit Go.Extern.Stop Go.Stop Go.Extern

set_option maxRecDepth 100000 in
set_option maxHeartbeats 4000000 in
/-- errors.Is of a fault. -/
theorem isF_any {b : Nat} {code y : Int} {w : World} (hb : w.heap[b]? = some (.cells #[.int .i64 code, .int .i64 y] 62)) (k : Int) : Calls Tryd.prog 17 #[rfs (pfa b), eno k] w fun e w' => e = .returned (.bool (code == k)) ∧ Below w.heap.size w w' := by
  have hE := @run_callFunc_extern Tryd.prog 32 _ Extern.ReflectliteType.typeOf Tryd.func32 (by kernel_rfl) (by kernel_rfl) (by kernel_rfl) (by kernel_rfl)
  have hCm := @run_callFunc_extern Tryd.prog 101 _ cmpE Tryd.func101 (by kernel_rfl) (by kernel_rfl) (by kernel_rfl) (by kernel_rfl)
  have tT := is_typeOf
  have cT := is_comparable
  have mR := is_mComparable
  have nR := is_noR
  have nC := is_noF
  have nE := is_noE
  have uR := is_unR
  have uC := is_unF
  have uE := is_unE
  have sE := is_ursE
  have mU := is_muR
  have mC := is_muF
  have pC := is_pF
  have e1 := fun w => run_eql_iface_types (P := Tryd.prog) 91 28 (.agg #[pfa b]) (.int .i64 k) Tryd.underlying25 (by decide) w
  have e2 := fun w => run_eql_iface_types (P := Tryd.prog) 59 28 (.pointer (some ⟨b, 0, none⟩)) (.int .i64 k) Tryd.underlying25 (by decide) w
  have e3 := is_eqE code k
  have b1 : Below w.heap.size w (w.alloc (.cells #[pfa b] 91)) := (Below.refl _ w).alloc (Nat.le_refl _) _
  have c0 := cell_of_row _ _ 0 _ _ _ ((b1.block _ (block_lt hb)).trans hb)
  simp at c0
  have hbl := block_lt hb
  clear hb b1
  cases hk : ((code : Int) == k)
  all_goals
    rw [hk] at e3
    clear hk
    go_enter Tryd.func17, Tryd.ntmps17
    go_wp2
    refine wp_loop_rounds 3 ?_
    rw [rounds_succ]
    go_wp2
    rw [rounds_succ]
    go_wp2
    rw [rounds_succ]
    go_wp2
    go_ret
    exact ⟨rfl, by go_grown⟩
end Go.Proofs.YtgpinecfmhenkaaDoor
