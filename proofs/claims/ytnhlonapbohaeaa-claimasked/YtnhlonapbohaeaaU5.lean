/- errors.Is, of a refusal. -/
import Derived.Test.YtnhlonapbohaeaaU4
import Derived.LaidEql
import Derived.Stop.Asserts
import Derived.RowKitTokens
namespace Go.Proofs.Ytnhlonapbohaeaa
open Go.RowKit Go.Extern.Stop Go.Stop Go.Extern

abbrev eno (k : Int) : Value := .iface 24 (.int .i64 k)
abbrev pcf (c : Nat) : Value := .iface 78 (.pointer (some ⟨c, 0, none⟩))
abbrev pfa (b : Nat) : Value := .iface 88 (.pointer (some ⟨b, 0, none⟩))
abbrev rfs (v : Value) : Value := .iface 81 (.agg #[v])
theorem is_typeOf (v : Value) (w : World) : (Extern.ReflectliteType.typeOf #[.iface 24 v]).run Try.prog w = .ok (.iface 92 (.agg #[.pointer (some ⟨0, 24, none⟩)])) w := by kernel_rfl
def cmpE : Array Value → Sem Value := Extern.ReflectliteType.method fun t => do Rtype.noPackHeld "Comparable" t; pure (.bool (← typeInfo t).comparable)
theorem is_comparable (w : World) : (cmpE #[.agg #[.pointer (some ⟨0, 24, none⟩)]]).run Try.prog w = .ok (.bool true) w := by kernel_rfl
theorem is_mComparable (v : Value) (w : World) : (Go.method 74 92 v "Comparable").run Try.prog w = .ok (96, v) w := by kernel_rfl
theorem is_noR (v : Value) (xT : TypeId) (w : World) : (Instr.typeAssert (.iface 81 v) xT 94 true).run Try.prog w = .ok (.tuple #[.nilIface, .bool false]) w := run_typeAssert_lacksB Try.underlying94 (by kernel_rfl) (by kernel_rfl) v xT w
theorem is_noC (v : Value) (xT : TypeId) (w : World) : (Instr.typeAssert (.iface 78 v) xT 94 true).run Try.prog w = .ok (.tuple #[.nilIface, .bool false]) w := run_typeAssert_lacksB Try.underlying94 (by kernel_rfl) (by kernel_rfl) v xT w
theorem is_noF (v : Value) (xT : TypeId) (w : World) : (Instr.typeAssert (.iface 88 v) xT 94 true).run Try.prog w = .ok (.tuple #[.nilIface, .bool false]) w := run_typeAssert_lacksB Try.underlying94 (by kernel_rfl) (by kernel_rfl) v xT w
theorem is_noE (v : Value) (xT : TypeId) (w : World) : (Instr.typeAssert (.iface 24 v) xT 94 true).run Try.prog w = .ok (.tuple #[.nilIface, .bool false]) w := run_typeAssert_lacksB Try.underlying94 (by kernel_rfl) (by kernel_rfl) v xT w
theorem is_unR (v : Value) (xT : TypeId) (w : World) : (Instr.typeAssert (.iface 81 v) xT 97 true).run Try.prog w = .ok (.tuple #[.iface 81 v, .bool true]) w := run_typeAssert_hasB Try.underlying97 (by kernel_rfl) v xT w
theorem is_unC (v : Value) (xT : TypeId) (w : World) : (Instr.typeAssert (.iface 78 v) xT 97 true).run Try.prog w = .ok (.tuple #[.iface 78 v, .bool true]) w := run_typeAssert_hasB Try.underlying97 (by kernel_rfl) v xT w
theorem is_unF (v : Value) (xT : TypeId) (w : World) : (Instr.typeAssert (.iface 88 v) xT 97 true).run Try.prog w = .ok (.tuple #[.iface 88 v, .bool true]) w := run_typeAssert_hasB Try.underlying97 (by kernel_rfl) v xT w
theorem is_unE (v : Value) (xT : TypeId) (w : World) : (Instr.typeAssert (.iface 24 v) xT 97 true).run Try.prog w = .ok (.tuple #[.nilIface, .bool false]) w := run_typeAssert_lacksB Try.underlying97 (by kernel_rfl) (by kernel_rfl) v xT w
theorem is_ursE (v : Value) (xT : TypeId) (w : World) : (Instr.typeAssert (.iface 24 v) xT 99 true).run Try.prog w = .ok (.tuple #[.nilIface, .bool false]) w := run_typeAssert_lacksB Try.underlying99 (by kernel_rfl) (by kernel_rfl) v xT w
theorem is_muR (v : Value) (w : World) : (Go.method 97 81 v "Unwrap").run Try.prog w = .ok (90, v) w := by kernel_rfl
theorem is_muC (v : Value) (w : World) : (Go.method 97 78 v "Unwrap").run Try.prog w = .ok (88, v) w := by kernel_rfl
theorem is_muF (v : Value) (w : World) : (Go.method 97 88 v "Unwrap").run Try.prog w = .ok (92, v) w := by kernel_rfl
theorem is_eqE (a b : Int) (w : World) : (binOp .eql 47 (eno a) (eno b)).run Try.prog w = .ok (.bool (a == b)) w := by kernel_rfl
theorem is_pC (p : Addr) (w : World) : (binOp .eql 78 (.pointer (some p)) (.pointer none)).run Try.prog w = .ok (.bool false) w := by kernel_rfl
theorem is_pF (p : Addr) (w : World) : (binOp .eql 88 (.pointer (some p)) (.pointer none)).run Try.prog w = .ok (.bool false) w := by kernel_rfl
set_option maxRecDepth 100000 in
set_option maxHeartbeats 4000000 in
/-- errors.Is of a conflict. -/
theorem isC_any (c : Nat) (k : Int) (w : World) : Calls Try.prog 27 #[rfs (pcf c), eno k] w fun e w' => e = .returned (.bool (11 == k)) ∧ Below w.heap.size w w' := by
  have hE := @run_callFunc_extern Try.prog 42 _ Extern.ReflectliteType.typeOf Try.func42 (by kernel_rfl) (by kernel_rfl) (by kernel_rfl) (by kernel_rfl)
  have hCm := @run_callFunc_extern Try.prog 96 _ cmpE Try.func96 (by kernel_rfl) (by kernel_rfl) (by kernel_rfl) (by kernel_rfl)
  have tT := is_typeOf
  have cT := is_comparable
  have mR := is_mComparable
  have nR := is_noR
  have nC := is_noC
  have nE := is_noE
  have uR := is_unR
  have uC := is_unC
  have uE := is_unE
  have sE := is_ursE
  have mU := is_muR
  have mC := is_muC
  have pC := is_pC
  have e1 := fun w => run_eql_iface_types (P := Try.prog) 81 24 (.agg #[pcf c]) (.int .i64 k) Try.underlying47 (by decide) w
  have e2 := fun w => run_eql_iface_types (P := Try.prog) 78 24 (.pointer (some ⟨c, 0, none⟩)) (.int .i64 k) Try.underlying47 (by decide) w
  have e3 := is_eqE 11 k
  cases hk : ((11 : Int) == k)
  all_goals
    rw [hk] at e3
    clear hk
    go_enter Try.func27, Try.ntmps27
    go_wp2
    refine wp_loop_rounds 3 ?_
    rw [rounds_succ]
    go_wp2
    rw [rounds_succ]
    go_wp2
    rw [rounds_succ]
    go_wp2
    go_ret
    exact ⟨rfl, by go_grown⟩
theorem isN_any (k : Int) (w : World) : Calls Try.prog 27 #[.nilIface, eno k] w fun e w' => e = .returned (.bool false) ∧ w' = w := by
  have hn := run_eql_iface_nil_left (P := Try.prog) w 24 (.int .i64 k) Try.underlying47
  go_enter Try.func27, Try.ntmps27
  go_wp2
  go_ret
  exact ⟨rfl, rfl⟩
end Go.Proofs.Ytnhlonapbohaeaa
