/- errors.Is, of a refusal. -/
import Derived.Test.YtgpinecfmhenkaaDoorU4
import Derived.LaidEql
import Derived.Stop.Asserts
import Derived.RowKitTokens
namespace Go.Proofs.YtgpinecfmhenkaaDoor
open Go.RowKit Go.Extern.Stop Go.Stop Go.Extern

abbrev eno (k : Int) : Value := .iface 28 (.int .i64 k)
abbrev pcf (c : Nat) : Value := .iface 50 (.pointer (some ⟨c, 0, none⟩))
abbrev pfa (b : Nat) : Value := .iface 59 (.pointer (some ⟨b, 0, none⟩))
abbrev rfs (v : Value) : Value := .iface 91 (.agg #[v])
theorem is_typeOf (v : Value) (w : World) : (Extern.ReflectliteType.typeOf #[.iface 28 v]).run Tryd.prog w = .ok (.iface 100 (.agg #[.pointer (some ⟨1, 28, none⟩)])) w := by kernel_rfl
def cmpE : Array Value → Sem Value := Extern.ReflectliteType.method fun t => do Rtype.noPackHeld "Comparable" t; pure (.bool (← typeInfo t).comparable)
theorem is_comparable (w : World) : (cmpE #[.agg #[.pointer (some ⟨1, 28, none⟩)]]).run Tryd.prog w = .ok (.bool true) w := by kernel_rfl
theorem is_mComparable (v : Value) (w : World) : (Go.method 77 100 v "Comparable").run Tryd.prog w = .ok (101, v) w := by kernel_rfl
theorem is_noR (v : Value) (xT : TypeId) (w : World) : (Instr.typeAssert (.iface 91 v) xT 102 true).run Tryd.prog w = .ok (.tuple #[.nilIface, .bool false]) w := run_typeAssert_lacksB Tryd.underlying102 (by kernel_rfl) (by kernel_rfl) v xT w
theorem is_noC (v : Value) (xT : TypeId) (w : World) : (Instr.typeAssert (.iface 50 v) xT 102 true).run Tryd.prog w = .ok (.tuple #[.nilIface, .bool false]) w := run_typeAssert_lacksB Tryd.underlying102 (by kernel_rfl) (by kernel_rfl) v xT w
theorem is_noF (v : Value) (xT : TypeId) (w : World) : (Instr.typeAssert (.iface 59 v) xT 102 true).run Tryd.prog w = .ok (.tuple #[.nilIface, .bool false]) w := run_typeAssert_lacksB Tryd.underlying102 (by kernel_rfl) (by kernel_rfl) v xT w
theorem is_noE (v : Value) (xT : TypeId) (w : World) : (Instr.typeAssert (.iface 28 v) xT 102 true).run Tryd.prog w = .ok (.tuple #[.nilIface, .bool false]) w := run_typeAssert_lacksB Tryd.underlying102 (by kernel_rfl) (by kernel_rfl) v xT w
theorem is_unR (v : Value) (xT : TypeId) (w : World) : (Instr.typeAssert (.iface 91 v) xT 105 true).run Tryd.prog w = .ok (.tuple #[.iface 91 v, .bool true]) w := run_typeAssert_hasB Tryd.underlying105 (by kernel_rfl) v xT w
theorem is_unC (v : Value) (xT : TypeId) (w : World) : (Instr.typeAssert (.iface 50 v) xT 105 true).run Tryd.prog w = .ok (.tuple #[.iface 50 v, .bool true]) w := run_typeAssert_hasB Tryd.underlying105 (by kernel_rfl) v xT w
theorem is_unF (v : Value) (xT : TypeId) (w : World) : (Instr.typeAssert (.iface 59 v) xT 105 true).run Tryd.prog w = .ok (.tuple #[.iface 59 v, .bool true]) w := run_typeAssert_hasB Tryd.underlying105 (by kernel_rfl) v xT w
theorem is_unE (v : Value) (xT : TypeId) (w : World) : (Instr.typeAssert (.iface 28 v) xT 105 true).run Tryd.prog w = .ok (.tuple #[.nilIface, .bool false]) w := run_typeAssert_lacksB Tryd.underlying105 (by kernel_rfl) (by kernel_rfl) v xT w
theorem is_ursE (v : Value) (xT : TypeId) (w : World) : (Instr.typeAssert (.iface 28 v) xT 107 true).run Tryd.prog w = .ok (.tuple #[.nilIface, .bool false]) w := run_typeAssert_lacksB Tryd.underlying107 (by kernel_rfl) (by kernel_rfl) v xT w
theorem is_muR (v : Value) (w : World) : (Go.method 105 91 v "Unwrap").run Tryd.prog w = .ok (98, v) w := by kernel_rfl
theorem is_muC (v : Value) (w : World) : (Go.method 105 50 v "Unwrap").run Tryd.prog w = .ok (91, v) w := by kernel_rfl
theorem is_muF (v : Value) (w : World) : (Go.method 105 59 v "Unwrap").run Tryd.prog w = .ok (93, v) w := by kernel_rfl
theorem is_eqE (a b : Int) (w : World) : (binOp .eql 25 (eno a) (eno b)).run Tryd.prog w = .ok (.bool (a == b)) w := by kernel_rfl
theorem is_pC (p : Addr) (w : World) : (binOp .eql 50 (.pointer (some p)) (.pointer none)).run Tryd.prog w = .ok (.bool false) w := by kernel_rfl
theorem is_pF (p : Addr) (w : World) : (binOp .eql 59 (.pointer (some p)) (.pointer none)).run Tryd.prog w = .ok (.bool false) w := by kernel_rfl
set_option maxRecDepth 100000 in
set_option maxHeartbeats 4000000 in
/-- errors.Is of a conflict. -/
theorem isC_any (c : Nat) (k : Int) (w : World) : Calls Tryd.prog 17 #[rfs (pcf c), eno k] w fun e w' => e = .returned (.bool (11 == k)) ∧ Below w.heap.size w w' := by
  have hE := @run_callFunc_extern Tryd.prog 32 _ Extern.ReflectliteType.typeOf Tryd.func32 (by kernel_rfl) (by kernel_rfl) (by kernel_rfl) (by kernel_rfl)
  have hCm := @run_callFunc_extern Tryd.prog 101 _ cmpE Tryd.func101 (by kernel_rfl) (by kernel_rfl) (by kernel_rfl) (by kernel_rfl)
  have tT := is_typeOf
  have cT := is_comparable
  have mR := is_mComparable
  have nR := is_noR
  have nC := is_noC
  have nE := is_noE
  have uR := is_unR
  have uC := is_unC
  have uE := is_unE
  have sE := is_ursE
  have mU := is_muR
  have mC := is_muC
  have pC := is_pC
  have e1 := fun w => run_eql_iface_types (P := Tryd.prog) 91 28 (.agg #[pcf c]) (.int .i64 k) Tryd.underlying25 (by decide) w
  have e2 := fun w => run_eql_iface_types (P := Tryd.prog) 50 28 (.pointer (some ⟨c, 0, none⟩)) (.int .i64 k) Tryd.underlying25 (by decide) w
  have e3 := is_eqE 11 k
  cases hk : ((11 : Int) == k)
  all_goals
    rw [hk] at e3
    clear hk
    go_enter Tryd.func17, Tryd.ntmps17
    go_wp2
    refine wp_loop_rounds 3 ?_
    rw [rounds_succ]
    go_wp2
    rw [rounds_succ]
    go_wp2
    rw [rounds_succ]
    go_wp2
    go_ret
    exact ⟨rfl, by go_grown⟩
theorem isN_any (k : Int) (w : World) : Calls Tryd.prog 17 #[.nilIface, eno k] w fun e w' => e = .returned (.bool false) ∧ w' = w := by
  have hn := run_eql_iface_nil_left (P := Tryd.prog) w 28 (.int .i64 k) Tryd.underlying25
  go_enter Tryd.func17, Tryd.ntmps17
  go_wp2
  go_ret
  exact ⟨rfl, rfl⟩
end Go.Proofs.YtgpinecfmhenkaaDoor
