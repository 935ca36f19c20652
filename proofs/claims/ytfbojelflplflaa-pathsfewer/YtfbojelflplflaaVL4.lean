/- The law's table of costs in memory. -/
import Derived.Test.YtfbojelflplflaaVL0
namespace Go.Proofs.Ytfbojelflplflaa
open Go.RowKit

def tcl (c : Nat → Int) : List Value := (List.range 256).map fun i => .int .i64 (c i)
theorem tcl_len (c : Nat → Int) : (tcl c).length = 256 := by simp [tcl]
theorem tcl_get (c : Nat → Int) {n : Nat} (h : n < 256) : (tcl c)[n]? = some (.int .i64 (c n)) := by simp [tcl, List.getElem?_range h]
theorem tcl_set (c : Nat → Int) {n : Nat} (_h : n < 256) (v : Int) : (tcl c).set n (.int .i64 v) = tcl (putV c n v) := by
  apply List.ext_getElem?
  intro j
  rw [List.getElem?_set]
  by_cases hj : j < 256
  · rw [tcl_get _ hj, tcl_get _ hj, tcl_len]
    unfold putV
    by_cases hn : n = j
    · rw [if_pos hn, if_pos (by omega), if_pos hn.symm]
    · rw [if_neg hn, if_neg (fun h => hn h.symm)]
  · rw [List.getElem?_eq_none (by rw [tcl_len]; omega), List.getElem?_eq_none (by rw [tcl_len]; omega), tcl_len]
    by_cases hn : n = j
    · omega
    · rw [if_neg hn]
end Go.Proofs.Ytfbojelflplflaa
