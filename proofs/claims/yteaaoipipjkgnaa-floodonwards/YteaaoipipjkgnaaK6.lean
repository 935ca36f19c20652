/- wire.lay. -/
import Derived.Test.YteaaoipipjkgnaaK5
namespace Go.Proofs.Yteaaoipipjkgnaa.Wi
open Go.RowKit

/-- A number laid in n bytes. -/
def layN (v n : Nat) : List Int := (List.range n).map fun i => ((v / 2 ^ (8 * (n - 1 - i)) % 256 : Nat) : Int)

set_option maxHeartbeats 400000 in
theorem lay_1 (v : Nat) (_ : v < 18446744073709551616) (w : World) :
    Calls Try.prog 93 #[.int .u64 v, .int .i64 1] w fun e w' => e = .returned (.string (strOfNums [(v : Int) % 256])) ∧ Below w.heap.size w w' := by
  have hn := ownB_nil w w.heap.size
  have hb := Below.refl w.heap.size w
  go_enter Try.func93, Try.ntmps93
  go_wp2_with (at_builtin; first
    | (refine wpList_append_bytes1 (w0 := w) rfl _ _ rfl _ _ rfl (by assumption) (by assumption) _ rfl (by simp) ?_; intro v1 w1 h1 b1; have hc := h1.string)
    | (refine wpList_append_bytes2 (w0 := w) rfl _ _ rfl _ _ rfl (by assumption) (by assumption) _ rfl (by simp) ?_; intro v1 w1 h1 b1)
    | (refine wpList_append_bytes4 (w0 := w) rfl _ _ rfl _ _ rfl (by assumption) (by assumption) _ rfl (by simp) ?_; intro v1 w1 h1 b1))
  go_ret
  exact ⟨rfl, b1⟩
set_option maxHeartbeats 400000 in
theorem lay_2 (v : Nat) (_ : v < 18446744073709551616) (w : World) :
    Calls Try.prog 93 #[.int .u64 v, .int .i64 2] w fun e w' => e = .returned (.string (strOfNums [(v : Int) / 256 % 256, (v : Int) % 256])) ∧ Below w.heap.size w w' := by
  have hn := ownB_nil w w.heap.size
  have hb := Below.refl w.heap.size w
  go_enter Try.func93, Try.ntmps93
  go_wp2_with (at_builtin; first
    | (refine wpList_append_bytes1 (w0 := w) rfl _ _ rfl _ _ rfl (by assumption) (by assumption) _ rfl (by simp) ?_; intro v1 w1 h1 b1; have hc := h1.string)
    | (refine wpList_append_bytes2 (w0 := w) rfl _ _ rfl _ _ rfl (by assumption) (by assumption) _ rfl (by simp) ?_; intro v1 w1 h1 b1)
    | (refine wpList_append_bytes4 (w0 := w) rfl _ _ rfl _ _ rfl (by assumption) (by assumption) _ rfl (by simp) ?_; intro v1 w1 h1 b1))
  go_ret
  exact ⟨rfl, b1⟩
set_option maxHeartbeats 400000 in
theorem lay_4 (v : Nat) (_ : v < 18446744073709551616) (w : World) :
    Calls Try.prog 93 #[.int .u64 v, .int .i64 4] w fun e w' => e = .returned (.string (strOfNums [(v : Int) / 16777216 % 256, (v : Int) / 65536 % 256, (v : Int) / 256 % 256, (v : Int) % 256])) ∧ Below w.heap.size w w' := by
  have hn := ownB_nil w w.heap.size
  have hb := Below.refl w.heap.size w
  go_enter Try.func93, Try.ntmps93
  go_wp2_with (at_builtin; first
    | (refine wpList_append_bytes1 (w0 := w) rfl _ _ rfl _ _ rfl (by assumption) (by assumption) _ rfl (by simp) ?_; intro v1 w1 h1 b1; have hc := h1.string)
    | (refine wpList_append_bytes2 (w0 := w) rfl _ _ rfl _ _ rfl (by assumption) (by assumption) _ rfl (by simp) ?_; intro v1 w1 h1 b1)
    | (refine wpList_append_bytes4 (w0 := w) rfl _ _ rfl _ _ rfl (by assumption) (by assumption) _ rfl (by simp) ?_; intro v1 w1 h1 b1))
  go_ret
  exact ⟨rfl, b1⟩
set_option maxHeartbeats 400000 in
theorem lay_8 (v : Nat) (hv : v < 18446744073709551616) (w : World) :
    Calls Try.prog 93 #[.int .u64 v, .int .i64 8] w fun e w' => e = .returned (.string (strOfNums [(v : Int) / 72057594037927936, (v : Int) / 281474976710656 % 256, (v : Int) / 1099511627776 % 256, (v : Int) / 4294967296 % 256, (v : Int) / 16777216 % 256, (v : Int) / 65536 % 256, (v : Int) / 256 % 256, (v : Int) % 256])) ∧ Below w.heap.size w w' := by
  have hn := ownB_nil w w.heap.size
  have hb := Below.refl w.heap.size w
  go_enter Try.func93, Try.ntmps93
  go_wp2_with (at_builtin; first
    | (refine wpList_append_bytes1 (w0 := w) rfl _ _ rfl _ _ rfl (by assumption) (by assumption) _ rfl (by simp) ?_; intro v1 w1 h1 b1; have hc := h1.string)
    | (refine wpList_append_bytes2 (w0 := w) rfl _ _ rfl _ _ rfl (by assumption) (by assumption) _ rfl (by simp) ?_; intro v1 w1 h1 b1)
    | (refine wpList_append_bytes4 (w0 := w) rfl _ _ rfl _ _ rfl (by assumption) (by assumption) _ rfl (by simp) ?_; intro v1 w1 h1 b1))
  go_ret
  exact ⟨rfl, b1⟩
theorem lay_any (v n : Nat) (hv : v < 18446744073709551616) (hn : n = 1 ∨ n = 2 ∨ n = 4 ∨ n = 8) (w : World) :
    Calls Try.prog 93 #[.int .u64 v, .int .i64 n] w fun e w' => e = .returned (.string (strOfNums (layN v n))) ∧ Below w.heap.size w w' := by
  rcases hn with rfl | rfl | rfl | rfl
  · refine (lay_1 v hv w).mono ?_
    rintro e w' ⟨rfl, hb⟩
    exact ⟨by simp [layN, List.range_succ], hb⟩
  · refine (lay_2 v hv w).mono ?_
    rintro e w' ⟨rfl, hb⟩
    exact ⟨by simp [layN, List.range_succ], hb⟩
  · refine (lay_4 v hv w).mono ?_
    rintro e w' ⟨rfl, hb⟩
    exact ⟨by simp [layN, List.range_succ], hb⟩
  · refine (lay_8 v hv w).mono ?_
    rintro e w' ⟨rfl, hb⟩
    have h7 : (v : Int) / 72057594037927936 = (v : Int) / 72057594037927936 % 256 := by omega
    rw [h7]
    exact ⟨by simp [layN, List.range_succ], hb⟩
end Go.Proofs.Yteaaoipipjkgnaa.Wi
