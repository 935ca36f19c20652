/- from, Near; marks in an array; marked. -/
import Derived.Test.YtkhfpcnmnnboeaaG3
namespace Go.Proofs.Ytkhfpcnmnnboeaa
open Go.RowKit

theorem infoAdj : (Try.prog.info? 68).map (fun i => (i.zero, i.size, i.bytes)) = some (some (.agg #[.int .i64 0, .int .i64 0]), 2, 16) := by kernel_rfl
theorem infoInt : (Try.prog.info? 3).map (fun i => (i.zero, i.size, i.bytes)) = some (some (.int .i64 0), 1, 8) := by kernel_rfl
theorem infoEdge : (Try.prog.info? 64).map (fun i => (i.zero, i.size, i.bytes)) = some (some (.agg #[.int .i64 0, .int .i64 0, .int .i64 0]), 3, 24) := by kernel_rfl
theorem append_adj {W : World} {base k : Nat} {u : Value} {l : List (Int × Int)} (hr : W.ownsRow base 68 2 u k (fl ac l)) (x : (Int × Int)) (hk : (k + 1) * 16 ≤ 140737488355328) (hbase : base ≤ W.heap.size) :
    ∃ g cap w6, (Builtin.append_ #[60, 60] 60 #[u, .slice (some ⟨W.heap.size, 0, none⟩) 1 1]).run Try.prog (W.alloc (.cells (ac x).toArray 68)) = .ok (.slice (some ⟨g, 0, none⟩) (k + 1) cap) w6 ∧
      w6.ownsRow base 68 2 (.slice (some ⟨g, 0, none⟩) (k + 1) cap) (k + 1) (fl ac (l ++ [x])) ∧ (u.ownBlock = some g ∨ g = W.heap.size + 1) ∧ W.grownBy w6 u.ownBlock ∧ Below base W w6 :=
  append_one (P := Try.prog) (cs := ac) (T := 60) (fun _ => rfl) (fun _ => by simp [Value.oneCell']) Try.underlying60 infoAdj rfl (by decide) hr x hk (by unfold maxLen; omega) hbase
theorem append_int {W : World} {base k : Nat} {u : Value} {l : List Int} (hr : W.ownsRow base 3 1 u k (fl ic l)) (x : Int) (hk : (k + 1) * 8 ≤ 140737488355328) (hbase : base ≤ W.heap.size) :
    ∃ g cap w6, (Builtin.append_ #[27, 27] 27 #[u, .slice (some ⟨W.heap.size, 0, none⟩) 1 1]).run Try.prog (W.alloc (.cells (ic x).toArray 3)) = .ok (.slice (some ⟨g, 0, none⟩) (k + 1) cap) w6 ∧
      w6.ownsRow base 3 1 (.slice (some ⟨g, 0, none⟩) (k + 1) cap) (k + 1) (fl ic (l ++ [x])) ∧ (u.ownBlock = some g ∨ g = W.heap.size + 1) ∧ W.grownBy w6 u.ownBlock ∧ Below base W w6 :=
  append_one (P := Try.prog) (cs := ic) (T := 27) (fun _ => rfl) (fun _ => by simp [Value.oneCell']) Try.underlying27 infoInt rfl (by decide) hr x hk (by unfold maxLen; omega) hbase
theorem append_edge {W : World} {base k : Nat} {u : Value} {l : List Ed} (hr : W.ownsRow base 64 3 u k (fl ec l)) (x : Ed) (hk : (k + 1) * 24 ≤ 140737488355328) (hbase : base ≤ W.heap.size) :
    ∃ g cap w6, (Builtin.append_ #[55, 55] 55 #[u, .slice (some ⟨W.heap.size, 0, none⟩) 1 1]).run Try.prog (W.alloc (.cells (ec x).toArray 64)) = .ok (.slice (some ⟨g, 0, none⟩) (k + 1) cap) w6 ∧
      w6.ownsRow base 64 3 (.slice (some ⟨g, 0, none⟩) (k + 1) cap) (k + 1) (fl ec (l ++ [x])) ∧ (u.ownBlock = some g ∨ g = W.heap.size + 1) ∧ W.grownBy w6 u.ownBlock ∧ Below base W w6 :=
  append_one (P := Try.prog) (cs := ec) (T := 55) (fun _ => rfl) (fun _ => by simp [Value.oneCell']) Try.underlying55 infoEdge rfl (by decide) hr x hk (by unfold maxLen; omega) hbase
theorem take_snoc {α : Type} {l : List α} {k : Nat} {x : α} (h : l[k]? = some x) : l.take (k + 1) = l.take k ++ [x] := by rw [List.take_add_one, h]; rfl
theorem nearL_snoc_yes {es : List Ed} {n y c : Int} : nearL (es ++ [(n, y, c)]) n = nearL es n ++ [(y, c)] := by simp [nearL, List.filter_append]
theorem nearL_snoc_no {es : List Ed} {n x y c : Int} (h : x ≠ n) : nearL (es ++ [(x, y, c)]) n = nearL es n := by simp [nearL, List.filter_append, h]
theorem nearL_length (es : List Ed) (n : Int) : (nearL es n).length ≤ es.length := by unfold nearL; rw [List.length_map]; exact List.length_filter_le _ _

end Go.Proofs.Ytkhfpcnmnnboeaa
