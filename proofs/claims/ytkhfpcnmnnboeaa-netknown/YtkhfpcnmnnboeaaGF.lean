/- own: a graph in memory of its own, with room behind that is marked. -/
import Derived.Test.YtkhfpcnmnnboeaaGE
import Derived.Deep.RegionHeld3
namespace Go.Proofs.Ytkhfpcnmnnboeaa
open Go.RowKit

/-- An append in a statement that leaves its order open: by its run. -/
theorem step_append {P : Program} {ops : Array Oper} {o : Oper} {a : Act} {w w' : World} {v' : Value} {K : Act → World → Prop} {Q : Exit → Act → World → Prop} {E : Prop}
    (hg : o.guard = none) (s x : Operand) (t : TypeId) (hop : o.op = Op.call { callee := Callee.builtin Builtin.append, args := #[s, x], argTypes := #[t, t] })
    {vs vx : Value} (hs : a.eval s = vs) (hx : a.eval x = vx) (hrun : (Builtin.append_ #[t, t] o.type #[vs, vx]).run P w = .ok v' w') (hK : K (a.put o.dst v') w') :
    if Region.wanted o (yielded ops a.tmps) = true then Oper.wp P o a w K Q else E := by
  have hw : Region.wanted o (yielded ops a.tmps) = true := by simp [Region.wanted, hg]
  rw [if_pos hw]
  unfold Oper.wp
  simp [execOp, hop, resolve, invoke, builtin, hs, hx, hrun, Result.andThen]
  exact hK
/-- A slice that is nil or has a place. -/
def NilOk (v : Value) : Prop := (∃ a n c, v = .slice (some a) n c) ∨ v = .slice none 0 0
theorem slAt_front {α : Type} {cs : α → List Value} {sz : Nat} (hc : ∀ x, (cs x).length = sz) {w : World} {base g cap : Nat} {e : TypeId} {l : List α} {x : α} (hr : w.ownsRow base e sz (.slice (some ⟨g, 0, none⟩) (l.length + 1) cap) (l.length + 1) (fl cs (l ++ [x]))) : SlAt cs sz w (.slice (some ⟨g, 0, none⟩) l.length cap) l := by
  obtain ⟨a, c, he, h1, h2, h3⟩ := slAt_of_row hc hr (by simp)
  simp at he
  obtain ⟨rfl, rfl⟩ := he
  obtain ⟨bk, o, h4, h5, h6⟩ := h3 (by simp)
  simp at h1 h2
  refine ⟨_, _, rfl, by omega, by omega, fun _ => ⟨bk, o, h4, h5, fun j y hy => h6 j y ?_⟩⟩
  rw [List.getElem?_append_left (List.getElem?_eq_some_iff.1 hy).1]
  exact hy
theorem append_allI {W : World} {base n : Nat} {u v : Value} {l m : List (Int)} (hr : W.ownsRow base 3 1 u n (fl ic l)) (hv : SlAt ic 1 W v m) (hk : (n + m.length) * 8 ≤ 140737488355328) (hbase : base ≤ W.heap.size) (hnil : (∃ a n c, v = .slice (some a) n c) ∨ (v = .slice none 0 0 ∧ u = .slice none 0 0)) :
    ∃ v' w6, (Builtin.append_ #[27, 27] 27 #[u, v]).run Try.prog W = .ok v' w6 ∧ w6.ownsRow base 3 1 v' (n + m.length) (fl ic (l ++ m)) ∧ Below base W w6 ∧ W.grownBy w6 u.ownBlock :=
  append_all (P := Try.prog) (cs := ic) (T := 27) (fun _ => rfl) (fun _ => by simp [Value.oneCell']) Try.underlying27 infoInt rfl (by decide) hr hv hk (by unfold maxLen; omega) hbase hnil
theorem append_allE {W : World} {base n : Nat} {u v : Value} {l m : List (Ed)} (hr : W.ownsRow base 64 3 u n (fl ec l)) (hv : SlAt ec 3 W v m) (hk : (n + m.length) * 24 ≤ 140737488355328) (hbase : base ≤ W.heap.size) (hnil : (∃ a n c, v = .slice (some a) n c) ∨ (v = .slice none 0 0 ∧ u = .slice none 0 0)) :
    ∃ v' w6, (Builtin.append_ #[55, 55] 55 #[u, v]).run Try.prog W = .ok v' w6 ∧ w6.ownsRow base 64 3 v' (n + m.length) (fl ec (l ++ m)) ∧ Below base W w6 ∧ W.grownBy w6 u.ownBlock :=
  append_all (P := Try.prog) (cs := ec) (T := 55) (fun _ => rfl) (fun _ => by simp [Value.oneCell']) Try.underlying55 infoEdge rfl (by decide) hr hv hk (by unfold maxLen; omega) hbase hnil
end Go.Proofs.Ytkhfpcnmnnboeaa
