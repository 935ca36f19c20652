/- A calendar of int: Take, Drop. -/
import Derived.Test.YtaldehgggilmdaaC8I
namespace Go.Proofs.Ytaldehgggilmdaa.Ca.I
open Go.RowKit Go.Maps

/-- A thing's cells. -/
abbrev tc (x : Int) : List Value := [.int .i64 x]
theorem infoT : (Try.prog.info? 3).map (fun i => (i.zero, i.size, i.bytes)) = some (some (.int .i64 0), 1, 8) := by kernel_rfl
theorem append_th {W : World} {base k : Nat} {u : Value} {l : List Int} (hr : W.ownsRow base 3 1 u k (fl tc l)) (x : Int) (hk : (k + 1) * 8 ≤ 140737488355328) (hbase : base ≤ W.heap.size) :
    ∃ g cap w6, (Builtin.append_ #[64, 64] 64 #[u, .slice (some ⟨W.heap.size, 0, none⟩) 1 1]).run Try.prog (W.alloc (.cells (tc x).toArray 3)) = .ok (.slice (some ⟨g, 0, none⟩) (k + 1) cap) w6 ∧
      w6.ownsRow base 3 1 (.slice (some ⟨g, 0, none⟩) (k + 1) cap) (k + 1) (fl tc (l ++ [x])) ∧ (u.ownBlock = some g ∨ g = W.heap.size + 1) ∧ W.grownBy w6 u.ownBlock ∧ Below base W w6 :=
  append_one (P := Try.prog) (cs := tc) (T := 64) (fun _ => rfl) (fun _ => by simp [Value.oneCell']) Try.underlying64 infoT rfl (by decide) hr x hk (by unfold maxLen; omega) hbase
/-- Is something due? -/
def dueB (L : List (Tg Int)) (now : Int) : Bool := match L with | [] => false | b :: _ => decide (tick b.1 ≤ now)
theorem dropT_head {b : Tg Int} {L : List (Tg Int)} (h : Ord (b :: L)) : dropT (b :: L) b.2 = L := by
  unfold dropT
  rw [List.filter_cons, if_neg (by simp)]
  exact List.filter_eq_self.2 fun x hx => by
    have := ((List.pairwise_cons.1 h).1 x hx).2
    simpa using fun e => this e.symm
def slN (v : Value) : Nat := match v with | .slice _ n _ => n | _ => 0
end Go.Proofs.Ytaldehgggilmdaa.Ca.I
