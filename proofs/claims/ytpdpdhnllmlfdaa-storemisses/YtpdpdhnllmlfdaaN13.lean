/- What is missing. -/
import Derived.Test.YtpdpdhnllmlfdaaN12
namespace Go.Proofs.Ytpdpdhnllmlfdaa
open Go.RowKit Go.Maps

def sendL (f : Sf) (g : Nat → Ed) (n : Nat) : List Rc := (List.range n).filterMap fun (i : Nat) => if ansF f g i = 1 then some (rOf (f (i : Int))) else none
def wantL (f : Sf) (g : Nat → Ed) (n : Nat) : List Int := (List.range n).filterMap fun (i : Nat) => if ansF f g i = -1 then some (i : Int) else none
theorem sendL_succ (f : Sf) (g : Nat → Ed) (n : Nat) : sendL f g (n + 1) = sendL f g n ++ (if ansF f g n = 1 then [rOf (f (n : Int))] else []) := by
  unfold sendL
  rw [List.range_succ, List.filterMap_append]
  by_cases h : ansF f g n = 1 <;> simp [h]
theorem wantL_succ (f : Sf) (g : Nat → Ed) (n : Nat) : wantL f g (n + 1) = wantL f g n ++ (if ansF f g n = -1 then [(n : Int)] else []) := by
  unfold wantL
  rw [List.range_succ, List.filterMap_append]
  by_cases h : ansF f g n = -1 <;> simp [h]
theorem ansF_vals (f : Sf) (g : Nat → Ed) (n : Nat) : ansF f g n = -1 ∨ ansF f g n = 0 ∨ ansF f g n = 1 := newI_vals _ _ _ _
theorem row_ty {w : World} {base k size : Nat} {e : TypeId} {u : Value} {xs : List Value} (h : w.ownsRow base e size u k xs) {j : Nat} (hj : u.ownBlock = some j) : ∃ cur, w.heap[j]? = some (Obj.cells cur e) := by
  rcases h.2 with ⟨rfl, _⟩ | ⟨g, cap, cur, rfl, _, hh, _⟩
  · simp [Value.ownBlock] at hj
  · simp [Value.ownBlock] at hj
    subst hj
    exact ⟨cur, hh⟩
theorem infoInt9 : (Try.prog.info? 3).map (fun i => (i.zero, i.size, i.bytes)) = some (some (.int .i64 0), 1, 8) := by kernel_rfl
theorem append_in {W : World} {base k : Nat} {u : Value} {l : List Int} (hr : W.ownsRow base 3 1 u k (fl ic l)) (x : Int) (hk : (k + 1) * 8 ≤ 140737488355328) (hbase : base ≤ W.heap.size) :
    ∃ g cap w6, (Builtin.append_ #[46, 46] 46 #[u, .slice (some ⟨W.heap.size, 0, none⟩) 1 1]).run Try.prog (W.alloc (.cells (ic x).toArray 3)) = .ok (.slice (some ⟨g, 0, none⟩) (k + 1) cap) w6 ∧
      w6.ownsRow base 3 1 (.slice (some ⟨g, 0, none⟩) (k + 1) cap) (k + 1) (fl ic (l ++ [x])) ∧ (u.ownBlock = some g ∨ g = W.heap.size + 1) ∧ W.grownBy w6 u.ownBlock ∧ Below base W w6 :=
  append_one (P := Try.prog) (cs := ic) (T := 46) (fun _ => rfl) (fun _ => by simp [Value.oneCell']) Try.underlying46 infoInt9 rfl (by decide) hr x hk (by unfold maxLen; omega) hbase
theorem indexAns (c : Nat → Int) {k : Nat} (hk : k < 25) (w : World) : (Instr.index 88 (.agg (rcl c).toArray) (.int .i64 k)).run Try.prog w = .ok (.int .i64 (c k)) w := by
  obtain ⟨i0, hi, hz0, hz1, hz2⟩ := info_parts infoInt9
  have hkl : (k : Int) < 25 := by omega
  simp [Instr.index, asIntOf, go_sem, run_underlying underAns, hk]
  rw [rcl_get c hk]
  rfl
/-- What Missing answers. -/
def MisAns (w w' : World) (f : Sf) (o : Option (Nat → Ed)) (e : Ending) : Prop :=
  (o = none ∧ e = .returned (.tuple #[.slice none 0 0, .slice none 0 0, .int .i64 2])) ∨
    ∃ g u v L, o = some g ∧ e = .returned (.tuple #[u, v, .int .i64 0]) ∧ w'.ownsRow w.heap.size 28 6 u L.length (fl rcc L) ∧ rcs L = sendL f g 25 ∧ (∀ x ∈ L, FrRec w w' x) ∧ w'.ownsRow w.heap.size 3 1 v (wantL f g 25).length (fl ic (wantL f g 25))
/-- Amid it. -/
def MisM (w wr : World) (f : Sf) (g : Nat → Ed) (k : Nat) (u v : Value) : Prop :=
  ∃ L, wr.ownsRow w.heap.size 28 6 u L.length (fl rcc L) ∧ rcs L = sendL f g k ∧ (∀ x ∈ L, FrRec w wr x) ∧ wr.ownsRow w.heap.size 3 1 v (wantL f g k).length (fl ic (wantL f g k)) ∧ L.length ≤ k ∧ (wantL f g k).length ≤ k ∧ Below w.heap.size w wr
theorem MisM.keep {w wr w' : World} {f : Sf} {g : Nat → Ed} {k : Nat} {u v : Value} (h : MisM w wr f g k u v) (hb : Below wr.heap.size wr w') : MisM w w' f g k u v := by
  obtain ⟨L, h1, h2, h3, h4, h5, h6, h7⟩ := h
  exact ⟨L, row_below h1 hb (Nat.le_refl _), h2, fun x hx => (h3 x hx).keep hb, row_below h4 hb (Nat.le_refl _), h5, h6, h7.trans (hb.mono h7.size)⟩
theorem MisM.send {w W : World} {f : Sf} {g : Nat → Ed} {k : Nat} {u v : Value} (h : MisM w W f g k u v) (hk : k < 25) (ha : ansF f g k = 1) {x : Rc × Value} (hx : FrRec w W x) (hr : x.1 = rOf (f (k : Int))) :
    ∃ gg cap w6, (Builtin.append_ #[22, 22] 22 #[u, .slice (some ⟨W.heap.size, 0, none⟩) 1 1]).run Try.prog (W.alloc (.cells (rcc x).toArray 28)) = .ok (.slice (some ⟨gg, 0, none⟩) ((sendL f g k).length + 1) cap) w6 ∧ MisM w w6 f g (k + 1) (.slice (some ⟨gg, 0, none⟩) ((sendL f g k).length + 1) cap) v := by
  obtain ⟨L, h1, h2, h3, h4, h5, h6, h7⟩ := h
  obtain ⟨gg, cap, w6, hrun, hown, hb6, hF6⟩ := append_recF h1 x hx.one (by omega) h7.size
  have hLs : (sendL f g k).length = L.length := by rw [← h2, List.length_map]
  rw [hLs]
  have hno : ∀ (j : Nat) (cur : Array Value), W.heap[j]? = some (Obj.cells cur 75) → ¬ ∃ cur, W.heap[j]? = some (Obj.cells cur 28) := fun j cur h ⟨cur', h'⟩ => by
    rw [h] at h'
    simp at h'
  have hno2 : ∀ j, v.ownBlock = some j → ¬ ∃ cur, W.heap[j]? = some (Obj.cells cur 28) := fun j hj ⟨cur', h'⟩ => by
    obtain ⟨cur, h⟩ := row_ty h4 hj
    rw [h] at h'
    simp at h'
  have hl : (L ++ [x]).length = L.length + 1 := by simp
  refine ⟨gg, cap, w6, hrun, L ++ [x], by rw [hl]; exact hown, ?_, fun y hy => ?_, ?_, by rw [hl]; omega, ?_, h7.trans hb6⟩
  · rw [sendL_succ, if_pos ha, ← h2, ← hr]; simp
  · rcases List.mem_append.1 hy with hy | hy
    · exact (h3 y hy).fr hF6 hno
    · rw [List.mem_singleton.1 hy]; exact hx.fr hF6 hno
  · rw [wantL_succ, if_neg (by omega), List.append_nil]
    exact row_fr h4 hF6 hno2
  · rw [wantL_succ, if_neg (by omega), List.append_nil]; omega
theorem MisM.want {w W : World} {f : Sf} {g : Nat → Ed} {k : Nat} {u v : Value} (h : MisM w W f g k u v) (hk : k < 25) (ha : ansF f g k = -1) :
    ∃ gg cap w6, (Builtin.append_ #[46, 46] 46 #[v, .slice (some ⟨W.heap.size, 0, none⟩) 1 1]).run Try.prog (W.alloc (.cells (ic (k : Int)).toArray 3)) = .ok (.slice (some ⟨gg, 0, none⟩) ((wantL f g k).length + 1) cap) w6 ∧ MisM w w6 f g (k + 1) u (.slice (some ⟨gg, 0, none⟩) ((wantL f g k).length + 1) cap) := by
  obtain ⟨L, h1, h2, h3, h4, h5, h6, h7⟩ := h
  obtain ⟨gg, cap, w6, hrun, hown, _, hg6, hb6⟩ := append_in h4 (k : Int) (by omega) h7.size
  have hF6 : Fr (fun j => v.ownBlock = some j) W w6 := ⟨hg6.os, hg6.tape, hg6.output, hg6.size, fun j hj hn => hg6.block j hj (fun e => hn e.symm)⟩
  have hl : (wantL f g (k + 1)) = wantL f g k ++ [(k : Int)] := by rw [wantL_succ, if_pos ha]
  refine ⟨gg, cap, w6, hrun, L, row_fr h1 hF6 (fun j hj hv => ?_), ?_, fun y hy => (h3 y hy).fr hF6 (fun j cur hj hv => ?_), by rw [hl, List.length_append]; exact hown, by omega, by rw [hl, List.length_append]; simp; omega, h7.trans hb6⟩
  · obtain ⟨c1, e1⟩ := row_ty h1 hj
    obtain ⟨c2, e2⟩ := row_ty h4 hv
    rw [e1] at e2
    simp at e2
  · rw [sendL_succ, if_neg (by omega), List.append_nil]; exact h2
  · obtain ⟨c2, e2⟩ := row_ty h4 hv
    rw [hj] at e2
    simp at e2
theorem MisM.none {w W : World} {f : Sf} {g : Nat → Ed} {k : Nat} {u v : Value} (h : MisM w W f g k u v) (ha : ansF f g k = 0) : MisM w W f g (k + 1) u v := by
  obtain ⟨L, h1, h2, h3, h4, h5, h6, h7⟩ := h
  have e1 : sendL f g (k + 1) = sendL f g k := by rw [sendL_succ, if_neg (by omega), List.append_nil]
  have e2 : wantL f g (k + 1) = wantL f g k := by rw [wantL_succ, if_neg (by omega), List.append_nil]
  refine ⟨L, h1, by rw [e1]; exact h2, h3, ?_, by omega, ?_, h7⟩
  · rw [e2]; exact h4
  · rw [e2]; omega
theorem MisM.shape {w W : World} {f : Sf} {g : Nat → Ed} {k : Nat} {u v : Value} (h : MisM w W f g k u v) : ∃ a c b d, u = .slice a (sendL f g k).length c ∧ v = .slice b (wantL f g k).length d := by
  obtain ⟨L, h1, h2, _, h4, _⟩ := h
  obtain ⟨a, c, e1⟩ := row_shape h1
  obtain ⟨b, d, e2⟩ := row_shape h4
  have : (sendL f g k).length = L.length := by rw [← h2, List.length_map]
  exact ⟨a, c, b, d, by rw [this]; exact e1, e2⟩
end Go.Proofs.Ytpdpdhnllmlfdaa
