/- Bytes that a call gathers for itself: append, and the string of them. -/
import Derived.Test.YteaaoipipjkgnaaK3
import Derived.Laws.BytesArg
import Derived.Laws.OwnMore
import Derived.Deep.AppendLies
import Derived.Deep.OwnRows
namespace Go.Proofs.Yteaaoipipjkgnaa.Wi
open Go.RowKit

theorem binfo : (Try.prog.info? 5).map (fun i => (i.zero, i.size, i.bytes)) = some (some (.int .u8 0), 1, 1) := by kernel_rfl
theorem addr_add' (b o j : Nat) : (⟨b, o, none⟩ : Addr).add j = ⟨b, o + j, none⟩ := by unfold Addr.add; split <;> simp_all

/-- v owns the bytes l. -/
def OwnB (W : World) (base : Nat) (v : Value) (l : List Int) : Prop := W.ownsRow base 5 1 v l.length (l.map (Value.int .u8))
theorem ownB_nil (W : World) (base : Nat) : OwnB W base (.slice none 0 0) [] := World.ownsRow_nil _ _ _ _
theorem OwnB.alloc {W : World} {base : Nat} {v : Value} {l : List Int} (h : OwnB W base v l) (o : Obj) : OwnB (W.alloc o) base v l := World.ownsRow.alloc h o
theorem OwnB.string {W : World} {base : Nat} {v : Value} {l : List Int} (h : OwnB W base v l) : (convert 53 9 v).run Try.prog W = .ok (.string (strOfNums l)) W := by
  by_cases h0 : l.length = 0
  · obtain rfl : l = [] := List.eq_nil_of_length_eq_zero h0
    obtain ⟨_, ⟨rfl, _⟩ | ⟨g, cap, cur, rfl, hg, hc, _, _, _, _⟩⟩ := h
    · exact run_convert_bytes_nil W 53 5 Try.underlying53 Try.underlying5 0 0 9 Try.underlying9
    · exact run_convert_bytes_arg W 53 5 Try.underlying53 Try.underlying5 g 0 0 cap [] rfl (fun i hi => by omega) 9 Try.underlying9
  · obtain ⟨g, cap, rfl, _, _⟩ := World.ownsRow.form h (by omega)
    refine run_convert_bytes_arg W 53 5 Try.underlying53 Try.underlying5 g 0 l.length cap l rfl (fun i hi => ?_) 9 Try.underlying9
    rw [Nat.zero_add, World.ownsRow.cellAt h i (by omega), List.getElem?_map, List.getElem?_eq_getElem hi, List.getD_eq_getElem?_getD, List.getElem?_eq_getElem hi]
    rfl
theorem below_grown {w w' : World} {base : Nat} {v : Value} {l : List Int} (h : OwnB w base v l) (hb : base ≤ w.heap.size) (hg : w.grownBy w' v.ownBlock) : Below base w w' :=
  ⟨hg.os, hg.tape, hg.output, hg.size, fun k hk => hg.block k (by omega) (by
    intro e
    have := (World.ownsRow.lt h k e.symm).1
    omega)⟩

theorem wpList_append_bytes {w : World} {ops : Array Oper} {rest : List Oper} {o : Oper} {a : Act} {Q : Exit → Act → World → Prop} (hgd : o.guard = none) (s x : Operand)
    (ho : o.op = .call { callee := .builtin .append, args := #[s, x], argTypes := #[53, 53] }) (base : Nat) (v : Value) (l : List Int) (hs : a.eval s = v) (hown : OwnB w base v l)
    (b c : Nat) (news : List Int) (hx : a.eval x = .slice (some ⟨b, 0, none⟩) news.length c) (hnews : ∀ j, j < news.length → w.cell? ⟨b, j, none⟩ = some (.int .u8 (news.getD j 0)))
    (hlen : l.length + news.length ≤ 140737488355328) (hbase : base ≤ w.heap.size)
    (h : ∀ v' w', OwnB w' base v' (l ++ news) → Below base w w' → wpList Try.prog ops Q rest (a.put o.dst v') w') : wpList Try.prog ops Q (o :: rest) a w := by
  obtain ⟨i0, hi, hz0, hz1, hz2⟩ := info_parts binfo
  refine wpList_append_own _ hgd s x 53 ho base 5 i0 (.int .u8 0) 1 1 Try.underlying53 hi hz0 hz1 hz2 rfl (by decide) v l.length (l.map (Value.int .u8)) hs hown
    ⟨b, 0, none⟩ news.length c (news.map (Value.int .u8)) hx (by simp) ?_ ?_ (by unfold maxLen; omega) (by omega) hbase ?_
  · intro j u hu
    rw [List.getElem?_map] at hu
    cases hj : news[j]? with
    | none => rw [hj] at hu; cases hu
    | some z =>
      rw [hj] at hu
      rw [addr_add', Nat.zero_add, hnews j (List.getElem?_eq_some_iff.1 hj).1, List.getD_eq_getElem?_getD, hj]
      exact hu
  · intro u hu
    obtain ⟨z, _, rfl⟩ := List.mem_map.1 hu
    rfl
  · intro v' w' hown' hg _
    refine h v' w' ?_ (below_grown hown hbase hg)
    unfold OwnB
    rw [List.length_append, List.map_append]
    exact hown'
theorem wpList_append_bytes1 {w0 w : World} {T : TypeId} {n : Int} {ops : Array Oper} {rest : List Oper} {o : Oper} {a : Act} {Q : Exit → Act → World → Prop} (hgd : o.guard = none) (s x : Operand)
    (ho : o.op = .call { callee := .builtin .append, args := #[s, x], argTypes := #[53, 53] }) (v : Value) (l : List Int) (hs : a.eval s = v) (hown : OwnB w w0.heap.size v l) (hbel : Below w0.heap.size w0 w)
    (c : Nat) (hx : a.eval x = .slice (some ⟨w.heap.size, 0, none⟩) 1 c) (hlen : l.length + 1 ≤ 140737488355328)
    (h : ∀ v' w', OwnB w' w0.heap.size v' (l ++ [n]) → Below w0.heap.size w0 w' → wpList Try.prog ops Q rest (a.put o.dst v') w') : wpList Try.prog ops Q (o :: rest) a (w.alloc (.cells #[.int .u8 n] T)) := by
  have hbase := hbel.size
  refine wpList_append_bytes hgd s x ho w0.heap.size v l hs (hown.alloc _) w.heap.size c [n] hx ?_ hlen (by simp; omega) ?_
  · intro j hj
    have : j = 0 := by simpa using hj
    subst this
    simp
  · intro v' w' h1 h2
    exact h v' w' h1 ((hbel.alloc hbase _).trans h2)
theorem wpList_append_bytes2 {w0 w : World} {T : TypeId} {n m : Int} {ops : Array Oper} {rest : List Oper} {o : Oper} {a : Act} {Q : Exit → Act → World → Prop} (hgd : o.guard = none) (s x : Operand)
    (ho : o.op = .call { callee := .builtin .append, args := #[s, x], argTypes := #[53, 53] }) (v : Value) (l : List Int) (hs : a.eval s = v) (hown : OwnB w w0.heap.size v l) (hbel : Below w0.heap.size w0 w)
    (c : Nat) (hx : a.eval x = .slice (some ⟨w.heap.size, 0, none⟩) 2 c) (hlen : l.length + 2 ≤ 140737488355328)
    (h : ∀ v' w', OwnB w' w0.heap.size v' (l ++ [n, m]) → Below w0.heap.size w0 w' → wpList Try.prog ops Q rest (a.put o.dst v') w') : wpList Try.prog ops Q (o :: rest) a (w.alloc (.cells #[.int .u8 n, .int .u8 m] T)) := by
  have hbase := hbel.size
  refine wpList_append_bytes hgd s x ho w0.heap.size v l hs (hown.alloc _) w.heap.size c [n, m] hx ?_ hlen (by simp; omega) ?_
  · intro j hj
    have : j = 0 ∨ j = 1 := by simp at hj; omega
    rcases this with rfl | rfl <;> simp
  · intro v' w' h1 h2
    exact h v' w' h1 ((hbel.alloc hbase _).trans h2)
theorem wpList_append_bytes4 {w0 w : World} {T : TypeId} {n m p q : Int} {ops : Array Oper} {rest : List Oper} {o : Oper} {a : Act} {Q : Exit → Act → World → Prop} (hgd : o.guard = none) (s x : Operand)
    (ho : o.op = .call { callee := .builtin .append, args := #[s, x], argTypes := #[53, 53] }) (v : Value) (l : List Int) (hs : a.eval s = v) (hown : OwnB w w0.heap.size v l) (hbel : Below w0.heap.size w0 w)
    (c : Nat) (hx : a.eval x = .slice (some ⟨w.heap.size, 0, none⟩) 4 c) (hlen : l.length + 4 ≤ 140737488355328)
    (h : ∀ v' w', OwnB w' w0.heap.size v' (l ++ [n, m, p, q]) → Below w0.heap.size w0 w' → wpList Try.prog ops Q rest (a.put o.dst v') w') : wpList Try.prog ops Q (o :: rest) a (w.alloc (.cells #[.int .u8 n, .int .u8 m, .int .u8 p, .int .u8 q] T)) := by
  have hbase := hbel.size
  refine wpList_append_bytes hgd s x ho w0.heap.size v l hs (hown.alloc _) w.heap.size c [n, m, p, q] hx ?_ hlen (by simp; omega) ?_
  · intro j hj
    have : j = 0 ∨ j = 1 ∨ j = 2 ∨ j = 3 := by simp at hj; omega
    rcases this with rfl | rfl | rfl | rfl <;> simp
  · intro v' w' h1 h2
    exact h v' w' h1 ((hbel.alloc hbase _).trans h2)
end Go.Proofs.Yteaaoipipjkgnaa.Wi
