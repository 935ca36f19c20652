/- bits.Text: the text of a bit string. -/
import Derived.Test.YtmdpbohepdblcaaDoorE2
import Derived.Deep.AppendLies
import Derived.Lib.Join
namespace Go.Proofs.YtmdpbohepdblcaaDoor
open Go.RowKit Go.Shelf

attribute [local go_sem] Oper.semAt_some

/-- A bit's number, as digits. -/
def num (m : Nat) : List UInt8 := Lib.decDigits (m + 1)
theorem infoStr : (Tryd.prog.info? 9).map (fun i => (i.zero, i.size, i.bytes)) = some (some (.string ⟨#[]⟩), 1, 16) := by kernel_rfl

/-- The text of the bits. -/
def txt (l : List Nat) : List UInt8 := Lib.join (l.map num) [32]

theorem num_length (m : Nat) (h : m < 256) : (num m).length ≤ 3 := by
  unfold num
  rw [Lib.decDigits]
  split
  · simp
  rw [Lib.decDigits]
  split
  · simp
  rw [Lib.decDigits]
  split
  · simp
  · omega
theorem join_length : ∀ (l : List (List UInt8)) (sep : List UInt8) (c : Nat), (∀ x ∈ l, x.length ≤ c) → (Lib.join l sep).length ≤ l.length * (c + sep.length)
  | [], sep, c, _ => by simp [Lib.join_nil]
  | [x], sep, c, h => by rw [Lib.join_one]; have := h x (by simp); simp; omega
  | x :: y :: r, sep, c, h => by
    have ih := join_length (y :: r) sep c (fun z hz => h z (by simp [hz]))
    have hx := h x (by simp)
    have e : Lib.join (x :: y :: r) sep = x ++ sep ++ Lib.join (y :: r) sep := by simp [Lib.join, List.intercalate, List.intersperse]
    rw [e]
    simp only [List.length_append, List.length_cons, Nat.add_mul, Nat.one_mul] at ih ⊢
    omega
theorem txt_length (l : List Nat) (h : ∀ m ∈ l, m < 256) (hl : l.length ≤ 256) : (txt l).length ≤ 1024 := by
  have := join_length (l.map num) [32] 3 (by intro x hx; obtain ⟨m, hm, rfl⟩ := List.mem_map.1 hx; exact num_length m (h m hm))
  unfold txt
  simp only [List.length_map, List.length_cons, List.length_nil] at this
  omega

theorem grown_none {w w' : World} (h : Below w.heap.size w w') : w.grownBy w' none := ⟨h.os, h.tape, h.output, h.size, fun k hk _ => h.block k hk⟩
theorem row_none {W W' : World} {base : Nat} {e : TypeId} {v : Value} {k : Nat} {xs : List Value} (h : W.ownsRow base e 1 v k xs) (hb : Below W.heap.size W W') : W'.ownsRow base e 1 v k xs :=
  h.kept (grown_none hb) (by cases v.ownBlock <;> simp)
theorem row_far {W : World} {base : Nat} {e : TypeId} {v : Value} {k : Nat} {xs : List Value} (h : W.ownsRow base e 1 v k xs) {b : Nat} (hb : b < base) : some b ≠ v.ownBlock := by
  rcases h.2 with ⟨rfl, _⟩ | ⟨g, cap, cur, rfl, hbase, _⟩
  · simp [Value.ownBlock]
  · simp [Value.ownBlock]; omega
theorem round_end {W w4 w6 : World} {L B base : Nat} (hG : Below W.heap.size W w4) (hb6 : Below base w4 w6) (hBL : B < L) (hL : L + 2 < W.heap.size) (hbase : L + 3 ≤ base) (u : Value) :
    (w6.setCell ⟨B, 0, none⟩ u).heap[L]? = W.heap[L]? ∧ (w6.setCell ⟨B, 0, none⟩ u).heap[L + 1]? = W.heap[L + 1]? ∧ (w6.setCell ⟨B, 0, none⟩ u).heap[L + 2]? = W.heap[L + 2]? ∧ W.heap.size ≤ (w6.setCell ⟨B, 0, none⟩ u).heap.size := by
  have k : ∀ q, L ≤ q → q ≤ L + 2 → (w6.setCell ⟨B, 0, none⟩ u).heap[q]? = W.heap[q]? := fun q h1 h2 => by
    rw [Below.heap_setCell w6 ⟨B, 0, none⟩ u q (by show q ≠ B; omega), hb6.block q (by omega), hG.block q (by omega)]
  refine ⟨k L (by omega) (by omega), k (L + 1) (by omega) (by omega), k (L + 2) (by omega) (by omega), ?_⟩
  have := hb6.size
  have := hG.size
  simp
  omega

/-- An append in a statement that leaves its order open, inside a fence: by its run. -/
theorem stepIn_append {F : Fence} {n : Nat} {P : Program} {ops : Array Oper} {o : Oper} {a : Act} {w w' : World} {v' : Value} {K : Act → World → Prop} {Q : Exit → Act → World → Prop} {E : Prop}
    (hg : o.guard = none) (s x : Operand) (t : TypeId) (hop : o.op = Op.call { callee := Callee.builtin Builtin.append, args := #[s, x], argTypes := #[t, t] })
    (hrun : (Builtin.append_ #[t, t] o.type #[a.eval s, a.eval x]).run P w = .ok v' w') (hK : K (a.put o.dst v') w') :
    if Region.wanted o (yielded ops a.tmps) = true then Oper.wpIn F n P o a w K Q else E := by
  have hw : Region.wanted o (yielded ops a.tmps) = true := by simp [Region.wanted, hg]
  rw [if_pos hw]
  unfold Oper.wpIn
  refine ⟨by simp [Oper.about, hop, resolve, Target.leads, Sem.run_pure], ?_⟩
  rw [Oper.semAt_plain F _ _ (by rw [hop]; intro c hc'; cases hc')]
  simp [execOp, hop, resolve, invoke, builtin, hrun, Result.andThen]
  exact hK

/-- What an append to a row of one's own gives, the box of the slice beside it. -/
theorem append_row {w4 : World} {t e : TypeId} {i : TypeInfo} {z : Value} {bytes : Nat} {P : Program} (h1 : P.underlying t = some (.slice e)) (h2 : P.info? e = some i) (h3 : i.zero = some z) (h4 : i.size = 1) (h5 : i.bytes = bytes) (h6 : z.cells.size = 1) (hby : bytes ≤ 64)
    {B base k : Nat} {v u : Value} {xs : List Value} (hv : Boxed w4 B t v) (hr : w4.ownsRow base e 1 v k xs) (hu : u.oneCell' = true) (hk : k < 1000000) (hB : B < base) (hbase : base ≤ w4.heap.size) :
    ∃ g cap w6, (Builtin.append_ #[t, t] t #[v, .slice (some ⟨w4.heap.size, 0, none⟩) 1 1]).run P (w4.alloc (.cells #[u] e)) = .ok (.slice (some ⟨g, 0, none⟩) (k + 1) cap) w6 ∧
      w6.ownsRow base e 1 (.slice (some ⟨g, 0, none⟩) (k + 1) cap) (k + 1) (xs ++ [u]) ∧ Boxed w6 B t v ∧ Below base w4 w6 := by
  obtain ⟨g, cap, w6, hrun, hown, hgrow, _, _⟩ := run_append_lies (P := P) (w4.alloc (.cells #[u] e)) t t base e i z 1 bytes h1 h2 h3 h4 h5 h6 (by decide) v k xs (hr.alloc _) ⟨w4.heap.size, 0, none⟩ 1 1 [u] rfl (cell_one_new _ _ _) (by simpa using hu) (by omega) (by unfold maxLen; omega) (by have : (k + 1) * bytes ≤ 1000000 * 64 := Nat.mul_le_mul (by omega) hby; omega) (by simp; omega) (w4.heap.size + 1) (by simp)
  refine ⟨g, cap, w6, hrun, hown, (hv.alloc _).kept hgrow (row_far hr hB), ?_⟩
  exact ((Below.refl _ w4).alloc hbase _).grown hgrow (by simp; omega) (fun j e => by
    rcases hr.2 with ⟨rfl, _⟩ | ⟨g', cap', cur, rfl, hb, _⟩
    · simp [Value.ownBlock] at e
    · simp [Value.ownBlock] at e; omega)

end Go.Proofs.YtmdpbohepdblcaaDoor
