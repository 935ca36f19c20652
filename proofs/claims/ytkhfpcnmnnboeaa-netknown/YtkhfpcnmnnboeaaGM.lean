/- Slices of things in memory; what a call leaves; append. -/
import Derived.Test.YtkhfpcnmnnboeaaG1
import Derived.Test.YtkhfpcnmnnboeaaProg
import Derived.WalkKit
import Derived.WalkSpells
import Derived.WalkLawsBesides
import Derived.Handy
import Derived.Deep.MidRow
import Derived.Deep.WholeRow
import Derived.Deep.DeepCutAuto
import Derived.Deep.RegionWith
import Derived.BigRegion
import Derived.Lib.QuietBelow
import Derived.BigQuiet
import Derived.Deep.QuietTactic
import Derived.Deep.AppendLies
import Derived.Below
namespace Go.Proofs.Ytkhfpcnmnnboeaa
open Go.RowKit

theorem hidIn {p : Prop} (h : p) : Hid p := h
/-- What a call leaves of what was there. -/
structure Fr (S : Nat → Prop) (w w' : World) : Prop where
  os : w'.os = w.os
  tape : w'.tape = w.tape
  output : w'.output = w.output
  size : w.heap.size ≤ w'.heap.size
  block : ∀ k, k < w.heap.size → ¬ S k → w'.heap[k]? = w.heap[k]?
theorem Fr.refl (S : Nat → Prop) (w : World) : Fr S w w := ⟨rfl, rfl, rfl, Nat.le_refl _, fun _ _ _ => rfl⟩
theorem Fr.trans {S : Nat → Prop} {a b c : World} (h : Fr S a b) (k : Fr S b c) : Fr S a c :=
  ⟨k.os.trans h.os, k.tape.trans h.tape, k.output.trans h.output, Nat.le_trans h.size k.size, fun i hi hs => (k.block i (Nat.lt_of_lt_of_le hi h.size) hs).trans (h.block i hi hs)⟩
theorem Fr.of_below {S : Nat → Prop} {w w' : World} (h : Below w.heap.size w w') : Fr S w w' := ⟨h.os, h.tape, h.output, h.size, fun k hk _ => h.block k hk⟩
theorem Fr.set {S : Nat → Prop} {a w : World} (h : Fr S a w) {p : Addr} (hp : S p.block) (u : Value) : Fr S a (w.setCell p u) :=
  h.trans ⟨rfl, rfl, rfl, by simp [World.setCell], fun k _ hs => Below.heap_setCell _ _ _ _ (fun e => hs (e ▸ hp))⟩
theorem Fr.drew {S : Nat → Prop} {a w : World} (h : Fr S a w) : Fr S a w.drew := ⟨h.os, h.tape, h.output, h.size, h.block⟩
theorem Fr.drewN {S : Nat → Prop} {w V : World} (h : Fr S w V) (n : Nat) : Fr S w (V.drewN n) := ⟨h.os, h.tape, h.output, h.size, h.block⟩
theorem Fr.below {S : Nat → Prop} {w w' : World} {B : Nat} (h : Fr S w w') (hB : B ≤ w.heap.size) (hS : ∀ k, S k → B ≤ k) : Below B w w' :=
  ⟨h.os, h.tape, h.output, h.size, fun k hk => h.block k (by omega) (fun hs => by have := hS k hs; omega)⟩
theorem Fr.mono {S T : Nat → Prop} {w w' : World} (h : Fr S w w') (hT : ∀ k, k < w.heap.size → S k → T k) : Fr T w w' :=
  ⟨h.os, h.tape, h.output, h.size, fun k hk hs => h.block k hk (fun h1 => hs (hT k hk h1))⟩
theorem block_lt {w : World} {b : Nat} {o : Obj} (h : w.heap[b]? = some o) : b < w.heap.size := (Array.getElem?_eq_some_iff.1 h).1
theorem frozen_new {w : World} {b : Nat} {cs : Array Value} {t : TypeId} (h : w.heap[b]? = some (.cells cs t)) (j : Nat) : w.frozen? ⟨b, j, none⟩ = false := by
  unfold World.frozen?
  simp only [h]
  simp
theorem row_set {w : World} {base g n cap size : Nat} {e : TypeId} {xs : List Value} (h : w.ownsRow base e size (.slice (some ⟨g, 0, none⟩) n cap) n xs) (j : Nat) (u : Value) :
    (w.setCell ⟨g, j, none⟩ u).ownsRow base e size (.slice (some ⟨g, 0, none⟩) n cap) n (xs.set j u) := by
  refine ⟨by rw [List.length_set]; exact h.1, ?_⟩
  rcases h.2 with ⟨h1, _⟩ | ⟨g', cap', cur, h1, hb, hh, h2, h3, h4, h5⟩
  · simp at h1
  · simp at h1
    obtain ⟨rfl, rfl⟩ := h1
    refine .inr ⟨g, cap, cur.setIfInBounds j u, rfl, hb, heap_setCell_same w g j cur e u hh, h2, h3, by simpa using h4, ?_⟩
    rw [Array.toList_setIfInBounds, List.take_set, h5]
theorem row_fr {w w' : World} {S : Nat → Prop} {base k size : Nat} {e : TypeId} {u : Value} {xs : List Value} (h : w.ownsRow base e size u k xs) (hF : Fr S w w') (hS : ∀ j, u.ownBlock = some j → ¬ S j) : w'.ownsRow base e size u k xs := by
  refine ⟨h.1, ?_⟩
  rcases h.2 with hn | ⟨g, cap, cur, rfl, hb, hgg, rest⟩
  · exact .inl hn
  · exact .inr ⟨g, cap, cur, rfl, hb, (hF.block g (block_lt hgg) (hS g rfl)).trans hgg, rest⟩
theorem row_below {W W' : World} {base c : Nat} {e : TypeId} {size k : Nat} {v : Value} {xs : List Value} (h : W.ownsRow base e size v k xs) (hb : Below c W W') (hc : W.heap.size ≤ c) : W'.ownsRow base e size v k xs :=
  h.kept (row := none) ⟨hb.os, hb.tape, hb.output, hb.size, fun k hk _ => hb.block k (by omega)⟩ (by cases v.ownBlock <;> simp)
theorem row_low {W : World} {base base' : Nat} {e : TypeId} {size k : Nat} {v : Value} {xs : List Value} (h : W.ownsRow base e size v k xs) (hb : base' ≤ base) : W.ownsRow base' e size v k xs := by
  refine ⟨h.1, ?_⟩
  rcases h.2 with hn | ⟨g, cap, cur, rfl, h1, rest⟩
  · exact .inl hn
  · exact .inr ⟨g, cap, cur, rfl, Nat.le_trans hb h1, rest⟩
theorem row_shape {w : World} {base : Nat} {e : TypeId} {size k : Nat} {v : Value} {xs : List Value} (hr : w.ownsRow base e size v k xs) : ∃ a cap, v = .slice a k cap := by
  rcases hr.2 with ⟨rfl, rfl⟩ | ⟨g', cap', cur, rfl, _⟩
  · exact ⟨none, 0, rfl⟩
  · exact ⟨_, _, rfl⟩
theorem info_parts {o : Option TypeInfo} {z : Value} {n b : Nat} (h : o.map (fun i => (i.zero, i.size, i.bytes)) = some (some z, n, b)) : ∃ i, o = some i ∧ i.zero = some z ∧ i.size = n ∧ i.bytes = b := by
  cases o with
  | none => cases h
  | some i =>
    simp at h
    exact ⟨i, rfl, h.1, h.2.1, h.2.2⟩
theorem l_append {P : Program} {ops : Array Oper} {rest : List Oper} {o : Oper} {a : Act} {w w' : World} {v' : Value} {Q : Exit → Act → World → Prop}
    (hg : o.guard = none) (s x : Operand) (t : TypeId) (hop : o.op = Op.call { callee := Callee.builtin Builtin.append, args := #[s, x], argTypes := #[t, t] })
    (hrun : (Builtin.append_ #[t, t] o.type #[a.eval s, a.eval x]).run P w = .ok v' w') (h : wpList P ops Q rest (a.put o.dst v') w') : wpList P ops Q (o :: rest) a w := by
  refine wpList_plain hg fun K hK => ?_
  unfold Oper.wp
  simp [execOp, hop, resolve, invoke, builtin, hrun, Result.andThen]
  exact hK _ _ h
/-- The cells of things, one behind the other. -/
def fl {α : Type} (cs : α → List Value) (l : List α) : List Value := l.flatMap cs
theorem fl_snoc {α : Type} (cs : α → List Value) (l : List α) (x : α) : fl cs (l ++ [x]) = fl cs l ++ cs x := by simp [fl, List.flatMap_append]
theorem fl_append {α : Type} (cs : α → List Value) (l m : List α) : fl cs (l ++ m) = fl cs l ++ fl cs m := by simp [fl, List.flatMap_append]
theorem fl_length {α : Type} {cs : α → List Value} {sz : Nat} (hc : ∀ x, (cs x).length = sz) (l : List α) : (fl cs l).length = l.length * sz := by
  induction l with
  | nil => simp [fl]
  | cons x l ih => unfold fl at ih ⊢; rw [List.flatMap_cons, List.length_append, ih, hc, List.length_cons, Nat.succ_mul, Nat.add_comm]
theorem fl_get {α : Type} {cs : α → List Value} {sz : Nat} (hc : ∀ x, (cs x).length = sz) : ∀ (l : List α) (j i : Nat) (x : α), l[j]? = some x → i < sz → (fl cs l)[j * sz + i]? = (cs x)[i]?
  | [], j, i, x, h, _ => by simp at h
  | y :: l, 0, i, x, h, hi => by
    simp at h
    subst h
    show (cs y ++ fl cs l)[0 * sz + i]? = _
    rw [Nat.zero_mul, Nat.zero_add, List.getElem?_append_left (by rw [hc]; exact hi)]
  | y :: l, j + 1, i, x, h, hi => by
    show (cs y ++ fl cs l)[(j + 1) * sz + i]? = _
    have hs : (j + 1) * sz = j * sz + sz := Nat.succ_mul j sz
    rw [List.getElem?_append_right (by rw [hc]; omega), hc, show (j + 1) * sz + i - sz = j * sz + i from by omega]
    exact fl_get hc l j i x (by simpa using h) hi
theorem fl_inv {α : Type} {cs : α → List Value} {sz : Nat} (hc : ∀ x, (cs x).length = sz) : ∀ (l : List α) (m : Nat) (u : Value), (fl cs l)[m]? = some u → ∃ j i x, l[j]? = some x ∧ i < sz ∧ m = j * sz + i ∧ (cs x)[i]? = some u
  | [], m, u, h => by simp [fl] at h
  | y :: l, m, u, h => by
    have h' : (cs y ++ fl cs l)[m]? = some u := h
    by_cases hm : m < sz
    · rw [List.getElem?_append_left (by rw [hc]; exact hm)] at h'
      exact ⟨0, m, y, by simp, hm, by simp, h'⟩
    · rw [List.getElem?_append_right (by rw [hc]; omega), hc] at h'
      obtain ⟨j, i, x, h1, h2, h3, h4⟩ := fl_inv hc l _ u h'
      exact ⟨j + 1, i, x, by simpa using h1, h2, by rw [Nat.succ_mul]; omega, h4⟩
/-- A slice of things: their cells lie where it says. -/
def SlAt {α : Type} (cs : α → List Value) (sz : Nat) (w : World) (v : Value) (l : List α) : Prop :=
  ∃ a cap, v = .slice a l.length cap ∧ l.length ≤ 9223372036854775807 ∧ l.length ≤ cap ∧ (0 < l.length → ∃ bk o, a = some ⟨bk, o, none⟩ ∧ bk < w.heap.size ∧ ∀ j x, l[j]? = some x → ∀ i u, (cs x)[i]? = some u → w.cell? ⟨bk, o + j * sz + i, none⟩ = some u)
theorem SlAt.keep {α : Type} {cs : α → List Value} {sz : Nat} {w w' : World} {v : Value} {l : List α} {B : Nat} (h : SlAt cs sz w v l) (hb : Below B w w') (hB : w.heap.size ≤ B) : SlAt cs sz w' v l := by
  obtain ⟨a, cap, rfl, h0, hcap, h1⟩ := h
  refine ⟨a, cap, rfl, h0, hcap, fun hp => ?_⟩
  obtain ⟨bk, o, rfl, h2, h3⟩ := h1 hp
  exact ⟨bk, o, rfl, Nat.lt_of_lt_of_le h2 hb.size, fun j x hx i u hu => (hb.cell (p := ⟨bk, o + j * sz + i, none⟩) (Nat.lt_of_lt_of_le h2 hB)).trans (h3 j x hx i u hu)⟩
theorem slAt_of_row {α : Type} {cs : α → List Value} {sz : Nat} (hc : ∀ x, (cs x).length = sz) {w : World} {base k : Nat} {e : TypeId} {u : Value} {l : List α} (hr : w.ownsRow base e sz u k (fl cs l)) (hk : l.length = k) : SlAt cs sz w u l := by
  rcases hr.2 with ⟨rfl, rfl⟩ | ⟨g, cap, cur, rfl, hb, hh, h1, h2, _⟩
  · exact ⟨none, 0, by rw [hk], by omega, by omega, fun h => by omega⟩
  · refine ⟨_, cap, by rw [hk], by unfold maxLen at h2; omega, by omega, fun _ => ⟨g, 0, rfl, block_lt hh, fun j x hx i v hv => ?_⟩⟩
    have hi : i < sz := by have := (List.getElem?_eq_some_iff.1 hv).1; rwa [hc] at this
    have h3 := hr.cells (g := g) rfl (j * sz + i) v (by rw [fl_get hc l j i x hx hi]; exact hv)
    rw [Addr.add_mid, Nat.zero_add] at h3
    rw [Nat.zero_add]
    exact h3
/-- One thing more behind an own row, out of a new block. -/
theorem append_one {P : Program} {α : Type} {cs : α → List Value} {sz by' : Nat} {T E : TypeId} {z : Value} (hc : ∀ x, (cs x).length = sz) (h1 : ∀ x, ∀ u ∈ cs x, u.oneCell' = true) (hu : P.underlying T = some (.slice E))
    (hi : (P.info? E).map (fun i => (i.zero, i.size, i.bytes)) = some (some z, sz, by')) (hz : z.cells.size = sz) (h0 : 0 < sz)
    {W : World} {base k : Nat} {u : Value} {l : List α} (hr : W.ownsRow base E sz u k (fl cs l)) (x : α) (hk : (k + 1) * by' ≤ 140737488355328) (hk2 : k + 1 ≤ maxLen) (hbase : base ≤ W.heap.size) :
    ∃ g cap w6, (Builtin.append_ #[T, T] T #[u, .slice (some ⟨W.heap.size, 0, none⟩) 1 1]).run P (W.alloc (.cells (cs x).toArray E)) = .ok (.slice (some ⟨g, 0, none⟩) (k + 1) cap) w6 ∧
      w6.ownsRow base E sz (.slice (some ⟨g, 0, none⟩) (k + 1) cap) (k + 1) (fl cs (l ++ [x])) ∧ (u.ownBlock = some g ∨ g = W.heap.size + 1) ∧ W.grownBy w6 u.ownBlock ∧ Below base W w6 := by
  obtain ⟨i0, hi, hz0, hz1, hz2⟩ := info_parts hi
  obtain ⟨g, cap, w6, hrun, hown, hgrow, hlie, _⟩ := run_append_lies (P := P) (W.alloc (.cells (cs x).toArray E)) T T base E i0 _ sz by' hu hi hz0 hz1 hz2 hz h0 u k (fl cs l) (hr.alloc _) ⟨W.heap.size, 0, none⟩ 1 1 (cs x) (by rw [hc, Nat.one_mul]) (fun j v hv => by
    rw [Addr.add_mid, Nat.zero_add, cell_of_row _ _ j (cs x).toArray E (0, 0) (heap_alloc_last W _)]
    simpa using hv) (h1 x) (by omega) hk2 hk (by simp; omega) (W.heap.size + 1) (by simp)
  have hs := hgrow.size
  simp at hs
  refine ⟨g, cap, w6, hrun, by rw [fl_snoc]; exact hown, hlie, ⟨hgrow.os, hgrow.tape, hgrow.output, by omega, fun j hj hne => (hgrow.block j (by simp; omega) hne).trans (Below.heap_alloc _ _ _ hj)⟩, ?_⟩
  exact ((Below.refl _ W).alloc hbase _).grown hgrow (by simp; omega) (fun j e => by
    rcases hr.2 with ⟨rfl, _⟩ | ⟨g', cap', cur, rfl, hb, _⟩
    · simp [Value.ownBlock] at e
    · simp [Value.ownBlock] at e; omega)
/-- A whole list behind an own row. -/
theorem append_all {P : Program} {α : Type} {cs : α → List Value} {sz by' : Nat} {T E : TypeId} {z : Value} (hc : ∀ x, (cs x).length = sz) (h1 : ∀ x, ∀ u ∈ cs x, u.oneCell' = true) (hu : P.underlying T = some (.slice E))
    (hi : (P.info? E).map (fun i => (i.zero, i.size, i.bytes)) = some (some z, sz, by')) (hz : z.cells.size = sz) (h0 : 0 < sz)
    {W : World} {base k : Nat} {u v : Value} {l m : List α} (hr : W.ownsRow base E sz u k (fl cs l)) (hv : SlAt cs sz W v m) (hk : (k + m.length) * by' ≤ 140737488355328) (hk2 : k + m.length ≤ maxLen) (hbase : base ≤ W.heap.size) (hnil : (∃ a n c, v = .slice (some a) n c) ∨ (v = .slice none 0 0 ∧ u = .slice none 0 0)) :
    ∃ v' w6, (Builtin.append_ #[T, T] T #[u, v]).run P W = .ok v' w6 ∧ w6.ownsRow base E sz v' (k + m.length) (fl cs (l ++ m)) ∧ Below base W w6 ∧ W.grownBy w6 u.ownBlock := by
  obtain ⟨i0, hi, hz0, hz1, hz2⟩ := info_parts hi
  obtain ⟨a, cap, rfl, hlen, hcap, hcell⟩ := hv
  by_cases hn : a = none
  · subst hn
    rcases hnil with ⟨a, n, c, h⟩ | ⟨h, rfl⟩
    · simp at h
    · simp at h
      obtain ⟨rfl, rfl⟩ := h
      have hk0 : k = 0 := by
        rcases hr.2 with ⟨_, h⟩ | ⟨_, _, _, h, _⟩
        · exact h
        · simp at h
      refine ⟨.slice none 0 0, W, ?_, by simpa using hr, Below.refl _ _, ⟨rfl, rfl, rfl, Nat.le_refl _, fun _ _ _ => rfl⟩⟩
      simp [Builtin.append_, go_sem, run_underlying hu W, run_sizeOf W hi]
  · obtain ⟨ad, rfl⟩ : ∃ ad, a = some ad := by cases a with | none => exact absurd rfl hn | some ad => exact ⟨ad, rfl⟩
    obtain ⟨v', w', hrun, r1, r2, _⟩ := run_append_own (P := P) W base T T E i0 _ sz by' hu hi hz0 hz1 hz2 hz h0 u k (fl cs l) hr ad m.length cap (fl cs m) (by rw [fl_length hc]) (fun j v hj => by
      obtain ⟨q, i, x, h1, h2, rfl, h4⟩ := fl_inv hc m j v hj
      have hp : 0 < m.length := by have := (List.getElem?_eq_some_iff.1 h1).1; omega
      obtain ⟨bk, o, h5, h6, h7⟩ := hcell hp
      cases h5
      rw [Addr.add_mid, ← Nat.add_assoc]
      exact h7 q x h1 i v h4) (fun v hv => by
      obtain ⟨j, hj, rfl⟩ := List.getElem_of_mem hv
      obtain ⟨q, i, x, h2, h3, _, h4⟩ := fl_inv hc m j _ (List.getElem?_eq_getElem hj)
      exact h1 x _ (List.mem_of_getElem? h4)) hk2 hk hbase
    exact ⟨v', w', hrun, by rw [fl_append]; exact r1, (Below.refl _ W).grown r2 hbase (fun j e => (hr.lt j e).1), r2⟩
end Go.Proofs.Ytkhfpcnmnnboeaa
