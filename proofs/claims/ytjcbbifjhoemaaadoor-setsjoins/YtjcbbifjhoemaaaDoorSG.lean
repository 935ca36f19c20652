/- dandelionlaw04.SetsAgain. -/
import Derived.Test.YtjcbbifjhoemaaaDoorSF
import Derived.Test.YtjcbbifjhoemaaaDoorS8
import Derived.Laws.MakeOwn
namespace Go.Proofs.YtjcbbifjhoemaaaDoor
open Go.RowKit

/-- A row of flags. -/
structure HasH (w : World) (b n : Nat) (H : Nat → Bool) : Prop where
  c : ∀ j, j < n → w.cell? ⟨b, j, none⟩ = some (.bool (H j))
  f : ∀ j, j < n → w.frozen? ⟨b, j, none⟩ = false
  lt : b < w.heap.size
theorem HasH.keep {w w' : World} {b B n : Nat} {H : Nat → Bool} (h : HasH w b n H) (hb : Below B w w') (hB : b < B) : HasH w' b n H :=
  ⟨fun j hj => (hb.cell (p := ⟨b, j, none⟩) hB).trans (h.c j hj), fun j hj => (hb.frozen (p := ⟨b, j, none⟩) hB).trans (h.f j hj), Nat.lt_of_lt_of_le h.lt hb.size⟩
theorem HasH.set {w : World} {b n : Nat} {H : Nat → Bool} (h : HasH w b n H) (s : Nat) (hs : s < n) : HasH (w.setCell ⟨b, s, none⟩ (.bool true)) b n (updT H s) := by
  refine ⟨fun j hj => ?_, fun j hj => by rw [World.frozen?_setCell]; exact h.f j hj, by simpa using h.lt⟩
  by_cases e : j = s
  · subst e
    rw [World.cell?_setCell_same' _ _ _ (by rw [h.c j hj]; rfl)]
    simp [updT]
  · rw [World.cell?_setCell_other _ _ _ _ (by intro h; cases h; exact e rfl), h.c j hj]
    simp [updT, e]
theorem hasH_made (w : World) (n : Nat) : HasH (w.alloc (.cells (madeCells #[.bool false] n) 4)) w.heap.size n noneT := by
  have hh := heap_alloc_last w (.cells (madeCells #[.bool false] n) 4)
  refine ⟨fun j hj => ?_, fun j hj => ?_, by simp⟩
  · rw [cell_of_row _ _ j _ _ _ hh]
    simp [madeCells, hj, noneT, Nat.mod_one]
  · unfold World.frozen?
    simp only [hh]
    simp
theorem infoBool : (Tryd.prog.info? 4).map (fun i => (i.zero, i.size, i.bytes)) = some (some (.bool false), 1, 1) := by kernel_rfl
theorem make_flags (W : World) : (Instr.makeSlice 58 (.int .i64 1025) (.int .i64 1025)).run Tryd.prog W = .ok (.slice (some ⟨W.heap.size, 0, none⟩) 1025 1025) (W.alloc (.cells (madeCells #[.bool false] 1025) 4)) :=
  run_make_row' (P := Tryd.prog) 58 4 (.bool false) 1 Tryd.underlying58 infoBool rfl .i64 .i64 1025 (by omega) (by omega) W
/-- A slice's address: none, or plain. -/
def Plain (a : Option Addr) : Prop := a = none ∨ ∃ b o, a = some ⟨b, o, none⟩
theorem slice_head {t e : TypeId} {a : Option Addr} {n cap m : Nat} (ht : Tryd.prog.underlying t = some (.slice e)) (hs : ∀ w, (sizeOf e).run Tryd.prog w = .ok 1 w) (ha : Plain a) (hm : m ≤ cap) (w : World) :
    (Instr.slice t (.slice a n cap) none (some (.int .i64 (m : Int))) none).run Tryd.prog w = .ok (.slice a m cap) w := by
  have h1 : (0 : Int) ≤ m ∧ (m : Int) ≤ cap := by omega
  have h2 : a.map (·.add 0) = a := by
    rcases ha with rfl | ⟨b, o, rfl⟩
    · rfl
    · simp [Addr.add_mid]
  unfold Instr.slice
  simp [run_underlying ht w, Instr.sliceBounds, Instr.sliceBound, asIntOf, Sem.run_bind, Sem.run_pure, Result.andThen_ok, h1, hs w, h2]
  intro h
  omega
theorem l_append {P : Program} {ops : Array Oper} {rest : List Oper} {o : Oper} {a : Act} {w w' : World} {v' : Value} {Q : Exit → Act → World → Prop}
    (hg : o.guard = none) (s x : Operand) (t : TypeId) (hop : o.op = Op.call { callee := Callee.builtin Builtin.append, args := #[s, x], argTypes := #[t, t] })
    (hrun : (Builtin.append_ #[t, t] o.type #[a.eval s, a.eval x]).run P w = .ok v' w') (h : wpList P ops Q rest (a.put o.dst v') w') : wpList P ops Q (o :: rest) a w := by
  refine wpList_plain hg fun K hK => ?_
  unfold Oper.wp
  simp [execOp, hop, resolve, invoke, builtin, hrun, Result.andThen]
  exact hK _ _ h
theorem updT_mem (l : List Nat) (x : Nat) : updT (fun j => decide (j ∈ l)) x = fun j => decide (j ∈ l ++ [x]) := by
  funext j
  unfold updT
  by_cases e : j = x
  · subst e; simp
  · rw [if_neg e]; simp [e]
theorem row_cell {w : World} {base g n cap size : Nat} {e : TypeId} {xs : List Value} (h : w.ownsRow base e size (.slice (some ⟨g, 0, none⟩) n cap) n xs) {j : Nat} {v : Value} (hv : xs[j]? = some v) : w.cell? ⟨g, j, none⟩ = some v := by
  have hj : j < n * size := by have h1 := (List.getElem?_eq_some_iff.1 hv).1; rw [h.1] at h1; exact h1
  rw [h.cellAt j hj]
  exact hv
theorem row_plain {w : World} {base : Nat} {e : TypeId} {size k : Nat} {v : Value} {xs : List Value} (hr : w.ownsRow base e size v k xs) : (v = .slice none 0 0 ∧ k = 0) ∨ ∃ g cap, v = .slice (some ⟨g, 0, none⟩) k cap ∧ g < w.heap.size := by
  rcases hr.2 with ⟨rfl, rfl⟩ | ⟨g, cap, cur, rfl, _, hh, _⟩
  · exact .inl ⟨rfl, rfl⟩
  · exact .inr ⟨g, cap, rfl, (Array.getElem?_eq_some_iff.1 hh).1⟩
theorem idsAt_of_row {w : World} {base k : Nat} {u : Value} {zs : List Int} (hr : w.ownsRow base 3 1 u k (zs.map fun z => Value.int .i64 z)) (hk : k ≤ 9223372036854775807) : IdsAt w u zs := by
  have hl : zs.length = k := by have := hr.1; simpa using this
  rcases row_plain hr with ⟨rfl, rfl⟩ | ⟨g, cap, rfl, hg⟩
  · exact .inl ⟨none, 0, rfl, List.length_eq_zero_iff.1 hl⟩
  · refine .inr ⟨g, 0, cap, by rw [hl], hg, by omega, fun j hj => ?_⟩
    rw [Nat.zero_add]
    refine row_cell hr ?_
    rw [List.getElem?_map, List.getElem?_eq_getElem hj]
    rfl
/-- Parts as an argument. -/
def PartsAt (w : World) (v : Value) (ps : List (Int × Nat)) : Prop := (∃ a cap, v = .slice a 0 cap ∧ ps = []) ∨ (∃ bk o cap, v = .slice (some ⟨bk, o, none⟩) ps.length cap ∧ PartsIn w bk o ps)
theorem join_of {ps : List (Int × Nat)} {v : Value} {W : Nat} (hW : IsW W) {w : World} (ht : Tb w) (hp : PartsAt w v ps) :
    Calls Tryd.prog 11 #[v, .int .i64 W] w fun e w' => JoinPost W ps w.heap.size e w' ∧ Below w.heap.size w w' := by
  rcases hp with ⟨a, cap, rfl, rfl⟩ | ⟨bk, o, cap, rfl, h⟩
  · exact join_nil hW ht
  · exact join_any hW ht h
theorem pcls_get (f : Nat → Nat) : ∀ (l : List Nat) (j i s : Nat), l[j]? = some s → i < 5 → (pcls f l)[j * 5 + i]? = (pcl s (f s))[i]?
  | [], j, i, s, h, _ => by simp at h
  | x :: l, j, i, s, h, hi => by
    have hc : pcls f (x :: l) = pcl x (f x) ++ pcls f l := by simp [pcls]
    rw [hc]
    cases j with
    | zero =>
      simp at h
      subst h
      rw [List.getElem?_append_left (by simp; omega)]
      simp
    | succ j =>
      rw [List.getElem?_append_right (by simp; omega)]
      have := pcls_get f l j i s (by simpa using h) hi
      rw [← this]
      congr 1
      simp
      omega
theorem partsAt_of_row {w : World} {base k : Nat} {v : Value} {f : Nat → Nat} {l : List Nat} (hf : ∀ s, f s < 2 ^ 256) (hr : w.ownsRow base 37 5 v k (pcls f l)) (hk : l.length = k) (hk2 : k ≤ 1000) : PartsAt w v (prts f l) := by
  rcases row_plain hr with ⟨rfl, rfl⟩ | ⟨g, cap, rfl, hg⟩
  · exact .inl ⟨none, 0, rfl, by rw [List.length_eq_zero_iff.1 hk]; rfl⟩
  · refine .inr ⟨g, 0, cap, by simp [prts, hk], hg, by simp [prts]; omega, fun j p hp i u hu => ?_, fun p hp => ?_⟩
    · obtain ⟨s, hs, rfl⟩ : ∃ s, l[j]? = some s ∧ ((s : Int), f s) = p := by
        unfold prts at hp
        rw [List.getElem?_map] at hp
        cases h : l[j]? with
        | none => rw [h] at hp; cases hp
        | some s => rw [h] at hp; exact ⟨s, rfl, Option.some.inj hp⟩
      have hi : i < 5 := by have := (List.getElem?_eq_some_iff.1 hu).1; simpa using this
      rw [Nat.zero_add]
      refine row_cell hr ?_
      rw [pcls_get f l j i s hs hi]
      exact hu
    · unfold prts at hp
      obtain ⟨s, _, rfl⟩ := List.mem_map.1 hp
      exact hf s
end Go.Proofs.YtjcbbifjhoemaaaDoor
