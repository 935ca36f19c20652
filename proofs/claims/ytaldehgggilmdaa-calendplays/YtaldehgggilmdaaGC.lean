/- Structs compared; rec, three, works. -/
import Derived.Test.YtaldehgggilmdaaGB
import Derived.Laws.StructEq
namespace Go.Proofs.Ytaldehgggilmdaa
open Go.RowKit

theorem eqI (d : Nat) (x y : Int) (w : World) : (Op.equalIn (d + 1) 3 (.int .i64 x) (.int .i64 y)).run Try.prog w = .ok (x == y) w := run_equalIn_int w d _ _ _ x y Try.underlying3
theorem eqFields_cons (d : Nat) (xs ys : Array Value) (f : Field) (fs : List Field) (a b : Value) (r : Bool) (w : World) (hn : (f.name == "_") = false) (hx : (part f.type xs f.offset).run Try.prog w = .ok a w) (hy : (part f.type ys f.offset).run Try.prog w = .ok b w)
    (he : (Op.equalIn d f.type a b).run Try.prog w = .ok r w) : (Op.eqFields d xs ys (f :: fs)).run Try.prog w = if r = true then (Op.eqFields d xs ys fs).run Try.prog w else .ok false w := by
  have hn' : f.name ≠ "_" := by intro e; rw [e] at hn; simp at hn
  simp only [Op.eqFields, hn', ne_eq, not_false_eq_true, if_true, Sem.run_bind, hx, hy, he, Result.andThen_ok, Sem.run_ite, Sem.run_pure]
  cases r <;> simp
theorem part2 {x0 x1 : Value} (w : World) : (part 3 #[x0, x1] 0).run Try.prog w = .ok x0 w ∧ (part 3 #[x0, x1] 1).run Try.prog w = .ok x1 w :=
  ⟨by kernel_rfl, by kernel_rfl⟩
theorem part3 {x0 x1 x2 : Value} (w : World) : (part 3 #[x0, x1, x2] 0).run Try.prog w = .ok x0 w ∧ (part 3 #[x0, x1, x2] 1).run Try.prog w = .ok x1 w ∧ (part 3 #[x0, x1, x2] 2).run Try.prog w = .ok x2 w :=
  ⟨by kernel_rfl, by kernel_rfl, by kernel_rfl⟩
theorem slAt_block {α : Type} {cs : α → List Value} {sz : Nat} (hc : ∀ x, (cs x).length = sz) {w : World} {b : Nat} {T : TypeId} {l : List α} (h : w.heap[b]? = some (.cells (fl cs l).toArray T)) (hn : l.length ≤ 1000) : SlAt cs sz w (.slice (some ⟨b, 0, none⟩) l.length l.length) l := by
  refine ⟨_, _, rfl, by omega, Nat.le_refl _, fun _ => ⟨b, 0, rfl, block_lt h, fun j x hx i v hv => ?_⟩⟩
  have hi : i < sz := by have := (List.getElem?_eq_some_iff.1 hv).1; rwa [hc] at this
  rw [Nat.zero_add, cell_of_row w b _ _ T _ h, List.getElem?_toArray, fl_get hc l j i x hx hi, hv]
theorem slAt_nil {α : Type} (cs : α → List Value) (sz : Nat) (w : World) : SlAt cs sz w (.slice none 0 0) [] := ⟨none, 0, rfl, by simp, by simp, fun h => by simp at h⟩
/-- The three records. -/
def threeR : List Rc := [⟨1, 1, 1, 0, false, [(2, 5)]⟩, ⟨2, 1, 1, 0, false, [(1, 7), (3, 1)]⟩, ⟨3, 1, 1, 0, false, []⟩]
theorem three_ok : bothOk no1 threeR = true := by decide
theorem three_n : bothN threeR = [1, 2, 3] := by decide
theorem three_e : bothE threeR = [(1, 2, 5), (2, 1, 7)] := by decide
theorem three_g : (graphOk [1, 2, 3] [(1, 2, 5), (2, 1, 7)] && hasN [1, 2, 3] 1) = true := by decide
theorem three_p {f : Nat → Bool} (h : IsPart [(1, 2, 5), (2, 1, 7)] 1 f) : markedL f = [1, 2] := by
  have k : IsPart [(1, 2, 5), (2, 1, 7)] 1 (mk1 (mk1 no1 1) 2) := by
    refine isPart_of (ns := [1, 2]) (by simp) (by simp) (fun i hi => ?_) (by decide) (by decide)
    rcases mk1_iff.1 hi with rfl | hi
    · exact (Rch.refl _ _).step (e := (1, 2, 5)) (by simp)
    · rcases mk1_iff.1 hi with rfl | hi
      · exact Rch.refl _ _
      · simp [no1] at hi
  rw [h.same k]
  decide
end Go.Proofs.Ytaldehgggilmdaa
