/- A bit string for each set, as a value and in a block. -/
import Derived.Test.YtjcbbifjhoemaaaDoorS1
import Derived.Test.YtjcbbifjhoemaaaDoorHW
import Derived.Deep.MidRow
import Derived.Deep.WholeRow
import Derived.Deep.Cut
namespace Go.Proofs.YtjcbbifjhoemaaaDoor
open Go.RowKit

/-- The 512 cells: a bit string for each of 128 sets. -/
def cl (f : Nat → Nat) : List Value := (List.range 512).map fun i => .int .u64 (wd (f (i / 4)) (i % 4))
/-- No bit in any set. -/
def none0 : Nat → Nat := fun _ => 0
theorem cl_len (f : Nat → Nat) : (cl f).length = 512 := by simp [cl]
theorem info_by : (Tryd.prog.info? 44).map (fun i => (i.zero, i.size)) = some (some (.agg (cl none0).toArray), 512) := by kernel_rfl
theorem zero_by (w : World) : (zeroValue 44).run Tryd.prog w = .ok (.agg (cl none0).toArray) w := (zero_of_info info_by).1 w
theorem size_by (f : Nat → Nat) : (Tryd.prog.info? 44).map (·.size) = some (cl f).length := by rw [(zero_of_info info_by).2, cl_len]
theorem under_by : Tryd.prog.underlying 44 = some (.array 128 35) := by kernel_rfl

theorem built_by : Tryd.prog.built 44 [] = some (cl none0).toArray := by kernel_rfl
theorem l_build {ops : Array Oper} {rest : List Oper} {o : Oper} {a : Act} {w : World} {Q : Exit → Act → World → Prop} (hg : o.guard = none) (ho : o.op = .build 44 #[])
    (h : wpList Tryd.prog ops Q rest (a.put o.dst (.agg (cl none0).toArray)) w) : wpList Tryd.prog ops Q (o :: rest) a w := by
  refine wpList_build hg 44 #[] ho (by simp only [List.map_toArray, List.map_nil, built_by, Option.isSome_some]) ?_
  simp only [List.map_toArray, List.map_nil, built_by, Option.getD_some]
  exact h
/-- The 512 cells in a block. -/
structure HasAll (w : World) (b : Nat) (f : Nat → Nat) : Prop where
  r : w.rangeAt b 0 (cl f)
  t : w.there b 0 512
  lt : b < w.heap.size
theorem cl_one (f : Nat → Nat) : (cl f).toArray.all (·.oneCell') = true := all_oneCell_toArray (fun v hv => by simp only [cl, List.mem_map] at hv; obtain ⟨_, _, rfl⟩ := hv; rfl)
theorem hasAll_new (w : World) (f : Nat → Nat) : HasAll (w.alloc (.cells (cl f).toArray 44)) w.heap.size f := by
  have hh := heap_alloc_last w (.cells (cl f).toArray 44)
  have hc : ∀ j, (w.alloc (.cells (cl f).toArray 44)).cell? ⟨w.heap.size, j, none⟩ = (cl f)[j]? := fun j => by
    rw [cell_of_row _ _ j (cl f).toArray 44 (0, 0) hh]; simp
  refine ⟨fun j v hv => ?_, fun j hj => ⟨?_, ?_⟩, by simp⟩
  · rw [Nat.zero_add, hc, hv]
  · rw [Nat.zero_add, hc, List.getElem?_eq_getElem (by rw [cl_len]; exact hj)]; rfl
  · unfold World.frozen?
    simp only [hh]
    simp
theorem HasAll.keep {w w' : World} {b B : Nat} {f : Nat → Nat} (h : HasAll w b f) (hb : Below B w w') (hB : b < B) : HasAll w' b f :=
  ⟨fun j v hv => (hb.cell (p := ⟨b, 0 + j, none⟩) hB).trans (h.r j v hv), fun j hj => ⟨by rw [hb.cell (p := ⟨b, 0 + j, none⟩) hB]; exact (h.t j hj).1, (hb.frozen (p := ⟨b, 0 + j, none⟩) hB).trans (h.t j hj).2⟩, Nat.lt_of_lt_of_le h.lt hb.size⟩
theorem below_setCells (b : Nat) : ∀ (vs : List Value) (o : Nat) (w : World) (B : Nat), B ≤ b → Below B w (w.setCells b o vs)
  | [], _, w, B, _ => Below.refl _ _
  | v :: r, o, w, B, h => by
    rw [World.setCells]
    exact ((Below.refl B w).setCell (p := ⟨b, o, none⟩) h v).trans (below_setCells b r (o + 1) _ B h)
theorem size_setCells (b : Nat) : ∀ (vs : List Value) (o : Nat) (w : World), (w.setCells b o vs).heap.size = w.heap.size
  | [], _, w => rfl
  | v :: r, o, w => by rw [World.setCells, size_setCells b r (o + 1) _]; simp
/-- A store of all of it. -/
theorem HasAll.put {w : World} {b : Nat} {f : Nat → Nat} (h : HasAll w b f) (g : Nat → Nat) : HasAll (w.setCells b 0 (cl g)) b g := by
  refine ⟨World.rangeAt_setCells_same w b 0 (cl g) (by rw [cl_len]; exact h.t), fun j hj => ⟨World.isSome_setCells b _ 0 w _ (h.t j hj).1, ?_⟩, by rw [size_setCells]; exact h.lt⟩
  rw [World.frozen?_setCells]; exact (h.t j hj).2
theorem l_store {ops : Array Oper} {rest : List Oper} {o : Oper} {a : Act} {w : World} {Q : Exit → Act → World → Prop} (hgd : o.guard = none) (x y : Operand) (ho : o.op = .store 44 x y)
    (b : Nat) (g f : Nat → Nat) (hx : a.eval x = .pointer (some ⟨b, 0, none⟩)) (hy : a.eval y = .agg (cl g).toArray) (hA : HasAll w b f)
    (h : ∀ W, HasAll W b g → (∀ B, B ≤ b → Below B w W) → W.heap.size = w.heap.size → wpList Tryd.prog ops Q rest (a.put o.dst undef) W) : wpList Tryd.prog ops Q (o :: rest) a w := by
  refine wpList_store_mid hgd 44 x y ho b 0 (cl g).toArray hx hy (by rw [List.size_toArray, cl_len]; exact hA.t) (by rw [List.size_toArray]; exact size_by g) (cl_one g) ?_
  rw [List.toList_toArray]
  exact h _ (hA.put g) (fun B hB => below_setCells b _ 0 w B hB) (size_setCells b _ 0 w)
theorem l_load {ops : Array Oper} {rest : List Oper} {o : Oper} {a : Act} {w : World} {Q : Exit → Act → World → Prop} (hgd : o.guard = none) (x : Operand) (ho : o.op = .load 44 x)
    (b : Nat) (f : Nat → Nat) (hx : a.eval x = .pointer (some ⟨b, 0, none⟩)) (hA : HasAll w b f)
    (h : wpList Tryd.prog ops Q rest (a.put o.dst (.agg (cl f).toArray)) w) : wpList Tryd.prog ops Q (o :: rest) a w :=
  wpList_load_mid hgd 44 x ho b 0 hx (cl f) (.array 128 35) hA.r under_by rfl (size_by f) h
theorem load_all {w : World} {b : Nat} {f : Nat → Nat} (hA : HasAll w b f) : (loadVar 44 ⟨b, 0, none⟩).run Tryd.prog w = .ok (.agg (cl f).toArray) w :=
  run_loadVar_mid w b 0 44 (cl f) (.array 128 35) hA.r under_by rfl (size_by f)

set_option maxRecDepth 100000 in
set_option maxHeartbeats 1000000 in
theorem sorted_bad (v : Value) (W : Int) (h : ¬ IsW W) (w : World) (ht : Wid w) :
    Calls Tryd.prog 13 #[v, .int .i64 W] w fun e w' => e = .returned (.tuple #[.agg (cl none0).toArray, .int .i64 2]) ∧ Below w.heap.size w w' := by
  have hz := zero_by
  have hA := hasAll_new w none0
  go_enter Tryd.func13, Tryd.ntmps13
  go_wp2_with (first
    | (go_at_call 20; refine (wide_no W h _ (ht.keep (by go_grown))).mono ?_; rintro e w1 ⟨rfl, rfl⟩)
    | (refine l_build rfl rfl ?_)
    | (refine l_store rfl _ _ rfl _ _ _ rfl rfl hA ?_; intro V hV bV sV))
  refine bodyPost_ret (v := .tuple #[.agg (cl none0).toArray, .int .i64 2]) (by simp [results, Tryd.results13, asAddr, Result.andThen, load_all hV]) rfl ⟨rfl, ?_⟩
  exact Below.trans (by go_grown) (bV _ (Nat.le_refl _))
end Go.Proofs.YtjcbbifjhoemaaaDoor
