/- Stamps by their origins. -/
import Derived.Test.YtpdpdhnllmlfdaaN9
import Derived.Test.YtpdpdhnllmlfdaaX2
namespace Go.Proofs.Ytpdpdhnllmlfdaa
open Go.RowKit Go.Maps

/-- The 75 cells: a stamp for each router. -/
def gs (f : Nat → Ed) : List Value := fl sc3 ((List.range 25).map f)
def no3 : Nat → Ed := fun _ => (0, 0, 0)
def upS (f : Nat → Ed) (n : Nat) (x : Ed) : Nat → Ed := fun i => if i = n then x else f i
theorem gs_len (f : Nat → Ed) : (gs f).length = 75 := by unfold gs; rw [fl_length (cs := sc3) (sz := 3) (fun _ => rfl)]; simp
theorem gs_get (f : Nat → Ed) {q s : Nat} (hq : q < 25) (hs : s < 3) : (gs f)[q * 3 + s]? = (sc3 (f q))[s]? :=
  fl_get (cs := sc3) (sz := 3) (fun _ => rfl) _ q s (f q) (by rw [List.getElem?_map, List.getElem?_range hq]; rfl) hs
theorem gs_put (f : Nat → Ed) {n : Nat} (_hn : n < 25) (x : Ed) : (((gs f).set (n * 3) (.int .i64 x.1)).set (n * 3 + 1) (.int .u32 x.2.1)).set (n * 3 + 2) (.int .u32 x.2.2) = gs (upS f n x) := by
  apply List.ext_getElem?
  intro m
  simp only [List.getElem?_set, List.length_set, gs_len]
  by_cases hm : m < 75
  · obtain ⟨q, s, hq, hs, rfl⟩ : ∃ q s, q < 25 ∧ s < 3 ∧ m = q * 3 + s := ⟨m / 3, m % 3, by omega, by omega, by omega⟩
    rw [gs_get _ hq hs, gs_get _ hq hs]
    by_cases hqn : q = n
    · subst hqn
      have hu : upS f q x q = x := by simp [upS]
      rw [hu]
      match s, hs with
      | 0, _ => rw [if_neg (by omega), if_neg (by omega), if_pos (by omega), if_pos (by omega)]; rfl
      | 1, _ => rw [if_neg (by omega), if_pos (by omega), if_pos (by omega)]; rfl
      | 2, _ => rw [if_pos (by omega), if_pos (by omega)]; rfl
    · have hu : upS f n x q = f q := by simp [upS, hqn]
      rw [hu, if_neg (by omega), if_neg (by omega), if_neg (by omega)]
  · rw [if_neg (by omega), if_neg (by omega), if_neg (by omega), List.getElem?_eq_none (by rw [gs_len]; omega), List.getElem?_eq_none (by rw [gs_len]; omega)]
theorem gs_one (f : Nat → Ed) : (gs f).toArray.all (·.oneCell') = true := all_oneCell_toArray (fun v hv => by
  unfold gs fl at hv
  obtain ⟨x, _, hx⟩ := List.mem_flatMap.1 hv
  simp only [sc3, List.mem_cons, List.not_mem_nil, or_false] at hx
  rcases hx with rfl | rfl | rfl <;> rfl)
theorem infoSts : (Try.prog.info? 84).map (fun i => (i.zero, i.size)) = some (some (.agg (gs no3).toArray), 75) := by kernel_rfl
theorem zeroSts (w : World) : (zeroValue 84).run Try.prog w = .ok (.agg (gs no3).toArray) w := (zero_of_info infoSts).1 w
theorem sizeSts (f : Nat → Ed) : (Try.prog.info? 84).map (·.size) = some (gs f).length := by rw [(zero_of_info infoSts).2, gs_len]
theorem underSts : Try.prog.underlying 84 = some (.array 25 71) := by kernel_rfl
theorem builtSts : Try.prog.built 84 [] = some (gs no3).toArray := by kernel_rfl
theorem l_buildS {ops : Array Oper} {rest : List Oper} {o : Oper} {a : Act} {w : World} {Q : Exit → Act → World → Prop} (hg : o.guard = none) (ho : o.op = .build 84 #[])
    (h : wpList Try.prog ops Q rest (a.put o.dst (.agg (gs no3).toArray)) w) : wpList Try.prog ops Q (o :: rest) a w := by
  refine wpList_build hg 84 #[] ho (by simp only [List.map_toArray, List.map_nil, builtSts, Option.isSome_some]) ?_
  simp only [List.map_toArray, List.map_nil, builtSts, Option.getD_some]
  exact h
theorem below_setCellsS (b : Nat) : ∀ (vs : List Value) (o : Nat) (w : World) (B : Nat), B ≤ b → Below B w (w.setCells b o vs)
  | [], _, w, B, _ => Below.refl _ _
  | v :: r, o, w, B, h => by
    rw [World.setCells]
    exact ((Below.refl B w).setCell (p := ⟨b, o, none⟩) h v).trans (below_setCellsS b r (o + 1) _ B h)
theorem arr_there {w : World} {b : Nat} {T : TypeId} {vs : List Value} (h : Arr w b T vs) : w.there b 0 vs.length := fun j hj => ⟨by rw [Nat.zero_add, h.cell, List.getElem?_eq_getElem hj]; rfl, h.frozen _⟩
theorem l_storeS {ops : Array Oper} {rest : List Oper} {o : Oper} {a : Act} {w : World} {Q : Exit → Act → World → Prop} (hgd : o.guard = none) (x y : Operand) (ho : o.op = .store 84 x y)
    (b : Nat) (g f : Nat → Ed) (hx : a.eval x = .pointer (some ⟨b, 0, none⟩)) (hy : a.eval y = .agg (gs g).toArray) (hA : Arr w b 84 (gs f))
    (h : ∀ W, W.rangeAt b 0 (gs g) → (∀ B, B ≤ b → Below B w W) → wpList Try.prog ops Q rest (a.put o.dst undef) W) : wpList Try.prog ops Q (o :: rest) a w := by
  have ht := arr_there hA
  rw [gs_len] at ht
  refine wpList_store_mid hgd 84 x y ho b 0 (gs g).toArray hx hy (by rw [List.size_toArray, gs_len]; exact ht) (by rw [List.size_toArray]; exact sizeSts g) (gs_one g) ?_
  rw [List.toList_toArray]
  exact h _ (World.rangeAt_setCells_same w b 0 (gs g) (by rw [gs_len]; exact ht)) (fun B hB => below_setCellsS b _ 0 w B hB)
theorem l_loadS {ops : Array Oper} {rest : List Oper} {o : Oper} {a : Act} {w : World} {Q : Exit → Act → World → Prop} (hgd : o.guard = none) (x : Operand) (ho : o.op = .load 84 x)
    (b : Nat) (f : Nat → Ed) (hx : a.eval x = .pointer (some ⟨b, 0, none⟩)) (hA : w.rangeAt b 0 (gs f))
    (h : wpList Try.prog ops Q rest (a.put o.dst (.agg (gs f).toArray)) w) : wpList Try.prog ops Q (o :: rest) a w :=
  wpList_load_mid hgd 84 x ho b 0 hx (gs f) (.array 25 71) hA underSts rfl (sizeSts f) h
theorem load_sts {w : World} {b : Nat} {f : Nat → Ed} (hA : w.rangeAt b 0 (gs f)) : (loadVar 84 ⟨b, 0, none⟩).run Try.prog w = .ok (.agg (gs f).toArray) w :=
  run_loadVar_mid w b 0 84 (gs f) (.array 25 71) hA underSts rfl (sizeSts f)
/-- One stamp more, or refused. -/
def addS (o : Option (Nat → Ed)) (x : Ed) : Option (Nat → Ed) := o.bind fun f => if mayS x.1 x.2.1 x.2.2 = true ∧ f x.1.toNat = (0, 0, 0) then some (upS f x.1.toNat x) else none
def byS (l : List Ed) : Option (Nat → Ed) := l.foldl addS (some no3)
theorem byS_none : ∀ l : List Ed, l.foldl addS none = none
  | [] => rfl
  | _ :: l => byS_none l
theorem byS_take {l : List Ed} {k : Nat} {x : Ed} {f : Nat → Ed} (h : byS (l.take k) = some f) (hx : l[k]? = some x) : byS (l.take (k + 1)) = addS (some f) x ∧ (addS (some f) x = none → byS l = none) := by
  have h1 : l.take (k + 1) = l.take k ++ [x] := by rw [List.take_add_one, hx]; rfl
  have h2 : byS (l.take (k + 1)) = addS (some f) x := by
    rw [h1]
    unfold byS at h ⊢
    rw [List.foldl_append, h]
    rfl
  refine ⟨h2, fun h3 => ?_⟩
  rw [h3] at h2
  have h4 := List.take_append_drop (k + 1) l
  unfold byS at h2 ⊢
  rw [← h4, List.foldl_append, h2]
  exact byS_none _
/-- What byOrigin answers. -/
def ByAns (o : Option (Nat → Ed)) (e : Ending) : Prop := (∃ f, o = some f ∧ e = .returned (.tuple #[.agg (gs f).toArray, .int .i64 0])) ∨ (o = none ∧ e = .returned (.tuple #[.agg (gs no3).toArray, .int .i64 2]))
end Go.Proofs.Ytpdpdhnllmlfdaa
