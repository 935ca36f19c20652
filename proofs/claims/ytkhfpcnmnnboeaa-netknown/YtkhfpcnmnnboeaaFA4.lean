/- fate: made, isThere, New, Check, Left, Asked. -/
import Derived.Test.YtkhfpcnmnnboeaaFA3
import Derived.Great.FillDense
namespace Go.Proofs.Ytkhfpcnmnnboeaa.Fa
open Go.RowKit

abbrev pp (b : Nat) : Value := .pointer (some ⟨b, 0, none⟩)
abbrev nilQ : Value := .pointer none
/-- The cells of a plan. -/
def plV (s : Value) (m : Nat) (c : Nat → Nat → Int) : List Value := s :: .map (some m) :: ccl c
theorem plV_get (s : Value) (m : Nat) (c : Nat → Nat → Int) {j : Nat} (h : j < 625) : (plV s m c)[2 + j]? = some (.int .i64 (c (j / 25) (j % 25))) := by
  rw [show 2 + j = j + 1 + 1 from by omega, plV, List.getElem?_cons_succ, List.getElem?_cons_succ, ccl_get c h]
theorem plV_at (s : Value) (m : Nat) (c : Nat → Nat → Int) {a b : Nat} (ha : a < 25) (hb : b < 25) : (plV s m c)[2 + (a * 25 + b)]? = some (.int .i64 (c a b)) := by
  rw [plV_get s m c (by omega), show (a * 25 + b) / 25 = a from by omega, show (a * 25 + b) % 25 = b from by omega]
theorem plV_set (s : Value) (m : Nat) (c : Nat → Nat → Int) {a b : Nat} (ha : a < 25) (hb : b < 25) (v : Int) : (plV s m c).set (2 + (a * 25 + b)) (.int .i64 v) = plV s m (put2 c a b v) := by
  rw [show 2 + (a * 25 + b) = (a * 25 + b) + 1 + 1 from by omega]
  unfold plV
  rw [List.set_cons_succ, List.set_cons_succ, ccl_set c ha hb]
theorem underCo : Try.prog.underlying 95 = some (.array 25 91) := by kernel_rfl
theorem sizeCo (c : Nat → Nat → Int) : (Try.prog.info? 95).map (·.size) = some (ccl c).length := by rw [ccl_len]; kernel_rfl
theorem l_loadCo {ops : Array Oper} {rest : List Oper} {o : Oper} {a : Act} {w : World} {Q : Exit → Act → World → Prop} (hgd : o.guard = none) (x : Operand) (ho : o.op = .load 95 x)
    (b off : Nat) (c : Nat → Nat → Int) (hx : a.eval x = .pointer (some ⟨b, off, none⟩)) (hA : w.rangeAt b off (ccl c))
    (h : wpList Try.prog ops Q rest (a.put o.dst (.agg (ccl c).toArray)) w) : wpList Try.prog ops Q (o :: rest) a w :=
  wpList_load_mid hgd 95 x ho b off hx (ccl c) (.array 25 91) hA underCo rfl (sizeCo c) h
theorem builtCo0 : Try.prog.built 95 [] = some (ccl no2).toArray := by kernel_rfl
theorem l_buildCo0 {ops : Array Oper} {rest : List Oper} {o : Oper} {a : Act} {w : World} {Q : Exit → Act → World → Prop} (hg : o.guard = none) (ho : o.op = .build 95 #[])
    (h : wpList Try.prog ops Q rest (a.put o.dst (.agg (ccl no2).toArray)) w) : wpList Try.prog ops Q (o :: rest) a w := by
  refine wpList_build hg 95 #[] ho (by simp only [List.map_toArray, List.map_nil, builtCo0, Option.isSome_some]) ?_
  simp only [List.map_toArray, List.map_nil, builtCo0, Option.getD_some]
  exact h
theorem fill_two (z L : List Value) (s0 m : Value) (hm : m.cells = #[m]) {n : Nat} (hz : z.length = n + 1) (hL : L.length = n) : Instr.fill (#[(0, 1), (1, 1), (2, n)][·]?) (s0 :: z).toArray [(1, m), (2, .agg L.toArray)] = some (s0 :: m :: L).toArray := by
  have e : (#[m].zipIdx.foldl (fun cs (x : Value × Nat) => cs.setIfInBounds (1 + x.2) x.1) (s0 :: z).toArray) = (s0 :: z).toArray.setIfInBounds 1 m := by
    simp [Array.zipIdx]
  have hc : (Value.agg L.toArray).cells = L.toArray := rfl
  unfold Instr.fill
  simp only [hm]
  rw [show (#[(0, 1), (1, 1), (2, n)] : Array (Nat × Nat))[1]? = some (1, 1) from rfl]
  dsimp only
  rw [if_neg (by simp; omega), e]
  unfold Instr.fill
  simp only [hc]
  rw [show (#[(0, 1), (1, 1), (2, n)] : Array (Nat × Nat))[2]? = some (2, n) from rfl]
  dsimp only
  rw [if_neg (by simp; omega)]
  unfold Instr.fill
  congr 1
  rw [← Array.foldl_toList, Array.toList_zipIdx]
  obtain ⟨h1, h2⟩ := Go.Great.foldl_set 2 L 0 ((s0 :: z).toArray.setIfInBounds 1 m)
  apply Array.ext_getElem?
  intro k
  rw [h2 k]
  simp only [Nat.add_zero, Array.size_setIfInBounds, List.size_toArray, List.length_cons, hz, hL]
  match k with
  | 0 => simp
  | 1 => simp [hz]
  | k + 2 =>
    by_cases hk : k < n
    · rw [if_pos (by omega), show k + 2 - 2 = k from by omega]
      simp
    · rw [if_neg (by omega)]
      rw [Array.getElem?_eq_none (by simp; omega), Array.getElem?_eq_none (by simp; omega)]
theorem infoPl : (Try.prog.info? 97).map (fun i => (i.zero, i.size)) = some (some (.agg (nilQ :: .map none :: ccl no2).toArray), 627) := by kernel_rfl
theorem underPl : Try.prog.underlying 97 = some (.struct (Try.prog.fieldsOf 97)) := by kernel_rfl
theorem placesPl : (Try.prog.fieldsOf 97).toList.mapM (fun f => (Try.prog.info? f.type).map fun i => (f.offset, i.size)) = some [(0, 1), (1, 1), (2, 625)] := by kernel_rfl
theorem builtPl (m : Nat) (c : Nat → Nat → Int) : Try.prog.built 97 [(1, .map (some m)), (2, .agg (ccl c).toArray)] = some (plV nilQ m c).toArray := by
  have h := fill_two (.map none :: ccl no2) (ccl c) nilQ (.map (some m)) rfl (n := 625) (by rw [List.length_cons, ccl_len]) (ccl_len c)
  have hi := infoPl
  unfold Program.built
  cases he : Try.prog.info? 97 with
  | none => rw [he] at hi; cases hi
  | some it =>
    rw [he] at hi
    simp only [Option.map_some, Option.some.injEq, Prod.mk.injEq] at hi
    simp only [underPl, placesPl, hi.1]
    exact h
theorem l_buildPl {ops : Array Oper} {rest : List Oper} {o : Oper} {a : Act} {w : World} {Q : Exit → Act → World → Prop} (hg : o.guard = none) (x y : Operand) (ho : o.op = .build 97 #[(1, x), (2, y)])
    (m : Nat) (c : Nat → Nat → Int) (hx : a.eval x = .map (some m)) (hy : a.eval y = .agg (ccl c).toArray) (h : wpList Try.prog ops Q rest (a.put o.dst (.agg (plV nilQ m c).toArray)) w) : wpList Try.prog ops Q (o :: rest) a w := by
  have e : ((#[(1, x), (2, y)] : Array (Nat × Operand)).map fun (i, x) => (i, a.eval x)).toList = [(1, .map (some m)), (2, .agg (ccl c).toArray)] := by simp [← hx, ← hy]
  refine wpList_build hg 97 _ ho (by rw [e, builtPl]; rfl) ?_
  rw [e, builtPl]
  exact h
/-- A plan's block. -/
def PlB (w : World) (P m : Nat) (c : Nat → Nat → Int) : Prop := Arr w P 97 (plV (pp P) m c)
theorem PlB.self {w : World} {P m : Nat} {c : Nat → Nat → Int} (h : PlB w P m c) : w.cell? ⟨P, 0, none⟩ = some (pp P) := by rw [Arr.cell h]; rfl
theorem PlB.map {w : World} {P m : Nat} {c : Nat → Nat → Int} (h : PlB w P m c) : w.cell? ⟨P, 1, none⟩ = some (.map (some m)) := by rw [Arr.cell h]; rfl
theorem PlB.at {w : World} {P m : Nat} {c : Nat → Nat → Int} (h : PlB w P m c) {a b : Nat} (ha : a < 25) (hb : b < 25) : w.cell? ⟨P, 2 + a * 25 + b, none⟩ = some (.int .i64 (c a b)) := by
  rw [Nat.add_assoc, Arr.cell h, plV_at _ _ _ ha hb]
theorem PlB.lt {w : World} {P m : Nat} {c : Nat → Nat → Int} (h : PlB w P m c) : P < w.heap.size := Arr.lt h
theorem PlB.keep {w w' : World} {P m : Nat} {c : Nat → Nat → Int} {T : Nat → Prop} (h : PlB w P m c) (hF : Fr T w w') (hT : ¬ T P) : PlB w' P m c := (hF.block P h.lt hT).trans h
theorem PlB.range {w : World} {P m : Nat} {c : Nat → Nat → Int} (h : PlB w P m c) : w.rangeAt P 2 (ccl c) := fun j v hv => by
  rw [Arr.cell h, show 2 + j = j + 1 + 1 from by omega, plV, List.getElem?_cons_succ, List.getElem?_cons_succ]
  exact hv
theorem PlB.set {w : World} {P m : Nat} {c : Nat → Nat → Int} (h : PlB w P m c) {a b : Nat} (ha : a < 25) (hb : b < 25) (v : Int) : PlB (w.setCell ⟨P, 2 + a * 25 + b, none⟩ (.int .i64 v)) P m (put2 c a b v) := by
  rw [Nat.add_assoc]
  have := Arr.set h (2 + (a * 25 + b)) (.int .i64 v)
  rw [plV_set _ _ _ ha hb] at this
  exact this
/-- A plan: its rules that are left, and its counts. -/
structure PlAt (w : World) (P m : Nat) (l : List Ru) (c : Nat → Nat → Int) : Prop where
  b : PlB w P m c
  m : MpR w m l
theorem PlAt.ne {w : World} {P m : Nat} {l : List Ru} {c : Nat → Nat → Int} (h : PlAt w P m l c) : P ≠ m := by
  rintro rfl
  obtain ⟨es, cl, he⟩ := h.m.isMap
  have := h.b
  unfold PlB Arr at this
  rw [he] at this
  simp at this
theorem PlAt.keep {w w' : World} {P m : Nat} {l : List Ru} {c : Nat → Nat → Int} {T : Nat → Prop} (h : PlAt w P m l c) (hF : Fr T w w') (h1 : ¬ T P) (h2 : ¬ T m) : PlAt w' P m l c := ⟨h.b.keep hF h1, h.m.keep hF h2⟩
theorem PlAt.below {w w' : World} {P m : Nat} {l : List Ru} {c : Nat → Nat → Int} {B : Nat} (h : PlAt w P m l c) (hF : Below B w w') (h1 : P < B) (h2 : m < B) : PlAt w' P m l c := ⟨(hF.block P h1).trans h.b, h.m.below hF h2⟩
theorem eqInQ (b d : Nat) (w : World) : (Op.equalIn (d + 1) 71 (pp b) (pp b)).run Try.prog w = .ok true w := by
  simp [Op.equalIn, run_underlying Try.underlying71, sameAddr]
theorem eqQ (b : Nat) (w : World) : (binOp BinOp.eql 71 (pp b) (pp b)).run Try.prog w = .ok (.bool true) w := by
  have h : (Op.equal 71 (pp b) (pp b)).run Try.prog w = .ok true w := eqInQ b 9999 w
  simp only [binOp]
  simp [h]
set_option maxRecDepth 100000 in
theorem fthere_yes {P : Nat} {w : World} (h : w.cell? ⟨P, 0, none⟩ = some (pp P)) : Calls Try.prog 40 #[pp P] w fun e w' => e = .returned (.bool true) ∧ w' = w := by
  have he := eqQ P w
  go_enter Try.func40, Try.ntmps40
  go_wp2
  go_ret
  exact ⟨rfl, rfl⟩
set_option maxRecDepth 100000 in
theorem fthere_nil (w : World) : Calls Try.prog 40 #[nilQ] w fun e w' => e = .returned (.bool false) ∧ w' = w := by
  go_enter Try.func40, Try.ntmps40
  go_wp2
  go_ret
  exact ⟨rfl, rfl⟩
set_option maxRecDepth 100000 in
theorem made_any (m : Nat) (c : Nat → Nat → Int) (w : World) : Calls Try.prog 57 #[.map (some m), .agg (ccl c).toArray] w fun e w' => e = .returned (pp (w.heap.size + 1)) ∧ PlB w' (w.heap.size + 1) m c ∧ Below w.heap.size w w' := by
  obtain ⟨W1, hW1⟩ : ∃ W1, w.alloc (.cells (ccl c).toArray 95) = W1 := ⟨_, rfl⟩
  have hA1 : Arr W1 w.heap.size 95 (ccl c) := by rw [← hW1]; exact arr_new w _ _
  have b1 : Below w.heap.size w W1 := by rw [← hW1]; exact (Below.refl _ w).alloc (Nat.le_refl _) _
  have s1 : W1.heap.size = w.heap.size + 1 := by rw [← hW1]; simp
  obtain ⟨W2, hW2⟩ : ∃ W2, W1.alloc (.cells (plV nilQ m c).toArray 97) = W2 := ⟨_, rfl⟩
  have hA2 : Arr W2 (w.heap.size + 1) 97 (plV nilQ m c) := by rw [← hW2, ← s1]; exact arr_new W1 _ _
  have b2 : Below w.heap.size w W2 := by rw [← hW2]; exact b1.alloc b1.size _
  have c0 : W2.cell? ⟨w.heap.size + 1, 0, none⟩ = some nilQ := hA2.cell 0
  have f0 : W2.frozen? ⟨w.heap.size + 1, 0, none⟩ = false := hA2.frozen 0
  have HP : Hid (PlB (W2.setCell ⟨w.heap.size + 1, 0, none⟩ (pp (w.heap.size + 1))) (w.heap.size + 1) m c) := hidIn (by
    have := hA2.set 0 (pp (w.heap.size + 1))
    exact this)
  have HB : Hid (Below w.heap.size w (W2.setCell ⟨w.heap.size + 1, 0, none⟩ (pp (w.heap.size + 1)))) := hidIn (b2.setCell (p := ⟨w.heap.size + 1, 0, none⟩) (Nat.le_succ _) _)
  have HR := hidIn hA1.range
  obtain ⟨ZB, hZB⟩ : ∃ ZB, (plV nilQ m c).toArray = ZB := ⟨_, rfl⟩
  rw [hZB] at hW2
  have HZB := hidIn hZB
  have HW1 := hidIn hW1
  have HW2 := hidIn hW2
  obtain ⟨q, hq⟩ : ∃ q, w.heap.size = q := ⟨_, rfl⟩
  rw [hq] at s1 c0 f0 HP HB HR ⊢
  have Hq := hidIn hq
  clear hA1 hA2 b1 b2 hZB hW1 hW2 hq
  obtain ⟨ZA, hZA⟩ : ∃ ZA, (ccl c).toArray = ZA := ⟨_, rfl⟩
  have HZA := hidIn hZA
  rw [hZA] at HW1 ⊢
  clear hZA
  go_enter Try.func57, Try.ntmps57
  go_upto_region 1 with fail
  rw [HW1.out, Hq.out]
  go_upto_region 2 with (first
    | (refine l_loadCo rfl _ rfl _ 0 c rfl HR.out ?_)
    | (refine l_buildPl rfl _ _ rfl m c rfl rfl ?_; rw [HZB.out]))
  rw [HW2.out]
  go_wp2
  go_ret
  exact ⟨rfl, HP.out, HB.out⟩
end Go.Proofs.Ytkhfpcnmnnboeaa.Fa
