/- Marks and costs in arrays; marked. -/
import Derived.Test.YtkhfpcnmnnboeaaG4
namespace Go.Proofs.Ytkhfpcnmnnboeaa
open Go.RowKit

/-- The cells of marks, of costs, of one router's costs. -/
def mcl (f : Nat → Bool) : List Value := (List.range 25).map fun i => .bool (f i)
def ccl (c : Nat → Nat → Int) : List Value := (List.range 625).map fun i => .int .i64 (c (i / 25) (i % 25))
def rcl (g : Nat → Int) : List Value := (List.range 25).map fun i => .int .i64 (g i)
theorem mcl_len (f : Nat → Bool) : (mcl f).length = 25 := by simp [mcl]
theorem ccl_len (c : Nat → Nat → Int) : (ccl c).length = 625 := by simp [ccl]
theorem rcl_len (g : Nat → Int) : (rcl g).length = 25 := by simp [rcl]
theorem mcl_get (f : Nat → Bool) {j : Nat} (h : j < 25) : (mcl f)[j]? = some (.bool (f j)) := by
  simp only [mcl, List.getElem?_map]; rw [List.getElem?_range h]; rfl
theorem ccl_get (c : Nat → Nat → Int) {j : Nat} (h : j < 625) : (ccl c)[j]? = some (.int .i64 (c (j / 25) (j % 25))) := by
  simp only [ccl, List.getElem?_map]; rw [List.getElem?_range h]; rfl
theorem rcl_get (g : Nat → Int) {j : Nat} (h : j < 25) : (rcl g)[j]? = some (.int .i64 (g j)) := by
  simp only [rcl, List.getElem?_map]; rw [List.getElem?_range h]; rfl
theorem mcl_set (f : Nat → Bool) {n : Nat} (_h : n < 25) : (mcl f).set n (.bool true) = mcl (mk1 f n) := by
  apply List.ext_getElem?
  intro j
  rw [List.getElem?_set]
  by_cases hj : j < 25
  · rw [mcl_get _ hj, mcl_get _ hj]
    by_cases hn : n = j
    · subst hn; rw [if_pos rfl, if_pos (by rw [mcl_len]; exact hj), mk1_same]
    · rw [if_neg hn]
      have : mk1 f n j = f j := by unfold mk1; rw [if_neg (fun e => hn e.symm)]
      rw [this]
  · rw [List.getElem?_eq_none (by rw [mcl_len]; omega), List.getElem?_eq_none (by rw [mcl_len]; omega), if_neg (by omega)]
theorem ccl_set (c : Nat → Nat → Int) {a b : Nat} (ha : a < 25) (hb : b < 25) (v : Int) : (ccl c).set (a * 25 + b) (.int .i64 v) = ccl (put2 c a b v) := by
  apply List.ext_getElem?
  intro j
  rw [List.getElem?_set]
  by_cases hj : j < 625
  · rw [ccl_get _ hj, ccl_get _ hj]
    by_cases hn : a * 25 + b = j
    · subst hn
      have h1 : (a * 25 + b) / 25 = a := by omega
      have h2 : (a * 25 + b) % 25 = b := by omega
      rw [if_pos rfl, if_pos (by rw [ccl_len]; exact hj), h1, h2]
      simp [put2]
    · rw [if_neg hn]
      have : put2 c a b v (j / 25) (j % 25) = c (j / 25) (j % 25) := by unfold put2; rw [if_neg (by omega)]
      rw [this]
  · rw [List.getElem?_eq_none (by rw [ccl_len]; omega), List.getElem?_eq_none (by rw [ccl_len]; omega), if_neg (by omega)]
/-- A block holds just these cells. -/
def Arr (w : World) (b : Nat) (T : TypeId) (vs : List Value) : Prop := w.heap[b]? = some (.cells vs.toArray T)
theorem Arr.cell {w : World} {b : Nat} {T : TypeId} {vs : List Value} (h : Arr w b T vs) (j : Nat) : w.cell? ⟨b, j, none⟩ = vs[j]? := by
  rw [cell_of_row w b j _ T _ h]; simp
theorem Arr.frozen {w : World} {b : Nat} {T : TypeId} {vs : List Value} (h : Arr w b T vs) (j : Nat) : w.frozen? ⟨b, j, none⟩ = false := frozen_new h j
theorem Arr.lt {w : World} {b : Nat} {T : TypeId} {vs : List Value} (h : Arr w b T vs) : b < w.heap.size := block_lt h
theorem Arr.keep {w w' : World} {b B : Nat} {T : TypeId} {vs : List Value} (h : Arr w b T vs) (k : Below B w w') (hB : b < B) : Arr w' b T vs := (k.block b hB).trans h
theorem Arr.set {w : World} {b : Nat} {T : TypeId} {vs : List Value} (h : Arr w b T vs) (j : Nat) (u : Value) : Arr (w.setCell ⟨b, j, none⟩ u) b T (vs.set j u) := by
  have := heap_setCell_same w b j _ T u h
  unfold Arr
  rw [this]
  simp
theorem Arr.other {w : World} {b : Nat} {T : TypeId} {vs : List Value} (h : Arr w b T vs) {p : Addr} (hp : b ≠ p.block) (u : Value) : Arr (w.setCell p u) b T vs := (Below.heap_setCell _ _ _ _ hp).trans h
theorem Arr.range {w : World} {b : Nat} {T : TypeId} {vs : List Value} (h : Arr w b T vs) : w.rangeAt b 0 vs := fun j v hv => by rw [Nat.zero_add, h.cell, hv]
theorem arr_new (w : World) (T : TypeId) (vs : List Value) : Arr (w.alloc (.cells vs.toArray T)) w.heap.size T vs := heap_alloc_last w _
theorem infoM : (Try.prog.info? 118).map (fun i => (i.zero, i.size)) = some (some (.agg (mcl no1).toArray), 25) := by kernel_rfl
theorem infoK : (Try.prog.info? 120).map (fun i => (i.zero, i.size)) = some (some (.agg (ccl no2).toArray), 625) := by kernel_rfl
theorem zeroM (w : World) : (zeroValue 118).run Try.prog w = .ok (.agg (mcl no1).toArray) w := (zero_of_info infoM).1 w
theorem zeroK (w : World) : (zeroValue 120).run Try.prog w = .ok (.agg (ccl no2).toArray) w := (zero_of_info infoK).1 w
theorem underM : Try.prog.underlying 118 = some (.array 25 4) := by kernel_rfl
theorem underK : Try.prog.underlying 120 = some (.array 25 91) := by kernel_rfl
theorem underR : Try.prog.underlying 91 = some (.array 25 3) := by kernel_rfl
theorem sizeM (f : Nat → Bool) : (Try.prog.info? 118).map (·.size) = some (mcl f).length := by rw [mcl_len]; kernel_rfl
theorem sizeK (c : Nat → Nat → Int) : (Try.prog.info? 120).map (·.size) = some (ccl c).length := by rw [ccl_len]; kernel_rfl
theorem sizeR (g : Nat → Int) : (Try.prog.info? 91).map (·.size) = some (rcl g).length := by rw [rcl_len]; kernel_rfl
theorem l_loadM {ops : Array Oper} {rest : List Oper} {o : Oper} {a : Act} {w : World} {Q : Exit → Act → World → Prop} (hgd : o.guard = none) (x : Operand) (ho : o.op = .load 118 x)
    (b : Nat) (f : Nat → Bool) (hx : a.eval x = .pointer (some ⟨b, 0, none⟩)) (hA : Arr w b 118 (mcl f))
    (h : wpList Try.prog ops Q rest (a.put o.dst (.agg (mcl f).toArray)) w) : wpList Try.prog ops Q (o :: rest) a w :=
  wpList_load_mid hgd 118 x ho b 0 hx (mcl f) (.array 25 4) hA.range underM rfl (sizeM f) h
theorem l_loadK {ops : Array Oper} {rest : List Oper} {o : Oper} {a : Act} {w : World} {Q : Exit → Act → World → Prop} (hgd : o.guard = none) (x : Operand) (ho : o.op = .load 120 x)
    (b : Nat) (c : Nat → Nat → Int) (hx : a.eval x = .pointer (some ⟨b, 0, none⟩)) (hA : Arr w b 120 (ccl c))
    (h : wpList Try.prog ops Q rest (a.put o.dst (.agg (ccl c).toArray)) w) : wpList Try.prog ops Q (o :: rest) a w :=
  wpList_load_mid hgd 120 x ho b 0 hx (ccl c) (.array 25 91) hA.range underK rfl (sizeK c) h
/-- One router's costs out of all. -/
theorem l_loadR {ops : Array Oper} {rest : List Oper} {o : Oper} {a : Act} {w : World} {Q : Exit → Act → World → Prop} (hgd : o.guard = none) (x : Operand) (ho : o.op = .load 91 x)
    (b off k : Nat) (c : Nat → Nat → Int) (hx : a.eval x = .pointer (some ⟨b, off, none⟩)) (hoff : off = k * 25) (hk : k < 25) (hA : Arr w b 120 (ccl c))
    (h : wpList Try.prog ops Q rest (a.put o.dst (.agg (rcl (c k)).toArray)) w) : wpList Try.prog ops Q (o :: rest) a w := by
  subst hoff
  refine wpList_load_mid hgd 91 x ho b (k * 25) hx (rcl (c k)) (.array 25 3) (fun j v hv => ?_) underR rfl (sizeR _) h
  have hj : j < 25 := by have := (List.getElem?_eq_some_iff.1 hv).1; rwa [rcl_len] at this
  rw [rcl_get _ hj] at hv
  rw [hA.cell, ccl_get _ (by omega), ← hv, show (k * 25 + j) / 25 = k from by omega, show (k * 25 + j) % 25 = j from by omega]
theorem indexM (f : Nat → Bool) {k : Nat} (hk : k < 25) (w : World) : (Instr.index 118 (.agg (mcl f).toArray) (.int .i64 k)).run Try.prog w = .ok (.bool (f k)) w := by
  have h := mcl_get f hk
  simp [Instr.index, asIntOf, go_sem, run_underlying underM, h, hk]
theorem indexR (g : Nat → Int) {k : Nat} (hk : k < 25) (w : World) : (Instr.index 91 (.agg (rcl g).toArray) (.int .i64 k)).run Try.prog w = .ok (.int .i64 (g k)) w := by
  have h := rcl_get g hk
  simp [Instr.index, asIntOf, go_sem, run_underlying underR, h, hk]
def upTo (f : Nat → Bool) (k : Nat) : List Int := ((List.range k).filter f).map fun (i : Nat) => (i : Int)
theorem upTo_yes {f : Nat → Bool} {k : Nat} (h : f k = true) : upTo f (k + 1) = upTo f k ++ [(k : Int)] := by simp [upTo, List.range_succ, List.filter_append, h]
theorem upTo_no {f : Nat → Bool} {k : Nat} (h : f k = false) : upTo f (k + 1) = upTo f k := by simp [upTo, List.range_succ, List.filter_append, h]
theorem upTo_len (f : Nat → Bool) (k : Nat) : (upTo f k).length ≤ k := by
  unfold upTo; rw [List.length_map]; have := List.length_filter_le f (List.range k); simpa using this

set_option maxRecDepth 100000 in
set_option maxHeartbeats 1000000 in
theorem marked_any (f : Nat → Bool) (w : World) :
    Calls Try.prog 69 #[.agg (mcl f).toArray] w fun e w' => (∃ u, e = .returned u ∧ w'.ownsRow w.heap.size 3 1 u (markedL f).length (fl ic (markedL f))) ∧ Below w.heap.size w w' := by
  have hA0 := arr_new w 118 (mcl f)
  go_enter Try.func69, Try.ntmps69
  go_wp2_with (refine l_loadM rfl _ rfl _ f rfl hA0 ?_)
  go_loopw [3, 7] (fun u i wr => ∃ (k : Nat), k ≤ 25 ∧ i = .int .i64 k ∧ Hid (wr.ownsRow w.heap.size 3 1 u (upTo f k).length (fl ic (upTo f k)) ∧ Below w.heap.size w wr)) (fun _ i _ => 25 - (intOf i).toNat)
  case atStart => exact ⟨0, Nat.zero_le _, rfl, hidIn ⟨World.ownsRow_nil _ _ _ _, by go_grown⟩⟩
  case round =>
    obtain ⟨k, hk, rfl, HR⟩ := hrel
    obtain ⟨hrow, hbel⟩ := HR.out
    clear HR hA0
    by_cases hlt : k < 25
    · have hi := indexM f hlt
      have hki : (k : Int) < 25 := by omega
      have hle := upTo_len f k
      obtain ⟨b, hb⟩ : ∃ b, f k = b := ⟨_, rfl⟩
      rw [hb] at hi
      cases b
      · have HU := hidIn (upTo_no hb)
        have HRow := hidIn hrow
        have HB := hidIn hbel
        clear hrow hbel hb
        go_wp2
        go_roundw
        case rel => exact ⟨k + 1, by omega, by go_num, hidIn ⟨by rw [HU.out]; exact HRow.out, HB.out⟩⟩
        case measure => simp [intOf]; omega
      · have HU := hidIn (upTo_yes hb)
        obtain ⟨g, gcap, w6, hrun, hown, _, _, hb6⟩ := append_int hrow (k : Int) (by omega) hbel.size
        have HRun := hidIn hrun
        have HO := hidIn hown
        have HB := hidIn (hbel.trans hb6)
        clear hrow hbel hb hrun hown hb6
        generalize upTo f k = L at *
        go_wp2_with (refine l_append rfl _ _ 27 rfl HRun.out ?_)
        go_roundw
        case rel => exact ⟨k + 1, by omega, by go_num, hidIn ⟨by rw [HU.out, List.length_append]; exact HO.out, HB.out⟩⟩
        case measure => simp [intOf]; omega
    · have hke : k = 25 := by omega
      rw [hke] at hrow
      have HRow := hidIn hrow
      have HB := hidIn hbel
      have hki : ¬ ((k : Int) < 25) := by omega
      clear hrow hbel
      go_wp2
      go_returns
      exact ⟨⟨_, rfl, HRow.out⟩, HB.out⟩
end Go.Proofs.Ytkhfpcnmnnboeaa
