/- tally: All, Copy. -/
import Derived.Test.YtkkkjpdmjgafoaaA4
namespace Go.Proofs.Ytkkkjpdmjgafoaa
open Go.RowKit

/-- The counts of the first n together. -/
def allC (T : Nat → Cn) : Nat → Cn
  | 0 => noC
  | n + 1 => addC (allC T n) (T n)
theorem allC_ok (T : Nat → Cn) : ∀ n, OkC (allC T n)
  | 0 => noC_ok
  | _ + 1 => addC_ok _ _
theorem TaAt.range {w : World} {b : Nat} {T : Nat → Cn} (h : TaAt w b T) : w.rangeAt b 1 (tcl T) := fun j v hv => by
  have := Arr.cell h (1 + j)
  rw [this, Nat.add_comm 1 j, List.getElem?_cons_succ, hv]
theorem infoC3 : (Try.prog.info? 37).map (fun i => (i.zero, i.size, i.bytes)) = some (some cV0, 6, 48) := by kernel_rfl
theorem indexT (T : Nat → Cn) {k : Nat} (hk : k < 25) (w : World) : (Instr.index 60 (.agg (tcl T).toArray) (.int .i64 k)).run Try.prog w = .ok (cV (T k)) w := by
  obtain ⟨i0, hi, hz0, hz1, hz2⟩ := info_parts infoC3
  have hkl : (k : Int) < 25 := by omega
  have key : List.take 6 (List.drop (k * 6) (tcl T)) = cL (T k) := by
    apply List.ext_getElem?
    intro m
    rw [List.getElem?_take]
    by_cases hm : m < 6
    · rw [if_pos hm, List.getElem?_drop, tcl_at T hk hm]
      match m, hm with
      | 0, _ => rfl
      | 1, _ => rfl
      | 2, _ => rfl
      | 3, _ => rfl
      | 4, _ => rfl
      | 5, _ => rfl
    · rw [if_neg hm, List.getElem?_eq_none (by simp; omega)]
  simp [Instr.index, asIntOf, go_sem, run_underlying underBy, hk]
  simpa using key
theorem l_loadT {ops : Array Oper} {rest : List Oper} {o : Oper} {a : Act} {w : World} {Q : Exit → Act → World → Prop} (hgd : o.guard = none) (x : Operand) (ho : o.op = .load 60 x)
    (b : Nat) (T : Nat → Cn) (hx : a.eval x = .pointer (some ⟨b, 1, none⟩)) (hA : w.rangeAt b 1 (tcl T))
    (h : wpList Try.prog ops Q rest (a.put o.dst (.agg (tcl T).toArray)) w) : wpList Try.prog ops Q (o :: rest) a w :=
  wpList_load_mid hgd 60 x ho b 1 hx (tcl T) (.array 25 37) hA underBy rfl (sizeBy T) h
theorem builtT1 (T : Nat → Cn) : Try.prog.built 62 [(0, .bool true), (1, .agg (tcl T).toArray)] = some (tlV T).toArray := by kernel_rfl
theorem l_buildT1 {ops : Array Oper} {rest : List Oper} {o : Oper} {a : Act} {w : World} {Q : Exit → Act → World → Prop} (hg : o.guard = none) (y : Operand) (ho : o.op = .build 62 #[(0, .const (.bool true)), (1, y)])
    (T : Nat → Cn) (hy : a.eval y = .agg (tcl T).toArray) (h : wpList Try.prog ops Q rest (a.put o.dst (.agg (tlV T).toArray)) w) : wpList Try.prog ops Q (o :: rest) a w := by
  have e : ((#[(0, .const (.bool true)), (1, y)] : Array (Nat × Operand)).map fun (i, x) => (i, a.eval x)).toList = [(0, .bool true), (1, .agg (tcl T).toArray)] := by simp [Act.eval, ← hy]
  refine wpList_build hg 62 _ ho (by rw [e, builtT1]; rfl) ?_
  rw [e, builtT1]
  exact h
theorem tcopy_any {b : Nat} {T : Nat → Cn} {w : World} (h : TaAt w b T) : Calls Try.prog 20 #[tp b] w fun e w' => e = .returned (tp w.heap.size) ∧ w' = w.alloc (tO T) := by
  have HC := hidIn (there_yes h.made)
  have HR := hidIn h.range
  clear h
  obtain ⟨ZA, hZA⟩ : ∃ ZA, (tlV T).toArray = ZA := ⟨_, rfl⟩
  have HZ := hidIn hZA
  clear hZA
  go_enter Try.func20, Try.ntmps20
  go_wp2_with (first
    | (go_at_call 29; refine HC.out.mono ?_; rintro e w1 ⟨rfl, hw1⟩; rw [hw1]; clear hw1 w1)
    | (refine l_loadT rfl _ rfl b T rfl HR.out ?_)
    | (refine l_buildT1 rfl _ rfl T rfl ?_; rw [HZ.out]))
  go_ret
  exact ⟨rfl, by rw [← HZ.out]⟩
set_option maxRecDepth 100000 in
set_option maxHeartbeats 1000000 in
theorem tall_any {b : Nat} {T : Nat → Cn} {w : World} (h : TaAt w b T) (hT : OkT T) : Calls Try.prog 18 #[tp b] w fun e w' => e = .returned (cV (allC T 25)) ∧ Below w.heap.size w w' := by
  obtain ⟨W1, hW1⟩ : ∃ W1, (w.alloc cO0).alloc cO0 = W1 := ⟨_, rfl⟩
  have b1 : Below w.heap.size w W1 := by rw [← hW1]; exact ((Below.refl _ w).alloc (Nat.le_refl _) _).alloc (by simp) _
  have hA : W1.heap[w.heap.size]? = some cO0 := by
    rw [← hW1, Below.heap_alloc _ _ _ (by simp)]
    exact heap_alloc_last w _
  have hB : W1.heap[w.heap.size + 1]? = some cO0 := by
    rw [← hW1]
    have := heap_alloc_last (w.alloc cO0) cO0
    rwa [World.size_alloc] at this
  have hk := h.keep b1 h.lt
  have HC := hidIn (there_yes hk.made)
  have HRg := hidIn hk.range
  have HIx := hidIn (fun k (hk : k < 25) w => indexT T hk w)
  obtain ⟨GA, hGA⟩ : ∃ GA, (tcl T).toArray = GA := ⟨_, rfl⟩
  rw [hGA] at HIx
  have HG := hidIn hGA
  obtain ⟨q, hq⟩ : ∃ q, w.heap.size = q := ⟨_, rfl⟩
  rw [hq] at hA hB
  have Hq := hidIn hq
  have HA := hidIn hA
  have HB := hidIn hB
  have Hb1 := hidIn b1
  have HW := hidIn hW1
  have HOk := hidIn hT
  clear h hk hA hB b1 hW1 hGA hT
  go_enter Try.func18, Try.ntmps18
  go_upto_region 2 with fail
  rw [HW.out]
  clear HW hq
  go_wp2_with (first
    | (go_at_call 29; refine HC.out.mono ?_; rintro e w1 ⟨rfl, hw1⟩; rw [hw1]; clear hw1 w1)
    | (refine l_loadT rfl _ rfl b T rfl HRg.out ?_; rw [HG.out]))
  go_loopw [14] (fun z wr => ∃ k : Nat, k ≤ 25 ∧ z = .int .i64 k ∧ Hid (wr.heap[q + 1]? = some (cO (allC T k)) ∧ wr.heap[q]? = some cO0 ∧ Below w.heap.size w wr)) (fun z _ => 25 - (intOf z).toNat)
  case atStart => exact ⟨0, Nat.zero_le _, rfl, hidIn ⟨HB.out, HA.out, Hb1.out⟩⟩
  case round =>
    obtain ⟨k, hk, rfl, HR⟩ := hrel
    obtain ⟨hB1, hA1, hbel⟩ := HR.out
    clear HA HB Hb1 HC HRg
    by_cases hlt : k < 25
    · have hki : (k : Int) < 25 := by omega
      have hix := HIx.out k hlt
      obtain ⟨W4, hW4⟩ : ∃ W4, wr.alloc (cO (T k)) = W4 := ⟨_, rfl⟩
      have b4 : Below wr.heap.size wr W4 := by rw [← hW4]; exact (Below.refl _ wr).alloc (Nat.le_refl _) _
      have hX : W4.heap[wr.heap.size]? = some (cO (T k)) := by rw [← hW4]; exact heap_alloc_last wr _
      obtain ⟨p, hp⟩ : ∃ p, wr.heap.size = p := ⟨_, rfl⟩
      rw [hp] at hX
      have hB4 := (b4.block _ (block_lt hB1)).trans hB1
      have HA4 := hidIn ((b4.block _ (block_lt hA1)).trans hA1)
      have HBel := hidIn (hbel.trans (b4.mono hbel.size))
      have HB4 := hidIn hB4
      have HW := hidIn hW4
      have c0 := cell_of_row _ _ 0 _ _ _ hX
      have c1 := cell_of_row _ _ 1 _ _ _ hX
      have c2 := cell_of_row _ _ 2 _ _ _ hX
      have c3 := cell_of_row _ _ 3 _ _ _ hX
      have c4 := cell_of_row _ _ 4 _ _ _ hX
      have c5 := cell_of_row _ _ 5 _ _ _ hX
      have d0 := cell_of_row _ _ 0 _ _ _ hB4
      have d1 := cell_of_row _ _ 1 _ _ _ hB4
      have d2 := cell_of_row _ _ 2 _ _ _ hB4
      have d3 := cell_of_row _ _ 3 _ _ _ hB4
      have d4 := cell_of_row _ _ 4 _ _ _ hB4
      have d5 := cell_of_row _ _ 5 _ _ _ hB4
      simp at c0 c1 c2 c3 c4 c5 d0 d1 d2 d3 d4 d5
      clear HR hB1 hA1 hbel hX hB4 b4 hW4
      go_upto_region 7 with fail
      rw [HW.out]
      clear HW hp hix
      go_wp2_with fail
      refine (added_any (allC_ok T k) (HOk.out k) W4).mono ?_
      rintro e w5 ⟨rfl, hb5⟩
      clear c0 c1 c2 c3 c4 c5 d0 d1 d2 d3 d4 d5
      have hB5 := (hb5.block _ (block_lt HB4.out)).trans HB4.out
      have HA5 := hidIn ((hb5.block _ (block_lt HA4.out)).trans HA4.out)
      have HBel5 := hidIn (HBel.out.trans (hb5.mono HBel.out.size))
      have HB5 := hidIn hB5
      have d0 := cell_of_row _ _ 0 _ _ _ hB5
      have d1 := cell_of_row _ _ 1 _ _ _ hB5
      have d2 := cell_of_row _ _ 2 _ _ _ hB5
      have d3 := cell_of_row _ _ 3 _ _ _ hB5
      have d4 := cell_of_row _ _ 4 _ _ _ hB5
      have d5 := cell_of_row _ _ 5 _ _ _ hB5
      simp at d0 d1 d2 d3 d4 d5
      have f0 := frozen_new hB5 0
      have f1 := frozen_new hB5 1
      have f2 := frozen_new hB5 2
      have f3 := frozen_new hB5 3
      have f4 := frozen_new hB5 4
      have f5 := frozen_new hB5 5
      have hne : q ≠ q + 1 := by omega
      have HO : Hid ((setK w5 (q + 1) (allC T (k + 1))).heap[q + 1]? = some (cO (allC T (k + 1))) ∧ (setK w5 (q + 1) (allC T (k + 1))).heap[q]? = some cO0 ∧ Below w.heap.size w (setK w5 (q + 1) (allC T (k + 1)))) := hidIn (by
        refine ⟨setK_block HB5.out _, ?_, below_setK HBel5.out (by have := Hq.out; omega) _⟩
        exact ((below_setK (Below.refl (q + 1) w5) (Nat.le_refl _) (allC T (k + 1))).block q (by omega)).trans HA5.out)
      clear hB5 hb5 HA4 HBel HB4
      go_wp2_with fail
      go_roundw
      case rel => exact ⟨k + 1, by omega, by go_num, HO⟩
      case measure => simp [intOf]; omega
    · have hki : ¬ (k : Int) < 25 := by omega
      obtain rfl : k = 25 := by omega
      have d0 := cell_of_row _ _ 0 _ _ _ hB1
      have d1 := cell_of_row _ _ 1 _ _ _ hB1
      have d2 := cell_of_row _ _ 2 _ _ _ hB1
      have d3 := cell_of_row _ _ 3 _ _ _ hB1
      have d4 := cell_of_row _ _ 4 _ _ _ hB1
      have d5 := cell_of_row _ _ 5 _ _ _ hB1
      have e0 := cell_of_row _ _ 0 _ _ _ hA1
      have e1 := cell_of_row _ _ 1 _ _ _ hA1
      have e2 := cell_of_row _ _ 2 _ _ _ hA1
      have e3 := cell_of_row _ _ 3 _ _ _ hA1
      have e4 := cell_of_row _ _ 4 _ _ _ hA1
      have e5 := cell_of_row _ _ 5 _ _ _ hA1
      simp at d0 d1 d2 d3 d4 d5 e0 e1 e2 e3 e4 e5
      have f0 := frozen_new hA1 0
      have f1 := frozen_new hA1 1
      have f2 := frozen_new hA1 2
      have f3 := frozen_new hA1 3
      have f4 := frozen_new hA1 4
      have f5 := frozen_new hA1 5
      have hl := load_c (setK_block (x := noC) hA1 (allC T 25))
      have HBe := hidIn (below_setK (b := q) hbel (by have := Hq.out; omega) (allC T 25))
      have HL := hidIn hl
      clear HR hB1 hA1 hbel hl
      go_wp2_with fail
      have hl := HL.out
      unfold setK at hl
      refine bodyPost_ret (v := cV (allC T 25)) (by simp [results, Try.results18, asAddr, hl]) rfl ⟨rfl, HBe.out⟩
end Go.Proofs.Ytkkkjpdmjgafoaa
