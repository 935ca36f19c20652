/- sets.parts: the iterator tells the sets that have bits, rising. -/
import Derived.Test.YtjcbbifjhoemaaaDoorS3
import Derived.Test.YtjcbbifjhoemaaaDoorE2
import Derived.Test.YtjcbbifjhoemaaaDoorE3
namespace Go.Proofs.YtjcbbifjhoemaaaDoor
open Go.RowKit Go.Shelf

attribute [local go_sem] Oper.semAt_some

/-- The sets below k that have bits. -/
def upto (f : Nat → Nat) (k : Nat) : List Nat := (List.range k).filter fun s => decide (f s ≠ 0)
theorem upto_yes {f : Nat → Nat} {k : Nat} (h : f k ≠ 0) : upto f (k + 1) = upto f k ++ [k] := by simp [upto, List.range_succ, List.filter_append, h]
theorem upto_no {f : Nat → Nat} {k : Nat} (h : f k = 0) : upto f (k + 1) = upto f k := by simp [upto, List.range_succ, List.filter_append, h]
theorem upto_pre (f : Nat → Nat) (j : Nat) : ∀ d, upto f j <+: upto f (j + d)
  | 0 => List.prefix_refl _
  | d + 1 => by
    refine (upto_pre f j d).trans ?_
    by_cases h : f (j + d) = 0
    · rw [← Nat.add_assoc, upto_no h]; exact List.prefix_refl _
    · rw [← Nat.add_assoc, upto_yes h]; exact List.prefix_append _ _
/-- The sets that have bits. -/
def setsOf (f : Nat → Nat) : List Nat := upto f 128
/-- A part. -/
abbrev partV (s N : Nat) : Value := .agg #[.int .i64 (s : Int), .int .u64 (wd N 0), .int .u64 (wd N 1), .int .u64 (wd N 2), .int .u64 (wd N 3)]

theorem lIn_load {F : Fence} {n : Nat} {P : Program} {ops : Array Oper} {rest : List Oper} {o : Oper} {a : Act} {w : World} {Q : Exit → Act → World → Prop} (hg : o.guard = none) (ty : TypeId) (x : Operand) (ho : o.op = .load ty x)
    (v : Value) (hrun : (Instr.loadAt ty (a.eval x)).run P w = .ok v w) (h : wpListIn F n P ops Q rest (a.put o.dst v) w) : wpListIn F n P ops Q (o :: rest) a w := by
  refine wpListIn_plain hg fun K hK => ?_
  unfold Oper.wpIn
  refine ⟨by simp [Oper.about, ho], ?_⟩
  rw [Oper.semAt_plain F _ _ (by rw [ho]; intro c hc; cases hc)]
  simp only [execOp, ho, Sem.run_bind, hrun, Result.andThen_ok]
  exact hK _ _ h
theorem loadAt_all {w : World} {b : Nat} {f : Nat → Nat} (hA : HasAll w b f) : (Instr.loadAt 44 (.pointer (some ⟨b, 0, none⟩))).run Tryd.prog w = .ok (.agg (cl f).toArray) w :=
  run_loadAt_mid w b 0 44 (cl f) (.array 128 35) hA.r under_by rfl (size_by f)
theorem cl_ext (f : Nat → Nat) (k : Nat) (hk : k < 128) : (cl f).toArray.extract (k * 4) (k * 4 + 4) = (four (f k)).toArray := by
  apply Array.ext'
  rw [Array.toList_extract, List.toList_toArray, List.toList_toArray]
  apply List.ext_getElem?
  intro j
  by_cases hj : j < 4
  · rw [four_get _ _ hj]
    simp only [List.extract_eq_take_drop]
    rw [List.getElem?_take_of_lt (by omega), List.getElem?_drop, cl_get _ _ (by omega), show (k * 4 + j) / 4 = k from by omega, show (k * 4 + j) % 4 = j from by omega]
  · rw [List.getElem?_eq_none (by simp; omega), List.getElem?_eq_none (by simp; omega)]
theorem index_by (f : Nat → Nat) (k : Nat) (hk : k < 128) (w : World) : (Instr.index 44 (.agg (cl f).toArray) (.int .i64 (k : Int))).run Tryd.prog w = .ok (bs (f k)) w := by
  have h1 : (0 : Int) ≤ k ∧ (k : Int) < (128 : Nat) := by omega
  have hs : (sizeOf 35).run Tryd.prog w = .ok 4 w := Tryd.sizeOf35 w
  have ha : (isAgg 35).run Tryd.prog w = .ok true w := Tryd.isAgg35 w
  have he := cl_ext f k hk
  unfold Instr.index
  simp only [asIntOf, Sem.run_bind, Sem.run_pure, Result.andThen_ok, run_underlying under_by w, if_pos h1, part, hs, ha, Int.toNat_natCast, ↓reduceIte, he]

set_option maxHeartbeats 400000 in
theorem parts_any (f : Nat → Nat) (w : World) :
    Calls Tryd.prog 14 #[.agg (cl f).toArray] w fun e w' => e = .returned (.func (.func 28) #[] #[.pointer (some ⟨w.heap.size, 0, none⟩)]) ∧ w' = w.alloc (.cells (cl f).toArray 44) := by
  go_enter Tryd.func14, Tryd.ntmps14
  go_wp2
  go_ret
  exact ⟨rfl, rfl⟩

set_option maxRecDepth 100000 in
set_option maxHeartbeats 1000000 in
theorem parts_gives (f : Nat → Nat) (hf : ∀ s, f s < 2 ^ 256) (Bb n : Nat) (hn : 1 ≤ n) (w : World) (hb : HasAll w Bb f) :
    GivesX Fence.wide n Tryd.prog 28 #[.pointer (some ⟨Bb, 0, none⟩)] (fun s => #[partV s (f s)]) (fun _ => True) (setsOf f) w := by
  intro l J Jx W hBw hsz _ hJ hY h0
  refine callsIn_of_wp Tryd.func28 rfl trivial ?_ rfl
  simp only [Tryd.ntmps28, List.size_toArray, List.length_cons, List.length_nil, Nat.reduceAdd, Nat.reduceSub, Array.replicate_succ, Array.replicate_zero, List.push_toArray, List.append_toArray, List.nil_append, List.cons_append]
  have hb' := hb.keep hBw hb.lt
  clear hb
  gi_wp2_with (refine lIn_load rfl 44 _ rfl _ (loadAt_all hb') ?_)
  gi_loopw [6] (fun i wr => ∃ k : Nat, k ≤ 128 ∧ i = .int .i64 k ∧ J (upto f k) wr ∧ W.heap.size ≤ wr.heap.size) (fun i _ => 128 - (intOf i).toNat)
  case atStart => exact ⟨0, by omega, rfl, h0, Nat.le_refl _⟩
  case round =>
    obtain ⟨k, hk, rfl, hJs, hsz⟩ := hrel
    have bN : Below wr.heap.size wr (wr.alloc (.cells #[.int .u64 (wd (f k) 0), .int .u64 (wd (f k) 1), .int .u64 (wd (f k) 2), .int .u64 (wd (f k) 3)] 35)) := (Below.refl _ wr).alloc (Nat.le_refl _) _
    have hJ1 := hJ _ _ _ hJs (grown_below bN _)
    by_cases hlt : k < 128
    · have hix := index_by f k hlt
      have hq := eq_zero (f k) (hf k)
      by_cases hz : f k = 0
      · have hq' : ∀ w : World, (Op.equalIn 10000 35 (.agg #[.int .u64 (wd (f k) 0), .int .u64 (wd (f k) 1), .int .u64 (wd (f k) 2), .int .u64 (wd (f k) 3)]) (.agg #[.int .u64 0, .int .u64 0, .int .u64 0, .int .u64 0])).run Tryd.prog w = Result.ok true w := fun w => by rw [hq w]; simp [hz]
        clear hq
        have HU : Hid (upto f (k + 1) = upto f k) := hidIn (upto_no hz)
        clear hz
        gi_wp2
        refine ⟨fun _ h => (by cases h), ?_⟩
        gi_wp2
        go_roundw
        case rel => exact ⟨k + 1, by omega, by go_num, by rw [HU.out]; exact hJ1, by simp; omega⟩
        case measure => simp [intOf]; omega
      · have hq' : ∀ w : World, (Op.equalIn 10000 35 (.agg #[.int .u64 (wd (f k) 0), .int .u64 (wd (f k) 1), .int .u64 (wd (f k) 2), .int .u64 (wd (f k) 3)]) (.agg #[.int .u64 0, .int .u64 0, .int .u64 0, .int .u64 0])).run Tryd.prog w = Result.ok false w := fun w => by rw [hq w]; simp [hz]
        clear hq
        have HU : Hid (upto f (k + 1) = upto f k ++ [k]) := hidIn (upto_yes hz)
        have hpre : (upto f k ++ [k]) <+: setsOf f := by
          rw [← upto_yes hz]
          have := upto_pre f (k + 1) (128 - (k + 1))
          rwa [show k + 1 + (128 - (k + 1)) = 128 from by omega] at this
        obtain ⟨fn, tmps, assign, body, hy, hR⟩ := hY (upto f k) k _ hJ1 hpre (by simp; omega)
        have HP := hidIn hpre
        clear hz hpre
        gi_wp2
        refine hR.mono ?_
        rintro e W3 (⟨rfl, hJ3, hk3⟩ | ⟨rfl, hJx3⟩)
        · have hs3 : W.heap.size ≤ W3.heap.size := by have := hk3.2; simp at this; omega
          clear hy hR hk3
          gi_wp2
          go_roundw
          case rel => exact ⟨k + 1, by omega, by go_num, by rw [HU.out]; exact hJ3, hs3⟩
          case measure => simp [intOf]; omega
        · clear hy hR
          gi_wp2
          refine bodyPost_ret (results_none rfl _ _ _) rfl ?_
          exact ⟨⟨_, rfl⟩, .inr ⟨_, HP.out, hJx3⟩⟩
    · have hke : k = 128 := by omega
      have HJ : Hid (J (setsOf f) wr) := by rw [hke] at hJs; exact hJs
      subst hke
      clear hJs hJ1
      gi_wp2
      go_end0
      exact ⟨⟨_, rfl⟩, .inl HJ.out⟩
end Go.Proofs.YtjcbbifjhoemaaaDoor
