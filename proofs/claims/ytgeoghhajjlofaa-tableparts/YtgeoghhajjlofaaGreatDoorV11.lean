/- slices.Grow, slices.Concat, joined. -/
import Derived.Test.YtgeoghhajjlofaaGreatDoorV10
import Derived.Test.YtgeoghhajjlofaaGreatDoorShelf
import Derived.Sort.OwnSortedInts
import Derived.Lib.OwnBridge
import Derived.Lib.AppendZeros
namespace Go.Proofs.YtgeoghhajjlofaaGreatDoor
open Go.RowKit

theorem l_append2 {P : Program} {ops : Array Oper} {rest : List Oper} {o : Oper} {a : Act} {w w' : World} {v' : Value} {Q : Exit → Act → World → Prop}
    (hg : o.guard = none) (s x : Operand) (t tn : TypeId) (hop : o.op = Op.call { callee := Callee.builtin Builtin.append, args := #[s, x], argTypes := #[t, tn] })
    (hrun : (Builtin.append_ #[t, tn] o.type #[a.eval s, a.eval x]).run P w = .ok v' w') (hK : wpList P ops Q rest (a.put o.dst v') w') : wpList P ops Q (o :: rest) a w := by
  refine wpList_plain hg fun K hk => ?_
  unfold Oper.wp
  simp [execOp, hop, resolve, invoke, builtin, hrun, Result.andThen]
  exact hk _ _ hK
set_option maxRecDepth 100000 in
theorem grow_any (n : Nat) (hn : n ≤ 100000) (w : World) : Calls Tryz.prog 95 #[.slice none 0 0, .int .i64 n] w fun e w' => (∃ a cap, e = .returned (.slice a 0 cap) ∧ w'.ownsRow w.heap.size 3 1 (.slice a 0 cap) 0 [] ∧ (n = 0 → a = none ∧ cap = 0)) ∧ Below w.heap.size w w' := by
  by_cases h0 : n = 0
  · subst h0
    go_enter Tryz.func95, Tryz.ntmps95
    go_wp2
    go_ret
    exact ⟨⟨none, 0, rfl, World.ownsRow_nil _ _ _ _, fun _ => ⟨rfl, rfl⟩⟩, Below.refl _ _⟩
  · obtain ⟨i0, hi, hz0, hz1, hz2⟩ := info_parts infoInt
    have hrun := Lib.run_append_nil_zeros (P := Tryz.prog) w 39 3 39 3 i0 (.int .i64 0) .i64 .i64 Tryz.underlying39 Tryz.underlying3 hi hz0 n (by omega) (by omega) (by omega) (by rw [hz2]; omega)
    have hge : n ≤ grownCap w n 0 3 := grownCap_ge w n 0 _
    have hle : grownCap w n 0 3 ≤ maxLen := grownCap_le_maxLen w n 0 _ (by unfold maxLen; omega)
    have HRun := hidIn hrun
    obtain ⟨cap, hcap⟩ : ∃ cap, grownCap w n 0 3 = cap := ⟨_, rfl⟩
    rw [hcap] at HRun hge hle
    have hn1 : ¬ ((n : Int) < 0) := by omega
    have hn2 : (0 : Int) < (n : Int) := by omega
    have hc0 : (0 : Int) ≤ (cap : Int) := by omega
    clear hrun hcap
    have HRow : Hid ((w.drew.alloc (.cells (Builtin.zeroCells (Value.int .i64 0).cells n ++ Builtin.zeroCells (Value.int .i64 0).cells (cap - n)) 3)).ownsRow w.heap.size 3 1 (.slice (some ⟨w.heap.size, 0, none⟩) 0 cap) 0 []) := hidIn (by
      refine ⟨rfl, .inr ⟨w.heap.size, cap, _, rfl, Nat.le_refl _, heap_alloc_last w.drew _, by omega, hle, ?_, by simp⟩⟩
      simp only [Array.size_append, size_zeroCells]
      simp [Value.cells]
      omega)
    have HB : Hid (Below w.heap.size w (w.drew.alloc (.cells (Builtin.zeroCells (Value.int .i64 0).cells n ++ Builtin.zeroCells (Value.int .i64 0).cells (cap - n)) 3))) := hidIn (((Below.refl _ w).drew).alloc (Nat.le_refl _) _)
    go_enter Tryz.func95, Tryz.ntmps95
    go_wp2_with (refine l_append2 rfl _ _ 39 3 rfl HRun.out ?_)
    go_ret
    exact ⟨⟨_, _, rfl, HRow.out⟩, HB.out⟩
/-- Nothing behind a slice. -/
theorem run_append_none (b : Addr) (n cap : Nat) (hn : n ≤ cap) (W : World) : (Builtin.append_ #[39, 39] 39 #[.slice (some b) n cap, .slice none 0 0]).run Tryz.prog W = .ok (.slice (some b) n cap) W := by
  obtain ⟨i0, hi, hz0, hz1, hz2⟩ := info_parts infoInt
  simp [Builtin.append_, run_underlying Tryz.underlying39, sizeOf, typeInfo, hi, Builtin.lenOf, Builtin.firstCells, hn, storeCells, Result.andThen]
theorem append_onto {W : World} {base n : Nat} {u v : Value} {l m : List Int} (hr : W.ownsRow base 3 1 u n (fl ic l)) (hv : SlAt ic 1 W v m) (hk : (n + m.length) * 8 ≤ 140737488355328) (hbase : base ≤ W.heap.size) (hnil : NilOk v) :
    ∃ a cap w6, (Builtin.append_ #[39, 39] 39 #[u, v]).run Tryz.prog W = .ok (.slice a (n + m.length) cap) w6 ∧ w6.ownsRow base 3 1 (.slice a (n + m.length) cap) (n + m.length) (fl ic (l ++ m)) ∧ Below base W w6 := by
  have key : ((∃ a n c, v = .slice (some a) n c) ∨ (v = .slice none 0 0 ∧ u = .slice none 0 0)) → ∃ a cap w6, (Builtin.append_ #[39, 39] 39 #[u, v]).run Tryz.prog W = .ok (.slice a (n + m.length) cap) w6 ∧ w6.ownsRow base 3 1 (.slice a (n + m.length) cap) (n + m.length) (fl ic (l ++ m)) ∧ Below base W w6 := fun h => by
    obtain ⟨v', w6, h1, h2, h3, _⟩ := append_allI hr hv hk hbase h
    obtain ⟨a, cap, rfl⟩ := row_shape h2
    exact ⟨a, cap, w6, h1, h2, h3⟩
  rcases hnil with h | h
  · exact key (.inl h)
  · rcases hr.2 with ⟨h1, _⟩ | ⟨g, cap, cur, hu, hg, hh, h1, h2, h3, h4⟩
    · exact key (.inr ⟨h, h1⟩)
    · subst h
      have hm : m = [] := by
        obtain ⟨a, c, he, _⟩ := hv
        simp at he
        exact List.length_eq_zero_iff.1 he.2.1.symm
      subst hm
      subst hu
      rw [List.append_nil]
      exact ⟨_, cap, W, run_append_none _ _ _ h1 W, hr, Below.refl _ _⟩
set_option maxRecDepth 100000 in
set_option maxHeartbeats 2000000 in
theorem concat_any {la lb : List Int} {va vb : Value} {b : Nat} {w : World} (ha : SlAt ic 1 w va la) (hb : SlAt ic 1 w vb lb) (na : NilOk va) (nb : NilOk vb) (hblk : w.heap[b]? = some (.cells #[va, vb] 39)) (hla : la.length ≤ 10000) (hlb : lb.length ≤ 10000) :
    Calls Tryz.prog 59 #[.slice (some ⟨b, 0, none⟩) 2 2] w fun e w' => (∃ a cap, e = .returned (.slice a (la.length + lb.length) cap) ∧ w'.ownsRow w.heap.size 3 1 (.slice a (la.length + lb.length) cap) (la.length + lb.length) (fl ic (la ++ lb))) ∧ Below w.heap.size w w' := by
  have HA := hidIn ha
  have HB := hidIn hb
  have HNa := hidIn na
  have HNb := hidIn nb
  obtain ⟨aa, ca, rfl, _⟩ := ha
  obtain ⟨ab, cb, rfl, _⟩ := hb
  have c0 : w.cell? ⟨b, 0, none⟩ = some (.slice aa la.length ca) := cell_of_row _ _ 0 _ _ _ hblk
  have c1 : w.cell? ⟨b, 1, none⟩ = some (.slice ab lb.length cb) := cell_of_row _ _ 1 _ _ _ hblk
  have HBlk := hidIn hblk
  have hbl := block_lt hblk
  clear na nb hblk
  go_enter Tryz.func59, Tryz.ntmps59
  go_wp2
  go_loopw [3, 11] (fun s i wr => wr = w ∧ ((i = .int .i64 0 ∧ s = .int .i64 0) ∨ (i = .int .i64 1 ∧ s = .int .i64 (la.length : Int)) ∨ (i = .int .i64 2 ∧ s = .int .i64 ((la.length : Int) + (lb.length : Int))))) (fun _ i _ => 2 - (intOf i).toNat)
  case atStart => exact ⟨rfl, .inl ⟨rfl, rfl⟩⟩
  case round =>
    obtain ⟨hwr, hk⟩ := hrel
    rw [hwr]
    clear hwr
    have hw1 : IntKind.i64.wrap ((la.length : Int) + (lb.length : Int)) = (la.length : Int) + (lb.length : Int) := by rw [IntKind.wrap_i64]; omega
    have hw0 : IntKind.i64.wrap (la.length : Int) = (la.length : Int) := by rw [IntKind.wrap_i64]; omega
    have hp0 : ¬ ((la.length : Int) < 0) := by omega
    have hp1 : ¬ ((la.length : Int) + (lb.length : Int) < 0) := by omega
    rcases hk with ⟨rfl, rfl⟩ | ⟨rfl, rfl⟩ | ⟨rfl, rfl⟩
    · go_wp2_with fail
      go_roundw
      case rel => exact ⟨trivial, .inr (.inl ⟨rfl, by go_num⟩)⟩
      case measure => simp [intOf]
    · go_wp2_with fail
      go_roundw
      case rel => exact ⟨trivial, .inr (.inr ⟨rfl, by go_num⟩)⟩
      case measure => simp [intOf]
    · have hG := grow_any (la.length + lb.length) (by omega) w
      rw [Int.natCast_add] at hG
      have HG := hidIn hG
      clear hG hw1 hw0 hp0 hp1
      go_wp2_with fail
      refine HG.out.mono ?_
      rintro e w2 ⟨⟨ga, gcap, rfl, hrow, _⟩, hb2⟩
      have HR2 := hidIn hrow
      have HB2 := hidIn hb2
      clear hrow hb2 HG c0 c1
      go_wp2_with fail
      go_loopw [6, 27] (fun u i wr => Hid (Below w.heap.size w wr) ∧ ((i = .int .i64 0 ∧ ∃ a cap, u = .slice a 0 cap ∧ Hid (wr.ownsRow w.heap.size 3 1 (.slice a 0 cap) 0 (fl ic []))) ∨ (i = .int .i64 1 ∧ ∃ a cap, u = .slice a la.length cap ∧ Hid (wr.ownsRow w.heap.size 3 1 (.slice a la.length cap) la.length (fl ic la))) ∨ (i = .int .i64 2 ∧ ∃ a cap, u = .slice a (la.length + lb.length) cap ∧ Hid (wr.ownsRow w.heap.size 3 1 (.slice a (la.length + lb.length) cap) (la.length + lb.length) (fl ic (la ++ lb)))))) (fun _ i _ => 2 - (intOf i).toNat)
      case atStart => exact ⟨HB2, .inl ⟨rfl, ga, gcap, rfl, HR2⟩⟩
      case round =>
        clear HB2 HR2
        obtain ⟨HBw, hk⟩ := hrel
        have hbk := (HBw.out.block _ hbl).trans HBlk.out
        have c0 : wr.cell? ⟨b, 0, none⟩ = some (.slice aa la.length ca) := cell_of_row _ _ 0 _ _ _ hbk
        have c1 : wr.cell? ⟨b, 1, none⟩ = some (.slice ab lb.length cb) := cell_of_row _ _ 1 _ _ _ hbk
        clear hbk
        rcases hk with ⟨rfl, a, cap, rfl, HR⟩ | ⟨rfl, a, cap, rfl, HR⟩ | ⟨rfl, a, cap, rfl, HR⟩
        · obtain ⟨a', cap', w6, hrun, hown, hb6⟩ := append_onto HR.out (HA.out.keep HBw.out (Nat.le_refl _)) (by omega) HBw.out.size HNa.out
          have HRun := hidIn hrun
          have HO : Hid (w6.ownsRow w.heap.size 3 1 (.slice a' la.length cap') la.length (fl ic la)) := hidIn (by simpa using hown)
          rw [Nat.zero_add] at HRun
          have HB6 := hidIn (HBw.out.trans hb6)
          clear hrun hown hb6 HR
          go_wp2_with (refine l_append rfl _ _ 39 rfl HRun.out ?_)
          go_roundw
          case rel => exact ⟨HB6, .inr (.inl ⟨rfl, a', cap', rfl, HO⟩)⟩
          case measure => simp [intOf]
        · obtain ⟨a', cap', w6, hrun, hown, hb6⟩ := append_onto HR.out (HB.out.keep HBw.out (Nat.le_refl _)) (by omega) HBw.out.size HNb.out
          have HRun := hidIn hrun
          have HO := hidIn hown
          have HB6 := hidIn (HBw.out.trans hb6)
          clear hrun hown hb6 HR
          go_wp2_with (refine l_append rfl _ _ 39 rfl HRun.out ?_)
          go_roundw
          case rel => exact ⟨HB6, .inr (.inr ⟨rfl, a', cap', rfl, HO⟩)⟩
          case measure => simp [intOf]
        · go_wp2_with fail
          go_ret
          exact ⟨⟨a, cap, rfl, HR.out⟩, HBw.out⟩
/-- Two lists as one that rises and has each number once. -/
def joinL (a b : List Int) : List Int := Lib.compact ((a ++ b).mergeSort fun x y => decide (x ≤ y))
theorem compact_len (l : List Int) : (Lib.compact l).length ≤ l.length := by
  unfold Lib.compact Lib.compactUpTo
  rw [List.length_map]
  exact Nat.le_trans (List.length_filter_le _ _) (by simp)
theorem joinL_nil : joinL [] [] = [] := by simp [joinL, Lib.compact, Lib.compactUpTo]
set_option maxRecDepth 100000 in
set_option maxHeartbeats 2000000 in
theorem joined_any {la lb : List Int} {va vb : Value} {w : World} (ha : SlAt ic 1 w va la) (hb : SlAt ic 1 w vb lb) (na : NilOk va) (nb : NilOk vb) (hla : la.length ≤ 10000) (hlb : lb.length ≤ 10000) :
    Calls Tryz.prog 40 #[va, vb] w fun e w' => (∃ a cap, e = .returned (.slice a (joinL la lb).length cap) ∧ w'.ownsRow w.heap.size 3 1 (.slice a (joinL la lb).length cap) (joinL la lb).length (fl ic (joinL la lb))) ∧ Below w.heap.size w w' := by
  have bA : Below w.heap.size w (w.alloc (.cells #[va, vb] 39)) := (Below.refl _ w).alloc (Nat.le_refl _) _
  have HC := hidIn (concat_any (ha.keep bA (Nat.le_refl _)) (hb.keep bA (Nat.le_refl _)) na nb (heap_alloc_last w _) hla hlb)
  obtain ⟨aa, ca, rfl, _⟩ := ha
  obtain ⟨ab, cb, rfl, _⟩ := hb
  have HA := hidIn bA
  clear bA na nb
  go_enter Tryz.func40, Tryz.ntmps40
  go_wp2_with fail
  refine HC.out.mono ?_
  rintro e w2 ⟨⟨a, cap, rfl, hrow⟩, hb2⟩
  have HB2 := hidIn (HA.out.trans (hb2.mono HA.out.size))
  have hrow2 := row_low hrow (show w.heap.size ≤ (w.alloc (.cells #[.slice aa la.length ca, .slice ab lb.length cb] 39)).heap.size from HA.out.size)
  clear hrow hb2 HC HA
  rw [← List.length_append] at hrow2 ⊢
  obtain ⟨l, hl⟩ : ∃ l, la ++ lb = l := ⟨_, rfl⟩
  have hjl : joinL la lb = Lib.compact (l.mergeSort fun x y => decide (x ≤ y)) := by unfold joinL; rw [hl]
  rw [hl] at hrow2 ⊢
  have hll : l.length ≤ 20000 := by rw [← hl, List.length_append]; omega
  have HJ := hidIn hjl
  clear hl hjl
  rcases hrow2.2 with ⟨h1, h0⟩ | ⟨g, cap', cur, hu, hg, hh, h1, h2, h3, h4⟩
  · have hl0 : l = [] := List.length_eq_zero_iff.1 h0
    subst hl0
    simp at h1
    obtain ⟨rfl, rfl⟩ := h1
    have HS := hidIn (Tryz.slices_Sort_int_none none 0 w2)
    have HCp := hidIn (Tryz.slices_Compact_int_empty none 0 w2)
    have HJ0 : Hid (joinL la lb = []) := hidIn (by rw [HJ.out]; simp [Lib.compact, Lib.compactUpTo])
    simp only [List.length_nil]
    clear h0 hrow2
    go_wp2_with fail
    refine HS.out.mono ?_
    rintro e w3 ⟨rfl, hw3⟩
    rw [hw3]
    clear hw3 w3 HS
    go_wp2_with fail
    refine HCp.out.mono ?_
    rintro e w3 ⟨rfl, hw3⟩
    rw [hw3]
    clear hw3 w3 HCp
    go_wp2_with fail
    go_ret
    exact ⟨⟨none, 0, by rw [HJ0.out]; rfl, by rw [HJ0.out]; exact World.ownsRow_nil _ _ _ _⟩, HB2.out⟩
  · simp at hu
    obtain ⟨rfl, rfl⟩ := hu
    obtain ⟨ts, hts⟩ : ∃ ts, (l.mergeSort fun x y => decide (x ≤ y)) = ts := ⟨_, rfl⟩
    have htl : ts.length = l.length := by rw [← hts, List.length_mergeSort]
    have htake : cur.toList.take l.length = l.map (Value.int .i64) := by rw [Nat.mul_one, ints_map] at h4; exact h4
    have hS := Tryz.slices_Sort_int g 0 cap l w2 (holds_of_blockI hh htake) (block_lt hh) (by omega)
    rw [hts] at hS HJ
    have HS := hidIn hS
    have HT : Hid (∀ n os, (Sort.grow (Sort.putRow (Value.int .i64) (Sort.ahead w2 n) g 0 ts.toArray) os).ownsRow w.heap.size 3 1 (.slice (some ⟨g, 0, none⟩) l.length cap) l.length (ts.map (Value.int .i64)) ∧ Below w.heap.size w (Sort.grow (Sort.putRow (Value.int .i64) (Sort.ahead w2 n) g 0 ts.toArray) os)) := hidIn fun n os => ⟨ownsRow_sortedI htl hg hh h1 h2 h3, HB2.out.grown (grownBy_sortedI _) HB2.out.size (fun k hk => by cases hk; exact hg)⟩
    clear hS hts
    go_wp2_with fail
    refine HS.out.mono ?_
    rintro e w3 ⟨rfl, n, os, hw3⟩
    have h3' := HT.out n os
    rw [← hw3] at h3'
    obtain ⟨hrow3, hb3⟩ := h3'
    clear hw3 HS HT
    rw [← htl] at hrow3 ⊢
    have hcap3 : ts.length ≤ cap := by omega
    obtain ⟨cur3, hh3, ht3⟩ : ∃ cur3, w3.heap[g]? = some (.cells cur3 3 (0, 0)) ∧ cur3.toList.take ts.length = ts.map (Value.int .i64) := by
      rcases hrow3.2 with ⟨h, _⟩ | ⟨g', cap', cur3, h, _, hh3, _, _, _, h5⟩
      · simp at h
      · simp at h
        obtain ⟨rfl, _⟩ := h
        exact ⟨cur3, hh3, by rw [Nat.mul_one] at h5; exact h5⟩
    have HCp := hidIn (Tryz.slices_Compact_int g 0 cap ts w3 (holds_of_blockI hh3 ht3) (by omega) hcap3)
    have hcl := compact_len ts
    have HR3 : Hid (∀ q, (Sort.putRow (Value.int .i64) (Sort.ahead w3 q) g 0 (Lib.compact ts ++ List.replicate (ts.length - (Lib.compact ts).length) 0).toArray).ownsRow w.heap.size 3 1 (.slice (some ⟨g, 0, none⟩) (Lib.compact ts).length cap) (Lib.compact ts).length (fl ic (Lib.compact ts)) ∧ Below w.heap.size w (Sort.putRow (Value.int .i64) (Sort.ahead w3 q) g 0 (Lib.compact ts ++ List.replicate (ts.length - (Lib.compact ts).length) 0).toArray)) := hidIn fun q => by
      refine ⟨?_, Lib.below_putRow hb3 hg⟩
      have := Lib.ownsRow_putRow (q := q) (k := (Lib.compact ts).length) (ys := Lib.compact ts ++ List.replicate (ts.length - (Lib.compact ts).length) 0) hrow3 (by simp; omega) hcl
      rw [List.take_left] at this
      rw [ints_map]
      exact this
    clear hrow3 hb3 hh3 ht3 htl hcl
    go_wp2_with fail
    refine HCp.out.mono ?_
    rintro e w4 ⟨rfl, q, hw4⟩
    have h4' := HR3.out q
    rw [← hw4] at h4'
    have H4 := hidIn h4'
    clear hw4 HR3 HCp h4'
    go_wp2_with fail
    go_ret
    exact ⟨⟨_, _, by rw [HJ.out]; rfl, by rw [HJ.out]; exact H4.out.1⟩, H4.out.2⟩
end Go.Proofs.YtgeoghhajjlofaaGreatDoor
