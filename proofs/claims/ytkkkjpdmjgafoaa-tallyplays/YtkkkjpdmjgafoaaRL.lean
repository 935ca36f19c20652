/- The document's List: the bits, rising, in a row of the call's own. -/
import Derived.Test.YtkkkjpdmjgafoaaR2
import Derived.Test.YtkkkjpdmjgafoaaT0
namespace Go.Proofs.Ytkkkjpdmjgafoaa.Bi
open Go.RowKit

theorem rinfoInt : (Try.prog.info? 3).map (fun i => (i.zero, i.size, i.bytes)) = some (some (.int .i64 0), 1, 8) := by kernel_rfl

/-- The bits below j. -/
def lstTo (j N : Nat) : List Nat := (List.range j).filter fun k => N.testBit k
theorem lstTo_yes {j N : Nat} (h : N.testBit j = true) : lstTo (j + 1) N = lstTo j N ++ [j] := by
  unfold lstTo; rw [List.range_succ, List.filter_append]; simp [h]
theorem lstTo_no {j N : Nat} (h : N.testBit j = false) : lstTo (j + 1) N = lstTo j N := by
  unfold lstTo; rw [List.range_succ, List.filter_append]; simp [h]
theorem lstTo_length (j N : Nat) : (lstTo j N).length ≤ j := by
  unfold lstTo
  have := List.length_filter_le (fun k => N.testBit k) (List.range j)
  simpa using this
/-- Bits as values. -/
def bitVals (l : List Nat) : List Value := l.map fun m : Nat => Value.int .i64 ((m : Int) + 1)
theorem bitVals_snoc (l : List Nat) (m : Nat) : bitVals (l ++ [m]) = bitVals l ++ [.int .i64 ((m : Int) + 1)] := by simp [bitVals]
theorem bitVals_length (l : List Nat) : (bitVals l).length = l.length := by simp [bitVals]

theorem row_base {W : World} {base : Nat} {e : TypeId} {v : Value} {k : Nat} {xs : List Value} (h : W.ownsRow base e 1 v k xs) {b : Nat} (hb : v.ownBlock = some b) : base ≤ b := by
  rcases h.2 with ⟨rfl, _⟩ | ⟨g, cap, cur, rfl, hbase, _⟩
  · simp [Value.ownBlock] at hb
  · simp [Value.ownBlock] at hb; omega

set_option maxRecDepth 100000 in
set_option maxHeartbeats 1000000 in
theorem rlist_any (N : Nat) (w : World) :
    Calls Try.prog 32 #[bs N] w fun e w' => ∃ v, e = .returned v ∧ w'.ownsRow (w.heap.size + 1) 3 1 v (lst N).length (bitVals (lst N)) ∧ Below w.heap.size w w' := by
  obtain ⟨i0, hi, hz0, hz1, hz2⟩ := info_parts rinfoInt
  unfold bs
  go_enter Try.func32, Try.ntmps32
  go_wp2
  go_loopw [3, 4] (fun v i wr => ∃ j : Nat, j ≤ 256 ∧ i = .int .i64 ((j : Int) + 1) ∧ wr.ownsRow (w.heap.size + 1) 3 1 v (lstTo j N).length (bitVals (lstTo j N)) ∧ HasBs wr w.heap.size N ∧ Below w.heap.size w wr) (fun _ i _ => 300 - (intOf i).toNat)
  case atStart => exact ⟨0, by omega, rfl, World.ownsRow_nil _ _ _ _, hasBs_new w N, by go_grown⟩
  case round =>
    obtain ⟨j, hj, rfl, hrow, hB, hbel⟩ := hrel
    by_cases hlt : j < 256
    · have hlen := lstTo_length j N
      have hs := hbel.size
      have ltB := hB.lt
      have HB := hidIn hB
      obtain ⟨a0, a1, a2, a3, _, _, _, _, _⟩ := hB
      cases hb : N.testBit j
      · have Hb := hidIn hb
        have HL := hidIn (lstTo_no hb)
        have HR := hidIn hrow
        clear hb hrow
        go_wp2_with (go_at_call 41; refine (rhas_is N j hlt false Hb.out _).mono ?_; rintro e w1 ⟨rfl, hb1⟩)
        have hG := hb1
        go_roundw
        case rel => exact ⟨j + 1, by omega, by go_num, by rw [HL.out]; exact row_none HR.out hG, HB.out.keep hG HB.out.lt, hbel.trans (hG.mono hbel.size)⟩
        case measure => simp [intOf]; omega
      · have Hb := hidIn hb
        have HL := hidIn (lstTo_yes hb)
        have HR := hidIn hrow
        clear hb hrow
        go_wp2_with (first
          | (go_at_call 41; refine (rhas_is N j hlt true Hb.out _).mono ?_; rintro e w1 ⟨rfl, hb1⟩; have hs1 := hb1.size; have HR1 := hidIn (row_none HR.out hb1))
          | (at_builtin; refine wpList_append_own _ rfl _ _ 58 rfl (w.heap.size + 1) 3 i0 (.int .i64 0) 1 8 Try.underlying58 hi hz0 hz1 hz2 rfl (by decide) _ (lstTo j N).length (bitVals (lstTo j N)) rfl (HR1.out.alloc _) ⟨w1.heap.size, 0, none⟩ 1 1 [.int .i64 ((j : Int) + 1)] rfl rfl (cell_one_new _ _ _) (by simp [Value.oneCell']) (by unfold maxLen; omega) (by omega) (by simp; omega) ?_; intro v' w2 hown' hgrow _))
        refine ⟨⟨j + 1, by omega, by go_num, ?_, ?_, ?_⟩, by simp [intOf]; omega⟩
        · rw [HL.out, bitVals_snoc, List.length_append]
          exact hown'
        · have hB1 := (HB.out.keep hb1 HB.out.lt).alloc (.cells #[.int .i64 ((j : Int) + 1)] 3)
          exact hB1.at ⟨hgrow.block _ hB1.lt (row_far HR1.out (by omega)), hgrow.size⟩
        · exact (((hbel.trans (hb1.mono hbel.size)).alloc (by omega) _)).grown hgrow (by simp; omega) (fun k e => by have := row_base HR1.out e; omega)
    · obtain rfl : j = 256 := by omega
      have HR := hidIn hrow
      clear hrow hB
      go_wp2
      go_ret
      exact ⟨_, rfl, HR.out, hbel⟩
end Go.Proofs.Ytkkkjpdmjgafoaa.Bi
