/- dandelionlaw05.works. -/
import Derived.Test.YtndiafbldgbplaaJ7
namespace Go.Proofs.Ytndiafbldgbplaa
open Go.RowKit

def four : List Int := [42, 41, 30, 45]
def fourOut : List Int := [30, 42, 41, 45]
theorem four_pops (k : Nat) (h : k < 4) : ∃ q, (popN ltTen k (fillL ltTen four))[0]? = some (fourOut[k]?.getD 0, q) := by
  rcases (show k = 0 ∨ k = 1 ∨ k = 2 ∨ k = 3 by omega) with rfl | rfl | rfl | rfl <;> exact ⟨_, rfl⟩
theorem four_at (l : List Int) (hl : l.length = 4) (w : World) (b : Nat) (t : TypeId) (h : w.heap[b]? = some (.cells (l.map (Value.int .i64)).toArray t)) (k : Nat) (hk : k < 4) : w.cell? ⟨b, k, none⟩ = some (.int .i64 (l[k]?.getD 0)) := by
  rw [cell_of_row w b k _ _ _ h]
  have : k < l.length := by omega
  simp [this]
set_option maxRecDepth 100000 in
set_option maxHeartbeats 1000000 in
theorem works_ok (w : World) : Calls Try.prog 16 #[] w fun e w' => e = .returned (.bool true) ∧ Below w.heap.size w w' := by
  have HN := hidIn (In.new_ok OT w)
  have HM := hidIn (In.hpM_new (O := OT) w trivial (Nat.zero_le _))
  go_enter Try.func16, Try.ntmps16
  go_wp2_with (go_at_call 21; refine HN.out.mono ?_; rintro e w1 ⟨rfl, hw1⟩; rw [hw1]; clear hw1 w1)
  go_loopw [13] (fun i wr => ∃ k : Nat, k ≤ 4 ∧ i = .int .i64 k ∧ Hid (∃ v, In.HpM OT wr w.heap.size w.heap.size v (fillL ltTen (four.take k)) k ∧ (∀ j, v.ownBlock = some j → w.heap.size + 1 < j) ∧ wr.heap[w.heap.size + 1]? = some (.cells (four.map (Value.int .i64)).toArray 3) ∧ Below w.heap.size w wr)) (fun i _ => 4 - (intOf i).toNat)
  case atStart =>
    refine ⟨0, by omega, rfl, hidIn ⟨_, HM.out.below ((Below.refl _ _).alloc (Nat.le_refl _) _) (Nat.le_refl _), fun j hj => by simp [Value.ownBlock] at hj, ?_, ?_⟩⟩
    · have := heap_alloc_new (w.alloc (In.hpObj OT)) (.cells (four.map (Value.int .i64)).toArray 3)
      rw [World.size_alloc] at this
      exact this
    · exact ((Below.refl _ w).alloc (Nat.le_refl _) _).alloc (by simp) _
  case round =>
    obtain ⟨k, hk, rfl, HR⟩ := hrel
    obtain ⟨v, hM, hv, hcl, hbel⟩ := HR.out
    clear HR
    by_cases hlt : k < 4
    · have hc := four_at four rfl wr _ _ hcl k hlt
      have hx : four[k]? = some (four[k]?.getD 0) := by
        rw [List.getElem?_eq_getElem (show k < four.length from hlt)]; rfl
      have hD : OT.D (four[k]?.getD 0) := by
        rcases (show k = 0 ∨ k = 1 ∨ k = 2 ∨ k = 3 by omega) with rfl | rfl | rfl | rfl <;> exact ⟨by decide, by decide⟩
      have HP := hidIn (In.push_ok (four[k]?.getD 0) hM (by rw [fillL_length]; simp; omega) (by omega) (by omega) hD)
      have HE := hidIn (fillL_next ltTen hx)
      have HB := hidIn hbel
      have HC := hidIn hcl
      have HV := hidIn hv
      have HW := hidIn hM
      clear hcl hbel hx hD hM hv
      generalize four[k]?.getD 0 = x at *
      have hki : (k : Int) < 4 := by omega
      go_wp2_with (go_at_call 22; refine HP.out.mono ?_; rintro e w2 ⟨rfl, hM2, hF2⟩)
      go_roundw
      case rel =>
        obtain ⟨v2, h2, h3⟩ := hM2
        have hs := HB.out.size
        have hs1 := block_lt HC.out
        have hS : ∀ j, own w.heap.size v j → w.heap.size ≤ j ∧ j ≠ w.heap.size + 1 := by
          rintro j (h | h)
          · omega
          · have := HV.out j h; omega
        refine ⟨k + 1, by omega, by go_num, hidIn ⟨v2, ?_, fun j hj => ?_, (hF2.block _ hs1 (fun h => (hS _ h).2 rfl)).trans HC.out, HB.out.trans (hF2.below hs (fun j h => (hS j h).1))⟩⟩
        · rw [HE.out]; exact h2
        · rcases h3 with h | h
          · exact HV.out j (h ▸ hj)
          · have := h j hj; omega
      case measure => simp [intOf]; omega
    · obtain rfl : k = 4 := by omega
      have HM4 := hidIn hM
      have HV := hidIn hv
      have HB := hidIn hbel
      clear hM hv hcl hbel hk hlt HN HM
      generalize wr = wo at *
      go_wp2_with fail
      go_loopw [24] (fun i wq => ∃ k : Nat, k ≤ 4 ∧ i = .int .i64 k ∧ Hid (∃ v', In.HpM OT wq w.heap.size w.heap.size v' (popN ltTen k (fillL ltTen four)) 4 ∧ v'.ownBlock = v.ownBlock ∧ wq.heap[wo.heap.size]? = some (.cells (fourOut.map (Value.int .i64)).toArray 3) ∧ Below w.heap.size w wq)) (fun i _ => 4 - (intOf i).toNat)
      case atStart =>
        exact ⟨0, by omega, rfl, hidIn ⟨v, HM4.out.below ((Below.refl _ _).alloc (Nat.le_refl _) _) (Nat.le_refl _), rfl, heap_alloc_new wo _, HB.out.alloc HB.out.size _⟩⟩
      case round =>
        obtain ⟨k, hk, rfl, HR⟩ := hrel
        obtain ⟨v', hM, hv, hcl, hbel⟩ := HR.out
        clear HR
        have hlen : (popN ltTen k (fillL ltTen four)).length = 4 - k := by rw [popN_length, fillL_length]; rfl
        by_cases hlt : k < 4
        · have hc := four_at fourOut rfl _ _ _ hcl k hlt
          obtain ⟨q, hq⟩ := four_pops k hlt
          have HP := hidIn (In.pop_ok hM (by omega) hq ⟨by decide, by decide⟩)
          have HC := hidIn hcl
          have Hv := hidIn hv
          have HBq := hidIn hbel
          clear hcl hbel hM hv hq hlen
          generalize fourOut[k]?.getD 0 = x at *
          have hki : (k : Int) < 4 := by omega
          go_wp2_with (go_at_call 25; refine HP.out.mono ?_; rintro e w2 ⟨rfl, hM2, hF2⟩)
          go_roundw
          case rel =>
            repeat apply Exists.intro
            refine ⟨?_, rfl⟩
            obtain ⟨v2, h2, h3⟩ := hM2
            have hs1 := block_lt HC.out
            have hS : ∀ j, own w.heap.size v' j → w.heap.size ≤ j ∧ j < wo.heap.size := by
              rintro j (h | h)
              · have := HB.out.size; have := HM4.out.lt; omega
              · have h5 := HM4.out.row.lt j (Hv.out ▸ h); omega
            exact ⟨k + 1, by omega, by go_num, hidIn ⟨v2, h2, h3.trans Hv.out, (hF2.block _ hs1 (fun h => absurd (hS _ h).2 (Nat.lt_irrefl _))).trans HC.out, HBq.out.trans (hF2.below HBq.out.size (fun j h => (hS j h).1))⟩⟩
          case measure => simp [intOf]; omega
        · obtain rfl : k = 4 := by omega
          have hL := In.len_ok hM
          rw [hlen] at hL
          have HL := hidIn hL
          have HBq := hidIn hbel
          clear hM hv hcl hbel hL hlen
          go_wp2_with (go_at_call 24; refine HL.out.mono ?_; rintro e w2 ⟨rfl, hw2⟩; rw [hw2]; clear hw2 w2)
          go_ret
          exact ⟨rfl, HBq.out⟩
end Go.Proofs.Ytndiafbldgbplaa
