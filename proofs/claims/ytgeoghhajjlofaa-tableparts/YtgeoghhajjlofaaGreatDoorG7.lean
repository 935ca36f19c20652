/- adjsMayBe, recordMayBe. -/
import Derived.Test.YtgeoghhajjlofaaGreatDoorG6
namespace Go.Proofs.YtgeoghhajjlofaaGreatDoor
open Go.RowKit

/-- A record's cells, its neighbours' slice at the end. -/
abbrev rcc (x : Rc × Value) : List Value := [.int .i64 x.1.origin, .int .u32 x.1.epoch, .int .u32 x.1.seq, .int .i64 x.1.claim, .bool x.1.ing, x.2]
abbrev recV (r : Rc) (va : Value) : Value := .agg #[.int .i64 r.origin, .int .u32 r.epoch, .int .u32 r.seq, .int .i64 r.claim, .bool r.ing, va]
abbrev recO (r : Rc) (va : Value) : Obj := .cells #[.int .i64 r.origin, .int .u32 r.epoch, .int .u32 r.seq, .int .i64 r.claim, .bool r.ing, va] 73

set_option maxRecDepth 100000 in
set_option maxHeartbeats 1000000 in
theorem adjs_any {r : Rc} {va : Value} {w : World} (hv : SlAt ac 2 w va r.adjs) :
    Calls Tryz.prog 53 #[recV r va] w fun e w' => e = .returned (.bool (decide (r.adjs.length ≤ 16) && adjsOk r.origin 0 r.adjs)) ∧ Below w.heap.size w w' := by
  obtain ⟨orig, epo, sq, cl, ig, as'⟩ := r
  simp only at hv ⊢
  obtain ⟨a, cap, rfl, hl, _, hat⟩ := hv.ads
  have Ha := hidIn hat
  clear hat hv
  by_cases h16 : as'.length ≤ 16
  · have h16' : ¬ (16 : Int) < (as'.length : Int) := by omega
    have Hd : Hid ((decide (as'.length ≤ 16) && adjsOk orig 0 as') = adjsOk orig 0 as') := hidIn (by simp [h16])
    rw [Hd.out]
    clear Hd
    have hb0 := heap_alloc_last w (recO ⟨orig, epo, sq, cl, ig, as'⟩ (.slice a as'.length cap))
    have hbl0 : Below w.heap.size w (w.alloc (recO ⟨orig, epo, sq, cl, ig, as'⟩ (.slice a as'.length cap))) := (Below.refl _ w).alloc (Nat.le_refl _) _
    go_enter Tryz.func53, Tryz.ntmps53
    go_wp2
    go_loopw [3, 13] (fun x i wr => ∃ (k : Nat) (last : Int), k ≤ as'.length ∧ i = .int .i64 k ∧ x = .int .i64 last ∧ Hid (wr.cell? ⟨w.heap.size, 0, none⟩ = some (.int .i64 orig) ∧ w.heap.size < wr.heap.size ∧ Below w.heap.size w wr ∧ adjsOk orig 0 as' = adjsOk orig last (as'.drop k))) (fun _ i _ => as'.length - (intOf i).toNat)
    case atStart => exact ⟨0, 0, Nat.zero_le _, rfl, rfl, hidIn ⟨cell_of_row _ _ 0 _ _ _ hb0, by simp, hbl0, by rw [List.drop_zero]⟩⟩
    case round =>
      obtain ⟨k, last, hk, rfl, rfl, HR⟩ := hrel
      obtain ⟨ho, hlt0, hbel, hrest⟩ := HR.out
      clear HR hb0 hbl0
      by_cases hlt : k < as'.length
      · obtain ⟨bk, o, rfl, hbk, hcell⟩ := Ha.out (by omega)
        obtain ⟨⟨x, y⟩, hz⟩ : ∃ z, as'[k]? = some z := ⟨as'[k], List.getElem?_eq_getElem hlt⟩
        obtain ⟨q0, q1⟩ := hcell k _ hz
        have c0 := (hbel.cell (p := ⟨bk, o + k * 2, none⟩) hbk).trans q0
        have c1 := (hbel.cell (p := ⟨bk, o + k * 2 + 1, none⟩) hbk).trans q1
        simp only at c0 c1
        have HN : Hid (adjsOk orig 0 as' = (adjOk orig last (x, y) && adjsOk orig x (as'.drop (k + 1)))) := hidIn (by rw [hrest, drop_next hz, adjsOk])
        have HB := hidIn (hbel.alloc hbel.size (.cells #[.int .i64 x, .int .i64 y] 75))
        have HO := hidIn ho
        have hki : (k : Int) < (as'.length : Int) := by omega
        clear hcell q0 q1 hz hrest hbel
        go_wp2_with fail
        refine (isR_any x _).mono ?_
        rintro e' w2 ⟨rfl, hw2⟩
        rw [hw2]
        clear hw2 w2
        obtain ⟨b1, hb1⟩ : ∃ b1, isR x = b1 := ⟨_, rfl⟩
        have Hb1 := hidIn hb1
        rw [hb1]
        clear hb1
        cases b1
        · go_wp2_with fail
          go_returns
          exact ⟨by rw [HN.out]; simp [adjOk, Hb1.out], HB.out⟩
        by_cases hxo : x = orig
        · have hxo' : (x == orig) = true := by simpa using hxo
          have Hx := hidIn hxo
          clear hxo
          go_wp2_with fail
          go_returns
          exact ⟨by rw [HN.out]; simp [adjOk, Hx.out], HB.out⟩
        have hxo' : (x == orig) = false := by simpa using hxo
        by_cases hxl : x ≤ last
        · go_wp2_with fail
          go_returns
          exact ⟨by rw [HN.out]; simp [adjOk]; intro _ _ _; omega, HB.out⟩
        go_wp2_with fail
        refine (isC_any y _).mono ?_
        rintro e' w2 ⟨rfl, hw2⟩
        rw [hw2]
        clear hw2 w2
        obtain ⟨b1, hb1⟩ : ∃ b1, isC y = b1 := ⟨_, rfl⟩
        have Hb2 := hidIn hb1
        rw [hb1]
        clear hb1
        cases b1
        · go_wp2_with fail
          go_returns
          exact ⟨by rw [HN.out]; simp [adjOk, Hb2.out], HB.out⟩
        go_wp2_with fail
        go_roundw
        case rel =>
          refine ⟨k + 1, x, by omega, by go_num, rfl, hidIn ⟨?_, by simp; omega, HB.out, ?_⟩⟩
          · exact ((((Below.refl _ wr).alloc (Nat.le_refl _) _).cell (p := ⟨w.heap.size, 0, none⟩) hlt0)).trans HO.out
          · rw [HN.out]; simp [adjOk, Hb1.out, Hb2.out, hxo]; intro h; omega
        case measure => simp [intOf]; omega
      · have HB := hidIn hbel
        have hke : k = as'.length := by omega
        have HE : Hid (adjsOk orig 0 as' = true) := hidIn (by rw [hrest, hke, List.drop_length]; rfl)
        have hki : ¬ ((k : Int) < (as'.length : Int)) := by omega
        clear hbel hrest
        go_wp2_with fail
        go_returns
        exact ⟨by rw [HE.out]; rfl, HB.out⟩
  · have h16' : (16 : Int) < (as'.length : Int) := by omega
    go_enter Tryz.func53, Tryz.ntmps53
    go_wp2
    go_ret
    exact ⟨by simp [h16], by go_grown⟩
set_option maxRecDepth 100000 in
set_option maxHeartbeats 1000000 in
theorem record_any {r : Rc} {va : Value} {w : World} (hv : SlAt ac 2 w va r.adjs) :
    Calls Tryz.prog 34 #[recV r va] w fun e w' => e = .returned (.bool (recOk r)) ∧ Below w.heap.size w w' := by
  have HA := hidIn (fun w1 (hb : Below w.heap.size w w1) => adjs_any (r := r) (hv.keep hb (Nat.le_refl _)))
  clear hv
  unfold recOk
  have hb0 : Below w.heap.size w (w.alloc (recO r va)) := (Below.refl _ w).alloc (Nat.le_refl _) _
  generalize (decide (r.adjs.length ≤ 16) && adjsOk r.origin 0 r.adjs) = b2 at HA ⊢
  obtain ⟨orig, epo, sq, cl, ig, as'⟩ := r
  simp only at HA hb0 ⊢
  go_enter Tryz.func34, Tryz.ntmps34
  go_wp2_with fail
  refine (isR_any orig _).mono ?_
  rintro e' w2 ⟨rfl, hw2⟩
  rw [hw2]
  clear hw2 w2
  obtain ⟨b1, hb1⟩ : ∃ b1, isR orig = b1 := ⟨_, rfl⟩
  have Hb1 := hidIn hb1
  rw [hb1]
  clear hb1
  cases b1
  · go_wp2_with fail
    go_ret
    exact ⟨by simp [Hb1.out], hb0⟩
  by_cases h1 : 0 < epo
  · by_cases h2 : 0 < sq
    · by_cases h3 : 0 ≤ cl
      · by_cases h4 : cl ≤ 1024
        · go_wp2_with fail
          refine (HA.out _ hb0).mono ?_
          rintro e' w2 ⟨rfl, hb2⟩
          have HB := hidIn (hb0.trans (hb2.mono hb0.size))
          clear hb2 hb0
          go_wp2_with fail
          go_ret
          exact ⟨by simp [Hb1.out, h1, h2, h3, h4], HB.out⟩
        · go_wp2_with fail
          go_ret
          exact ⟨by simp; omega, hb0⟩
      · go_wp2_with fail
        go_ret
        exact ⟨by simp; omega, hb0⟩
    · go_wp2_with fail
      go_ret
      exact ⟨by simp; omega, hb0⟩
  · go_wp2_with fail
    go_ret
    exact ⟨by simp; omega, hb0⟩
end Go.Proofs.YtgeoghhajjlofaaGreatDoor
