/- areNodes; Count. -/
import Derived.Test.YtgeoghhajjlofaaGreatDoorV5
namespace Go.Proofs.YtgeoghhajjlofaaGreatDoor
open Go.RowKit

/-- May a graph be, and are all of these its nodes? -/
def ndAll (ns : List Int) (es : List Ed) (l : List Int) : Bool := graphOk ns es && l.all fun n => hasN ns n
set_option maxRecDepth 100000 in
set_option maxHeartbeats 1000000 in
theorem areNodes_any {ns : List Int} {es : List Ed} {vn ve v : Value} {l : List Int} {w : World} (h : GrAt w vn ve ns es) (hv : SlAt ic 1 w v l) :
    Calls Tryz.prog 37 #[grV vn ve, v] w fun e w' => e = .returned (.bool (ndAll ns es l)) ∧ Below w.heap.size w w' := by
  have HG0 := hidIn h
  obtain ⟨ea, eca, rfl, _⟩ := h.e
  obtain ⟨na, nca, rfl, _⟩ := h.n
  obtain ⟨a, cap, rfl, hl, _, hat⟩ := hv.ints
  have Ha := hidIn hat
  obtain ⟨W1, hW1⟩ : ∃ W1, w.alloc (.cells #[.slice na ns.length nca, .slice ea es.length eca] 53) = W1 := ⟨_, rfl⟩
  have bA : Below w.heap.size w W1 := by rw [← hW1]; exact (Below.refl _ w).alloc (Nat.le_refl _) _
  have hGB : W1.heap[w.heap.size]? = some (.cells #[.slice na ns.length nca, .slice ea es.length eca] 53) := by rw [← hW1]; exact heap_alloc_last w _
  have HK : Hid (∀ wq, Below W1.heap.size W1 wq → (wq.cell? ⟨w.heap.size, 0, none⟩ = some (.slice na ns.length nca) ∧ wq.cell? ⟨w.heap.size, 1, none⟩ = some (.slice ea es.length eca)) ∧ Below w.heap.size w wq) := hidIn fun wq h => by
    have j0 := (h.block _ (block_lt hGB)).trans hGB
    exact ⟨⟨cell_of_row _ _ 0 _ _ _ j0, cell_of_row _ _ 1 _ _ _ j0⟩, bA.trans (h.mono bA.size)⟩
  obtain ⟨b1, hb1⟩ : ∃ b1, graphOk ns es = b1 := ⟨_, rfl⟩
  have hC := check_any (HG0.out.keep bA (Nat.le_refl _))
  rw [hb1] at hC
  have HC := hidIn hC
  have Hb1 := hidIn hb1
  have HW := hidIn hW1
  clear hW1 bA hGB h hv hat hb1 hC
  obtain ⟨⟨g0, g1⟩, _⟩ := HK.out W1 (Below.refl _ _)
  go_enter Tryz.func37, Tryz.ntmps37
  go_upto_region 1 with fail
  rw [HW.out]
  clear HW
  go_wp2_with fail
  refine HC.out.mono ?_
  rintro e w2 ⟨rfl, hb2⟩
  have HB2 := hidIn hb2
  clear hb2 HC g0 g1
  cases b1
  · simp only [Bool.false_eq_true, if_false]
    have HBw := hidIn (HK.out w2 HB2.out).2
    go_wp2_with fail
    go_returns
    exact ⟨by unfold ndAll; rw [Hb1.out]; rfl, HBw.out⟩
  simp only [if_true]
  go_wp2_with fail
  go_loopw [12] (fun i wr => ∃ k : Nat, k ≤ l.length ∧ i = .int .i64 k ∧ Hid (Below W1.heap.size W1 wr ∧ (l.all fun n => hasN ns n) = ((l.drop k).all fun n => hasN ns n))) (fun i _ => l.length - (intOf i).toNat)
  case atStart => exact ⟨0, Nat.zero_le _, rfl, hidIn ⟨HB2.out, by rw [List.drop_zero]⟩⟩
  case round =>
    clear HB2
    obtain ⟨k, hk, rfl, HR⟩ := hrel
    obtain ⟨hB, hrest⟩ := HR.out
    clear HR
    obtain ⟨⟨g0, g1⟩, hbw⟩ := HK.out wr hB
    by_cases hlt : k < l.length
    · obtain ⟨bk, o, rfl, hbk, hcell⟩ := Ha.out (by omega)
      obtain ⟨z, hz⟩ : ∃ z, l[k]? = some z := ⟨l[k], List.getElem?_eq_getElem hlt⟩
      have c0 := (hbw.cell (p := ⟨bk, o + k, none⟩) hbk).trans (hcell k z hz)
      have hki : (k : Int) < (l.length : Int) := by omega
      have HN : Hid ((l.all fun n => hasN ns n) = (hasN ns z && (l.drop (k + 1)).all fun n => hasN ns n)) := hidIn (by rw [hrest, drop_next hz]; rfl)
      have HCo := hidIn (contains_any (HG0.out.n.keep hbw (Nat.le_refl _)) z)
      have HB := hidIn hB
      have HBw := hidIn hbw
      clear hcell hz hrest hB hbw
      go_wp2_with fail
      refine HCo.out.mono ?_
      rintro e w3 ⟨rfl, hw3⟩
      rw [hw3]
      clear hw3 w3 HCo
      obtain ⟨b2, hb2⟩ : ∃ b2, hasN ns z = b2 := ⟨_, rfl⟩
      rw [hb2] at HN ⊢
      clear hb2
      cases b2
      · go_wp2_with fail
        go_returns
        exact ⟨by unfold ndAll; rw [Hb1.out, HN.out]; rfl, HBw.out⟩
      · go_wp2_with fail
        go_roundw
        case rel => exact ⟨k + 1, by omega, by go_num, hidIn ⟨HB.out, by rw [HN.out]; rfl⟩⟩
        case measure => simp [intOf]; omega
    · have hki : ¬ ((k : Int) < (l.length : Int)) := by omega
      have HT : Hid (ndAll ns es l = true) := hidIn (by unfold ndAll; rw [Hb1.out, hrest, List.drop_eq_nil_of_le (by omega)]; rfl)
      have HBw := hidIn hbw
      clear hbw hrest
      go_wp2_with fail
      go_returns
      exact ⟨by rw [HT.out]; rfl, HBw.out⟩
/-- Numbers of ways, in their array. -/
def ucl (c : Nat → Nat) : List Value := (List.range 25).map fun i => .int .u64 (c i : Nat)
theorem ucl_len (c : Nat → Nat) : (ucl c).length = 25 := by simp [ucl]
theorem ucl_get (c : Nat → Nat) {j : Nat} (h : j < 25) : (ucl c)[j]? = some (.int .u64 (c j : Nat)) := by
  simp only [ucl, List.getElem?_map]; rw [List.getElem?_range h]; rfl
def putN (c : Nat → Nat) (i v : Nat) : Nat → Nat := fun j => if j = i then v else c j
theorem ucl_set (c : Nat → Nat) {n : Nat} (_h : n < 25) (v : Nat) : (ucl c).set n (.int .u64 (v : Nat)) = ucl (putN c n v) := by
  apply List.ext_getElem?
  intro j
  rw [List.getElem?_set]
  by_cases hj : j < 25
  · rw [ucl_get _ hj, ucl_get _ hj]
    by_cases hn : n = j
    · subst hn; rw [if_pos rfl, if_pos (by rw [ucl_len]; exact hj)]; simp [putN]
    · rw [if_neg hn]
      have : putN c n v j = c j := by unfold putN; rw [if_neg (fun e => hn e.symm)]
      rw [this]
  · rw [List.getElem?_eq_none (by rw [ucl_len]; omega), List.getElem?_eq_none (by rw [ucl_len]; omega), if_neg (by omega)]
/-- One edge more. -/
def cntE (c : Nat → Nat) (e : Ed) : Nat → Nat := putN c e.2.1.toNat ((c e.2.1.toNat + c e.1.toNat) % 18446744073709551616)
def cntT (r : Int) (T : List Ed) : Nat → Nat := T.foldl cntE (putN (fun _ => 0) r.toNat 1)
theorem cntT_snoc (r : Int) (T : List Ed) (e : Ed) : cntT r (T ++ [e]) = cntE (cntT r T) e := by simp [cntT, List.foldl_append]
end Go.Proofs.YtgeoghhajjlofaaGreatDoor
