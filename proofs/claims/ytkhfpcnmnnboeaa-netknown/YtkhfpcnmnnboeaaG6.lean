/- laid. -/
import Derived.Test.YtkhfpcnmnnboeaaG5
namespace Go.Proofs.Ytkhfpcnmnnboeaa
open Go.RowKit

def outE (c : Nat → Nat → Int) (a : Nat) : List Ed := (List.range a).flatMap fun a => rowE c a (List.range 25)
theorem outE_succ (c : Nat → Nat → Int) (a : Nat) : outE c (a + 1) = outE c a ++ rowE c a (List.range 25) := by simp [outE, List.range_succ, List.flatMap_append]
theorem rowE_yes {c : Nat → Nat → Int} {a b : Nat} (h1 : 0 < c a b) (h2 : 0 < c b a) : rowE c a (List.range (b + 1)) = rowE c a (List.range b) ++ [((a : Int), (b : Int), c a b)] := by simp [rowE, List.range_succ, List.filter_append, h1, h2]
theorem rowE_no {c : Nat → Nat → Int} {a b : Nat} (h : ¬ (0 < c a b ∧ 0 < c b a)) : rowE c a (List.range (b + 1)) = rowE c a (List.range b) := by
  have : (decide (0 < c a b) && decide (0 < c b a)) = false := by simpa using h
  simp only [rowE, List.range_succ, List.filter_append, List.filter_cons, this, List.filter_nil]
  simp
theorem rowE_len (c : Nat → Nat → Int) (a : Nat) (l : List Nat) : (rowE c a l).length ≤ l.length := by unfold rowE; rw [List.length_map]; exact List.length_filter_le _ _
theorem outE_len (c : Nat → Nat → Int) : ∀ a, (outE c a).length ≤ a * 25
  | 0 => by simp [outE]
  | a + 1 => by
    rw [outE_succ, List.length_append]
    have h1 := outE_len c a
    have h2 := rowE_len c a (List.range 25)
    simp at h2
    omega
/-- The graph in its block: its nodes and edges. -/
structure LdM (w1 wr : World) (u v : Value) (L : List Ed) : Prop where
  g : wr.heap[w1.heap.size]? = some (.cells #[u, v] 57)
  r : wr.ownsRow (w1.heap.size + 1) 64 3 v L.length (fl ec L)
  b : Below w1.heap.size w1 wr

set_option maxRecDepth 100000 in
set_option maxHeartbeats 2000000 in
theorem laid_any (f : Nat → Bool) (c : Nat → Nat → Int) (w : World) :
    Calls Try.prog 55 #[.agg (mcl f).toArray, .agg (ccl c).toArray] w fun e w' =>
      (∃ u v, e = .returned (grV u v) ∧ w'.ownsRow w.heap.size 3 1 u (markedL f).length (fl ic (markedL f)) ∧ w'.ownsRow w.heap.size 64 3 v (laidE c).length (fl ec (laidE c))) ∧ Below w.heap.size w w' := by
  obtain ⟨W0, hW0⟩ : ∃ W0, ((w.alloc (.cells (mcl f).toArray 118)).alloc (.cells (ccl c).toArray 120)).alloc (.cells #[.slice none 0 0, .slice none 0 0] 57) = W0 := ⟨_, rfl⟩
  have hA0 : Arr W0 w.heap.size 118 (mcl f) := by
    rw [← hW0]
    unfold Arr
    rw [Below.heap_alloc _ _ _ (by simp; omega), Below.heap_alloc _ _ _ (by simp)]
    exact heap_alloc_last w _
  have hA1 : Arr W0 (w.heap.size + 1) 120 (ccl c) := by
    rw [← hW0]
    unfold Arr
    rw [Below.heap_alloc _ _ _ (by simp)]
    have := heap_alloc_last (w.alloc (.cells (mcl f).toArray 118)) (.cells (ccl c).toArray 120)
    rw [World.size_alloc] at this
    exact this
  have hA2 : W0.heap[w.heap.size + 2]? = some (.cells #[.slice none 0 0, .slice none 0 0] 57) := by
    rw [← hW0]
    have := heap_alloc_last ((w.alloc (.cells (mcl f).toArray 118)).alloc (.cells (ccl c).toArray 120)) (.cells #[.slice none 0 0, .slice none 0 0] 57)
    rw [World.size_alloc, World.size_alloc] at this
    exact this
  have hs0 : W0.heap.size = w.heap.size + 3 := by rw [← hW0]; simp
  have hb0 : Below w.heap.size w W0 := by rw [← hW0]; go_grown
  have HW := hidIn hW0
  clear hW0
  go_enter Try.func55, Try.ntmps55
  go_upto_region 1 with fail
  rw [HW.out]
  clear HW
  go_wp2_with (refine l_loadM rfl _ rfl _ f rfl hA0 ?_)
  refine (marked_any f W0).mono ?_
  rintro e w1 ⟨⟨u, rfl, hu⟩, hb1⟩
  obtain ⟨ua, ucap, rfl⟩ := row_shape hu
  obtain ⟨un, hun⟩ : ∃ un, (markedL f).length = un := ⟨_, rfl⟩
  rw [hun] at hu ⊢
  have HUn := hidIn hun
  clear hun
  have hB1 := hA1.keep hb1 (by omega)
  have hR1 := (hb1.block (w.heap.size + 2) (by omega)).trans hA2
  have hs1 := hb1.size
  have HU := hidIn (row_low hu (show w.heap.size + 3 ≤ W0.heap.size by omega))
  have HB0 := hidIn (hb0.trans (hb1.mono hb0.size))
  have hlt1 : w.heap.size + 2 < w1.heap.size := by omega
  clear hA0 hA1 hA2 hs0 hb0 hu hb1 hs1
  go_wp2_with fail
  go_loopw [12] (fun i wr => ∃ (a : Nat), a ≤ 25 ∧ i = .int .i64 a ∧ Hid (∃ v, LdM w1 wr (.slice ua un ucap) v (outE c a))) (fun i _ => 25 - (intOf i).toNat)
  case atStart =>
    refine ⟨0, Nat.zero_le _, rfl, hidIn ⟨.slice none 0 0, ⟨?_, World.ownsRow_nil _ _ _ _, by go_grown⟩⟩⟩
    exact heap_alloc_last w1 _
  case round =>
    obtain ⟨a, ha, rfl, HR⟩ := hrel
    by_cases hlt : a < 25
    · have hai : (a : Int) < 25 := by omega
      obtain ⟨v0, hM0⟩ := HR.out
      have hBr := hB1.keep hM0.b (by omega)
      have HM0 := hidIn hM0
      clear HR hM0
      generalize wr = wo at *
      go_wp2_with (refine l_loadR rfl _ rfl _ _ a c rfl (by simp) hlt hBr ?_)
      go_loopw [18] (fun i wz => ∃ (b : Nat), b ≤ 25 ∧ i = .int .i64 b ∧ Hid (∃ v, LdM w1 wz (.slice ua un ucap) v (outE c a ++ rowE c a (List.range b)))) (fun i _ => 25 - (intOf i).toNat)
      case atStart => exact ⟨0, Nat.zero_le _, rfl, hidIn ⟨v0, by simpa [rowE] using HM0.out⟩⟩
      case round =>
        obtain ⟨b, hb, rfl, HR⟩ := hrel
        obtain ⟨v, hM⟩ := HR.out
        clear HR
        by_cases hlt2 : b < 25
        · have hbi : (b : Int) < 25 := by omega
          have hix := indexR (c a) hlt2
          have hBz := hB1.keep hM.b (by omega)
          have hcc : wr.cell? ⟨w.heap.size + 1, b * 25 + a, none⟩ = some (.int .i64 (c b a)) := by
            rw [hBz.cell, ccl_get _ (by omega), show (b * 25 + a) / 25 = b from by omega, show (b * 25 + a) % 25 = a from by omega]
          by_cases h1 : 0 < c a b
          · by_cases h2 : 0 < c b a
            · have HE := hidIn (rowE_yes h1 h2)
              have hle : (outE c a ++ rowE c a (List.range b)).length ≤ 700 := by
                rw [List.length_append]
                have h3 := outE_len c a
                have h4 := rowE_len c a (List.range b)
                simp at h4
                omega
              obtain ⟨g, gcap, w6, hrun, hown, _, _, hb6⟩ := append_edge hM.r ((a : Int), (b : Int), c a b) (by omega) (by have := block_lt hM.g; omega)
              have hg6 := (hb6.block _ (Nat.lt_succ_self _)).trans hM.g
              have HRun := hidIn hrun
              have HO := hidIn hown
              have HB6 := hidIn (hM.b.trans (hb6.mono (Nat.le_succ _)))
              have d1 := cell_of_row _ _ 1 _ _ _ hM.g
              have k0 := cell_of_row _ _ 0 _ _ _ hg6
              have k1 := cell_of_row _ _ 1 _ _ _ hg6
              have f1 := frozen_new hg6 1
              simp at d1 k0 k1
              have HG6 := hidIn hg6
              clear hrun hown hb6 hM hg6 HM0
              obtain ⟨L, hL⟩ : ∃ L, outE c a ++ rowE c a (List.range b) = L := ⟨_, rfl⟩
              have HL := hidIn hL
              rw [hL] at HRun HO hle
              clear hL
              go_wp2_with (refine l_append rfl _ _ 55 rfl HRun.out ?_)
              go_roundw
              case rel =>
                refine ⟨b + 1, by omega, by go_num, hidIn ⟨_, ⟨heap_setCell_same _ _ _ _ _ _ HG6.out, ?_, HB6.out.setCell (p := ⟨w1.heap.size, 1, none⟩) (Nat.le_refl _) _⟩⟩⟩
                have h5 := row_fr HO.out ((Fr.refl (fun k => k = w1.heap.size) w6).set (p := ⟨w1.heap.size, 1, none⟩) rfl (.slice (some ⟨g, 0, none⟩) (L.length + 1) gcap)) (fun j hj e => by have := (HO.out.lt j hj).1; omega)
                rw [HE.out, ← List.append_assoc, HL.out, List.length_append]
                exact h5
              case measure => simp [intOf]; omega
            · have HE := hidIn (rowE_no (c := c) (a := a) (b := b) (by omega))
              have HM := hidIn hM
              clear hM HM0 hBz
              go_wp2_with fail
              go_roundw
              case rel => exact ⟨b + 1, by omega, by go_num, hidIn ⟨v, by rw [HE.out]; exact HM.out⟩⟩
              case measure => simp [intOf]; omega
          · have HE := hidIn (rowE_no (c := c) (a := a) (b := b) (by omega))
            have HM := hidIn hM
            clear hM HM0 hBz hcc
            go_wp2_with fail
            go_roundw
            case rel => exact ⟨b + 1, by omega, by go_num, hidIn ⟨v, by rw [HE.out]; exact HM.out⟩⟩
            case measure => simp [intOf]; omega
        · have hbe : b = 25 := by omega
          have hbi : ¬ ((b : Int) < 25) := by omega
          have HM : Hid (LdM w1 wr (.slice ua un ucap) v (outE c (a + 1))) := hidIn (by rw [outE_succ, ← hbe]; exact hM)
          clear hM HM0
          go_wp2_with fail
          go_roundw
          case rel => exact ⟨a + 1, by omega, by go_num, hidIn ⟨v, HM.out⟩⟩
          case measure => simp [intOf]; omega
    · have hae : a = 25 := by omega
      have hai : ¬ ((a : Int) < 25) := by omega
      obtain ⟨v, hM⟩ := HR.out
      rw [hae] at hM
      obtain ⟨va, vcap, rfl⟩ := row_shape hM.r
      have hR := (hM.b.block (w.heap.size + 2) (by omega)).trans hR1
      have d0 := cell_of_row _ _ 0 _ _ _ hM.g
      have d1 := cell_of_row _ _ 1 _ _ _ hM.g
      have r0 := cell_of_row _ _ 0 _ _ _ hR
      have r1 := cell_of_row _ _ 1 _ _ _ hR
      have f0 := frozen_new hR 0
      have f1 := frozen_new hR 1
      simp at d0 d1 r0 r1
      have HM := hidIn hM
      clear HR hM hR hR1 hB1
      obtain ⟨vn, hvn⟩ : ∃ vn, (outE c 25).length = vn := ⟨_, rfl⟩
      rw [hvn] at d1 HM
      have HVn := hidIn hvn
      clear hvn
      go_wp2_with fail
      have e0 : ((wr.setCell ⟨w.heap.size + 1 + 1, 0, none⟩ (.slice ua un ucap)).setCell ⟨w.heap.size + 1 + 1, 1, none⟩ (.slice va vn vcap)).cell? ⟨w.heap.size + 1 + 1, 0, none⟩ = some (.slice ua un ucap) := by simp [go_sem, r0]
      have e1 : ((wr.setCell ⟨w.heap.size + 1 + 1, 0, none⟩ (.slice ua un ucap)).setCell ⟨w.heap.size + 1 + 1, 1, none⟩ (.slice va vn vcap)).cell? ⟨w.heap.size + 1 + 1, 1, none⟩ = some (.slice va vn vcap) := by simp [go_sem, r1]
      have HF : Hid (Fr (fun k => k = w.heap.size + 2) wr ((wr.setCell ⟨w.heap.size + 1 + 1, 0, none⟩ (.slice ua un ucap)).setCell ⟨w.heap.size + 1 + 1, 1, none⟩ (.slice va vn vcap))) := hidIn (((Fr.refl (fun k => k = w.heap.size + 2) wr).set (p := ⟨w.heap.size + 1 + 1, 0, none⟩) rfl _).set (p := ⟨w.heap.size + 1 + 1, 1, none⟩) rfl _)
      generalize (wr.setCell ⟨w.heap.size + 1 + 1, 0, none⟩ (.slice ua un ucap)).setCell ⟨w.heap.size + 1 + 1, 1, none⟩ (.slice va vn vcap) = V at *
      refine bodyPost_ret (v := grV (.slice ua un ucap) (.slice va vn vcap)) (by simp [results, Try.results55, asAddr, Result.andThen, go_sem, e0, e1]) rfl ⟨⟨_, _, rfl, ?_, ?_⟩, ?_⟩
      · rw [HUn.out]
        exact row_low (row_fr (row_below HU.out HM.out.b (Nat.le_refl _)) HF.out (fun j hj e => by have := (HU.out.lt j hj).1; omega)) (Nat.le_add_right _ _)
      · have h5 := row_low (row_fr HM.out.r HF.out (fun j hj e => by have := (HM.out.r.lt j hj).1; omega)) (show w.heap.size ≤ w1.heap.size + 1 by omega)
        rw [HVn.out] at h5
        rw [show laidE c = outE c 25 from rfl, HVn.out]
        exact h5
      · exact (HB0.out.trans (HM.out.b.mono HB0.out.size)).trans (HF.out.below (Nat.le_trans HB0.out.size HM.out.b.size) (fun k hk => by omega))
end Go.Proofs.Ytkhfpcnmnnboeaa
