/- The law BitsLow, walked. -/
import Derived.Test.YtlfmceochemeaabDoorHW
import Derived.Test.YtlfmceochemeaabDoorBL
namespace Go.Proofs.YtlfmceochemeaabDoor
open Go.RowKit

theorem lst_sorted {N k p m : Nat} (h1 : (lst N)[k]? = some p) (h2 : (lst N)[k + 1]? = some m) : p < m := by
  have hp : (lst N).Pairwise (· < ·) := List.Pairwise.filter _ List.pairwise_lt_range
  obtain ⟨l1, e1⟩ := List.getElem?_eq_some_iff.1 h1
  obtain ⟨l2, e2⟩ := List.getElem?_eq_some_iff.1 h2
  rw [← e1, ← e2]
  exact List.pairwise_iff_getElem.1 hp k (k + 1) l1 l2 (by omega)
theorem list_cells (N : Nat) (hN : N < 2 ^ 256) (w : World) (ht : Tabs w) :
    Calls Tryd.prog 6 #[bs N] w fun e w' => ∃ a cap, e = .returned (.slice a (lst N).length cap) ∧ (∀ j m : Nat, (lst N)[j]? = some m → ∃ g, a = some ⟨g, 0, none⟩ ∧ g < w'.heap.size ∧ w'.cell? ⟨g, j, none⟩ = some (.int .i64 ((m : Int) + 1))) ∧ Below w.heap.size w w' := by
  refine (list_any N hN w ht).mono ?_
  rintro e w' ⟨v, rfl, hr, hb⟩
  rcases hr.2 with ⟨rfl, h0⟩ | ⟨g, cap, cur, rfl, hbase, hg, _⟩
  · have e : lst N = [] := List.eq_nil_of_length_eq_zero h0
    rw [e]
    exact ⟨none, 0, rfl, fun j m hj => by simp at hj, hb⟩
  · refine ⟨some ⟨g, 0, none⟩, cap, rfl, fun j m hj => ⟨g, rfl, (Array.getElem?_eq_some_iff.1 hg).1, ?_⟩, hb⟩
    have hlt : j < (lst N).length := (List.getElem?_eq_some_iff.1 hj).1
    rw [hr.cellAt j (by omega)]
    unfold iv
    rw [List.getElem?_map, hj]
    rfl
theorem has_is (N : Nat) (hN : N < 2 ^ 256) (m : Nat) (hm : m < 256) (b : Bool) (h : N.testBit m = b) (w : World) :
    Calls Tryd.prog 8 #[bs N, .int .i64 ((m : Int) + 1)] w fun e w' => e = .returned (.bool b) ∧ Below w.heap.size w w' := by
  rw [← h]; exact has_yes N hN m hm w
theorem count_is (N c : Nat) (h : (lst N).length = c) (w : World) :
    Calls Tryd.prog 10 #[bs N] w fun e w' => e = .returned (.int .i64 (c : Int)) ∧ Below w.heap.size w w' := by
  rw [← h, lst_length]; exact count_any N w

theorem count_suc (N c : Nat) (h : (lst N).length = c + 1) (w : World) :
    Calls Tryd.prog 10 #[bs N] w fun e w' => e = .returned (.int .i64 ((c : Int) + 1)) ∧ Below w.heap.size w w' := by
  have := count_is N (c + 1) h w
  simpa using this

set_option maxRecDepth 100000 in
set_option maxHeartbeats 4000000 in
theorem low_walk (N : Nat) (hN : N < 2 ^ 256) (w : World) (ht : Tabs w) :
    Calls Tryd.prog 3 #[bs N] w fun e w' => e = .returned (.bool true) ∧ Below w.heap.size w w' := by
  have hq : ∀ w : World, (Op.equalIn 10000 24 (.agg #[.int .u64 (wd 0 0), .int .u64 (wd 0 1), .int .u64 (wd 0 2), .int .u64 (wd 0 3)]) (.agg #[.int .u64 0, .int .u64 0, .int .u64 0, .int .u64 0])).run Tryd.prog w = Result.ok true w := fun w => eq_zero 0 (by decide) w
  have hlen : (lst N).length ≤ 256 := by have := cntTo_le 256 N; rw [← lst_length] at this; exact this
  have HN := hidIn hN
  clear hN
  unfold bs
  go_enter Tryd.func3, Tryd.ntmps3
  go_wp2_with fail
  refine (list_cells N HN.out _ (ht.keep ((Below.refl _ w).alloc (Nat.le_refl _) _))).mono ?_
  rintro e w1 ⟨a, cap, rfl, hat, hb1⟩
  have hN1 := (hasBs_new w N).keep hb1 (by simp)
  have b1 : Below w.heap.size w w1 := ((Below.refl _ w).alloc (Nat.le_refl _) _).trans (hb1.mono (by simp))
  have hs1 := b1.size
  obtain ⟨c0, c1, c2, c3, _, _, _, _, _⟩ := hN1
  have HA := hidIn hat
  have ht1 := ht.keep b1
  clear hb1 hat
  go_wp2
  go_loopw [5] (fun i wr => ∃ k X : Nat, k ≤ (lst N).length ∧ i = .int .i64 k ∧ Hid (X < 2 ^ 256) ∧ Hid (lst X = (lst N).drop k) ∧ HasBs wr w1.heap.size X ∧ Below w1.heap.size w1 wr) (fun i _ => (lst N).length - (intOf i).toNat)
  case atStart => exact ⟨0, N, by omega, rfl, HN, rfl, hasBs_new w1 N, by go_grown⟩
  case round =>
    obtain ⟨k, X, hk, rfl, HX, HL, hB, hbel⟩ := hrel
    have ht2 := ht1.keep hbel
    have hs2 := hbel.size
    by_cases hlt : k < (lst N).length
    · obtain ⟨m, hm⟩ : ∃ m, (lst N)[k]? = some m := ⟨_, List.getElem?_eq_getElem hlt⟩
      have HLm : Hid (lst X = m :: (lst N).drop (k + 1)) := hidIn (by
        rw [HL.out, List.drop_eq_getElem_cons hlt]
        congr 1
        exact Option.some.inj ((List.getElem?_eq_getElem hlt).symm.trans hm))
      have HLe := hidIn (least_of_lst HLm.out)
      have hm256 := HLe.out.1
      have HbX := hidIn HLe.out.2.1
      have HY : Hid (lst (wo X (2 ^ m)) = (lst N).drop (k + 1)) := hidIn (by
        have := lst_least HLe.out
        rw [HLm.out] at this
        exact (List.cons.inj this).2.symm)
      have HYb : Hid ((wo X (2 ^ m)).testBit m = false) := hidIn (by rw [testBit_wo, Nat.testBit_two_pow]; simp)
      have HYl : Hid (wo X (2 ^ m) < 2 ^ 256) := hidIn (wo_lt HX.out)
      have HcX : Hid ((lst X).length = (lst N).length - k) := hidIn (by rw [HL.out, List.length_drop])
      have HcY : Hid ((lst (wo X (2 ^ m))).length = (lst N).length - (k + 1)) := hidIn (by rw [HY.out, List.length_drop])
      obtain ⟨g, rfl, hg, hcell⟩ := HA.out k m hm
      have hck := (hbel.cell (p := ⟨g, k, none⟩) hg).trans hcell
      have Hm := hidIn hm
      clear hm hcell
      have HB := hidIn hB
      obtain ⟨c0, c1, c2, c3, _, _, _, _, _⟩ := hB
      have HP : Hid (∀ k' : Nat, k = k' + 1 → ∃ p : Nat, p < m ∧ wr.cell? ⟨g, k', none⟩ = some (.int .i64 ((p : Int) + 1))) := hidIn (by
        rintro k' rfl
        obtain ⟨p, hp⟩ : ∃ p, (lst N)[k']? = some p := ⟨_, List.getElem?_eq_getElem (by omega)⟩
        obtain ⟨g1, hg1, hlt1, hc1⟩ := HA.out k' p hp
        obtain rfl : g = g1 := by simpa using hg1
        exact ⟨p, lst_sorted hp Hm.out, (hbel.cell (p := ⟨g, k', none⟩) hg).trans hc1⟩)
      obtain ⟨c, hc⟩ : ∃ c, (lst N).length = k + 1 + c := ⟨(lst N).length - (k + 1), by omega⟩
      have hc256 : c ≤ 256 := by omega
      replace HcX : Hid ((lst X).length = c + 1) := hidIn (by rw [HcX.out]; omega)
      replace HcY : Hid ((lst (wo X (2 ^ m))).length = c) := hidIn (by rw [HcY.out]; omega)
      clear hc
      generalize (lst N).length = len at *
      go_wp2_with fail
      refine (lowest_any X m HLe.out _ ht2).mono ?_
      rintro e w3 ⟨rfl, hb3⟩
      have HG3 := hidIn hb3
      have s3 := hb3.size
      have hck3 := (hb3.cell (p := ⟨g, k, none⟩) (show g < wr.heap.size by omega)).trans hck
      clear c0 c1 c2 c3
      obtain ⟨c0, c1, c2, c3, _, _, _, _, _⟩ := HB.out.keep hb3 HB.out.lt
      clear hb3
      cases k with
      | zero =>
        go_wp2_with fail
        refine (has_is X HX.out m hm256 true HbX.out _).mono ?_
        rintro e w4 ⟨rfl, hb4⟩
        have HG4 := hidIn (Below.trans HG3.out (hb4.mono HG3.out.size))
        have s4 := HG4.out.size
        obtain ⟨c0, c1, c2, c3, _, _, _, _, _⟩ := HB.out.keep HG4.out HB.out.lt
        have hck4 := (HG4.out.cell (p := ⟨g, 0, none⟩) (show g < wr.heap.size by omega)).trans hck
        clear hb4 hck hck3
        go_wp2_with fail
        refine (without_yes X m hm256 _).mono ?_
        rintro e w5 ⟨rfl, hb5⟩
        have HG5 := hidIn (Below.trans HG4.out (hb5.mono HG4.out.size))
        have s5 := HG5.out.size
        clear hb5 c0 c1 c2 c3 hck4
        generalize wo X (2 ^ m) = Y at *
        go_wp2
        have yV := hasBs_new w5 Y
        have xV := HasBs.grow (HB.out.keep HG5.out HB.out.lt) (.cells #[.int .u64 (wd Y 0), .int .u64 (wd Y 1), .int .u64 (wd Y 2), .int .u64 (wd Y 3)] 24)
        have bV : Below wr.heap.size wr (w5.alloc (.cells #[.int .u64 (wd Y 0), .int .u64 (wd Y 1), .int .u64 (wd Y 2), .int .u64 (wd Y 3)] 24)) := HG5.out.alloc s5 _
        generalize w5.alloc _ = V at yV xV bV ⊢
        have k0 := cell_regrown yV.c0
        have k1 := cell_regrown yV.c1
        have k2 := cell_regrown yV.c2
        have k3 := cell_regrown yV.c3
        have j0 := cell_regrown xV.c0
        have j1 := cell_regrown xV.c1
        have j2 := cell_regrown xV.c2
        have j3 := cell_regrown xV.c3
        have eX : ((cntTo 256 X : Nat) : Int) = (c : Int) + 1 := by rw [← lst_length, HcX.out]; simp
        have eY : ((cntTo 256 Y : Nat) : Int) = (c : Int) := by rw [← lst_length, HcY.out]
        refine wp_region_quiet_below (by kernel_rfl) (by kernel_rfl) ?_
        repeat (go_big_quiet_step (first
          | (go_at_call 10; exact Calls.regrown_of (count_any _ _))
          | (go_at_call 8; exact Calls.regrown_of (has_is Y HYl.out m hm256 false HYb.out _))))
        refine wpQuiet_nil ?_
        intro _ hw'
        obtain ⟨⟨dq, osq⟩, hw''⟩ := hw'
        have hR := below_regrown V dq osq
        rw [← hw''] at hR
        clear hw'' k0 k1 k2 k3 j0 j1 j2 j3 eX eY
        rename_i V'
        obtain ⟨k0, k1, k2, k3, _, _, _, _, _⟩ := yV.keep hR yV.lt
        have HX' := hidIn (xV.keep hR xV.lt)
        obtain ⟨j0, j1, j2, j3, f0, f1, f2, f3, _⟩ := HX'.out
        have HGV := hidIn (Below.trans bV (hR.mono bV.size))
        clear hR yV xV bV
        go_wp2
        go_roundw
        case rel => exact ⟨0 + 1, Y, by omega, by go_num, HYl, HY, HX'.out.put Y, below_put (hbel.trans (HGV.out.mono hbel.size)) (Nat.le_refl _)⟩
        case measure => simp [intOf]; omega
      | succ k' =>
        obtain ⟨p, hpm, hcp⟩ := HP.out k' rfl
        go_wp2_with fail
        refine (has_is X HX.out m hm256 true HbX.out _).mono ?_
        rintro e w4 ⟨rfl, hb4⟩
        have HG4 := hidIn (Below.trans HG3.out (hb4.mono HG3.out.size))
        have s4 := HG4.out.size
        obtain ⟨c0, c1, c2, c3, _, _, _, _, _⟩ := HB.out.keep HG4.out HB.out.lt
        have hck4 := (HG4.out.cell (p := ⟨g, (k' + 1), none⟩) (show g < wr.heap.size by omega)).trans hck
        have hcp4 := (HG4.out.cell (p := ⟨g, k', none⟩) (show g < wr.heap.size by omega)).trans hcp
        clear hcp
        clear hb4 hck hck3
        go_wp2_with fail
        refine (without_yes X m hm256 _).mono ?_
        rintro e w5 ⟨rfl, hb5⟩
        have HG5 := hidIn (Below.trans HG4.out (hb5.mono HG4.out.size))
        have s5 := HG5.out.size
        clear hb5 c0 c1 c2 c3 hck4
        generalize wo X (2 ^ m) = Y at *
        go_wp2
        have yV := hasBs_new w5 Y
        have xV := HasBs.grow (HB.out.keep HG5.out HB.out.lt) (.cells #[.int .u64 (wd Y 0), .int .u64 (wd Y 1), .int .u64 (wd Y 2), .int .u64 (wd Y 3)] 24)
        have bV : Below wr.heap.size wr (w5.alloc (.cells #[.int .u64 (wd Y 0), .int .u64 (wd Y 1), .int .u64 (wd Y 2), .int .u64 (wd Y 3)] 24)) := HG5.out.alloc s5 _
        generalize w5.alloc _ = V at yV xV bV ⊢
        have k0 := cell_regrown yV.c0
        have k1 := cell_regrown yV.c1
        have k2 := cell_regrown yV.c2
        have k3 := cell_regrown yV.c3
        have j0 := cell_regrown xV.c0
        have j1 := cell_regrown xV.c1
        have j2 := cell_regrown xV.c2
        have j3 := cell_regrown xV.c3
        have eX : ((cntTo 256 X : Nat) : Int) = (c : Int) + 1 := by rw [← lst_length, HcX.out]; simp
        have eY : ((cntTo 256 Y : Nat) : Int) = (c : Int) := by rw [← lst_length, HcY.out]
        refine wp_region_quiet_below (by kernel_rfl) (by kernel_rfl) ?_
        repeat (go_big_quiet_step (first
          | (go_at_call 10; exact Calls.regrown_of (count_any _ _))
          | (go_at_call 8; exact Calls.regrown_of (has_is Y HYl.out m hm256 false HYb.out _))))
        refine wpQuiet_nil ?_
        intro _ hw'
        obtain ⟨⟨dq, osq⟩, hw''⟩ := hw'
        have hR := below_regrown V dq osq
        rw [← hw''] at hR
        clear hw'' k0 k1 k2 k3 j0 j1 j2 j3 eX eY
        rename_i V'
        obtain ⟨k0, k1, k2, k3, _, _, _, _, _⟩ := yV.keep hR yV.lt
        have HX' := hidIn (xV.keep hR xV.lt)
        obtain ⟨j0, j1, j2, j3, f0, f1, f2, f3, _⟩ := HX'.out
        have HGV := hidIn (Below.trans bV (hR.mono bV.size))
        clear hR yV xV bV
        go_wp2
        go_roundw
        case rel => exact ⟨(k' + 1) + 1, Y, by omega, by go_num, HYl, HY, HX'.out.put Y, below_put (hbel.trans (HGV.out.mono hbel.size)) (Nat.le_refl _)⟩
        case measure => simp [intOf]; omega
    · obtain rfl : k = (lst N).length := by omega
      have HX0 : X = 0 := lst_nil HX.out (by rw [HL.out]; simp)
      subst HX0
      obtain ⟨c0, c1, c2, c3, _, _, _, _, _⟩ := hB
      generalize (lst N).length = len at *
      go_wp2_with fail
      refine (lowest_zero _).mono ?_
      rintro e w3 ⟨rfl, hb3⟩
      have hb := hbel.trans (hb3.mono hs2)
      go_wp2_with fail
      refine (works_any _ (ht2.keep hb3)).mono ?_
      rintro e w4 ⟨rfl, hb4⟩
      go_wp2
      go_ret
      exact ⟨rfl, (b1.trans (hb.mono hs1)).trans (hb4.mono (by have := hb.size; omega))⟩
end Go.Proofs.YtlfmceochemeaabDoor
