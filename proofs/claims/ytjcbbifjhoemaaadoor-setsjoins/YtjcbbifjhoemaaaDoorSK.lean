/- The document's Split. -/
import Derived.Test.YtjcbbifjhoemaaaDoorSG
import Derived.Test.YtjcbbifjhoemaaaDoorS8
import Derived.Test.YtjcbbifjhoemaaaDoorSJ
namespace Go.Proofs.YtjcbbifjhoemaaaDoor
open Go.RowKit

/-- A part in a block, that may be written. -/
structure PtW (w : World) (b s X : Nat) : Prop where
  h : HasPt w b ((s : Int), X)
  f : ∀ j, j < 5 → w.frozen? ⟨b, j, none⟩ = false
theorem PtW.keep {w w' : World} {b B s X : Nat} (h : PtW w b s X) (hb : Below B w w') (hB : b < B) : PtW w' b s X :=
  ⟨h.h.keep hb hB, fun j hj => (hb.frozen (p := ⟨b, j, none⟩) hB).trans (h.f j hj)⟩
theorem ptW_new (w : World) (s : Nat) : PtW (w.alloc (.cells #[.int .i64 (s : Int), .int .u64 0, .int .u64 0, .int .u64 0, .int .u64 0] 37)) w.heap.size s 0 := by
  have hh := heap_alloc_last w (.cells #[.int .i64 (s : Int), .int .u64 0, .int .u64 0, .int .u64 0, .int .u64 0] 37)
  have hc := fun j => cell_of_row _ _ j _ _ _ hh
  refine ⟨⟨hc 0, ?_, ?_, ?_, ?_, by simp⟩, fun j hj => ?_⟩
  · rw [hc 1, wd_zero]; rfl
  · rw [hc 2, wd_zero]; rfl
  · rw [hc 3, wd_zero]; rfl
  · rw [hc 4, wd_zero]; rfl
  · unfold World.frozen?
    simp only [hh]
    simp
/-- Other bits. -/
abbrev putP (w : World) (b X : Nat) : World := (((w.setCell ⟨b, 1, none⟩ (.int .u64 (wd X 0))).setCell ⟨b, 2, none⟩ (.int .u64 (wd X 1))).setCell ⟨b, 3, none⟩ (.int .u64 (wd X 2))).setCell ⟨b, 4, none⟩ (.int .u64 (wd X 3))
theorem PtW.put {w : World} {b s X : Nat} (h : PtW w b s X) (Y : Nat) : PtW (putP w b Y) b s Y := by
  obtain ⟨⟨c0, c1, c2, c3, c4, lt⟩, f⟩ := h
  simp only at c0 c1 c2 c3 c4
  refine ⟨⟨?_, ?_, ?_, ?_, ?_, by simpa using lt⟩, fun j hj => by simp only [putP, World.frozen?_setCell]; exact f j hj⟩
  · simp [putP, go_sem, c0]
  · simp [putP, go_sem, c1]
  · simp [putP, go_sem, c2]
  · simp [putP, go_sem, c3]
  · simp [putP, go_sem, c4]
theorem below_putP {w w' : World} {B b Y : Nat} (h : Below B w w') (hb : B ≤ b) : Below B w (putP w' b Y) :=
  Below.setCell (Below.setCell (Below.setCell (h.setCell (p := ⟨b, 1, none⟩) hb _) (p := ⟨b, 2, none⟩) hb _) (p := ⟨b, 3, none⟩) hb _) (p := ⟨b, 4, none⟩) hb _
theorem srt_next_yes {W k m : Nat} {zs : List Int} (h : k < zs.length) (hz : zs[k]?.getD 0 = (m : Int) + 1) : srt W (zs.take (k + 1)) (m / W) = srt W (zs.take k) (m / W) ||| 2 ^ (m % W) := by
  rw [take_next h, srt_snoc, hz, addId, Int.add_sub_cancel, Int.toNat_natCast, upd, if_pos rfl]
theorem srt_next_no {W k m s : Nat} {zs : List Int} (h : k < zs.length) (hz : zs[k]?.getD 0 = (m : Int) + 1) (hs : m / W ≠ s) : srt W (zs.take (k + 1)) s = srt W (zs.take k) s := by
  rw [take_next h, srt_snoc, hz, addId, Int.add_sub_cancel, Int.toNat_natCast, upd, if_neg (fun e => hs e.symm)]
theorem idsG {w : World} {v : Value} {zs : List Int} (h : IdsAt w v zs) : ∃ a cap, v = .slice a zs.length cap ∧ zs.length ≤ 9223372036854775807 ∧ (0 < zs.length → ∃ bk o, a = some ⟨bk, o, none⟩ ∧ bk < w.heap.size ∧ ∀ j, j < zs.length → w.cell? ⟨bk, o + j, none⟩ = some (.int .i64 (zs[j]?.getD 0))) := by
  rcases h with ⟨a, cap, rfl, rfl⟩ | ⟨bk, o, cap, rfl, hbk, hl, hc⟩
  · exact ⟨a, cap, rfl, by simp, fun h => by simp at h⟩
  · exact ⟨_, cap, rfl, hl, fun _ => ⟨bk, o, rfl, hbk, hc⟩⟩
theorem append_part {W : World} {base k s X : Nat} {u : Value} {xs : List Value} (hr : W.ownsRow base 37 5 u k xs) (hk : k < 1000000) (hbase : base ≤ W.heap.size) :
    ∃ g cap w6, (Builtin.append_ #[23, 23] 23 #[u, .slice (some ⟨W.heap.size, 0, none⟩) 1 1]).run Tryd.prog (W.alloc (.cells (pcl s X).toArray 37)) = .ok (.slice (some ⟨g, 0, none⟩) (k + 1) cap) w6 ∧
      w6.ownsRow base 37 5 (.slice (some ⟨g, 0, none⟩) (k + 1) cap) (k + 1) (xs ++ pcl s X) ∧ Below base W w6 := by
  obtain ⟨i0, hi, hz0, hz1, hz2⟩ := info_parts infoPart
  obtain ⟨g, cap, w6, hrun, hown, hgrow, _, _⟩ := run_append_lies (P := Tryd.prog) (W.alloc (.cells (pcl s X).toArray 37)) 23 23 base 37 i0 _ 5 40 Tryd.underlying23 hi hz0 hz1 hz2 rfl (by decide) u k xs (hr.alloc _) ⟨W.heap.size, 0, none⟩ 1 1 (pcl s X) rfl (cell_row_new _ _ _) (by simp [Value.oneCell']) (by omega) (by unfold maxLen; omega) (by omega) (by simp; omega) (W.heap.size + 1) (by simp)
  exact ⟨g, cap, w6, hrun, hown, row_grows hr hgrow hbase⟩

set_option maxRecDepth 100000 in
set_option maxHeartbeats 2000000 in
theorem rsplit_right {zs : List Int} {v : Value} {W : Nat} (hW : IsW W) (hall : allIds zs) {w : World} (hv : IdsAt w v zs) :
    Calls Tryd.prog 6 #[v, .int .i64 W] w fun e w' =>
      (((setsOf (srt W zs)).length ≤ 4 ∧ ∃ pv, e = .returned (.tuple #[pv, .int .i64 ((setsOf (srt W zs)).length : Nat), .int .i64 0]) ∧ w'.ownsRow w.heap.size 37 5 pv (setsOf (srt W zs)).length (pcls (srt W zs) (setsOf (srt W zs)))) ∨
        (4 < (setsOf (srt W zs)).length ∧ e = .returned (.tuple #[.slice none 0 0, .int .i64 ((setsOf (srt W zs)).length : Nat), .int .i64 10]))) ∧ Below w.heap.size w w' := by
  obtain ⟨a, cap, rfl, hlen, hat⟩ := idsG hv
  have Ha := hidIn hat
  have Hall := hidIn hall
  have Hf := hidIn (srt_lt hW zs)
  have hWb := isW_pos hW
  clear hat hall hv
  go_enter Tryd.func6, Tryd.ntmps6
  go_wp2_with (go_at_call 15; refine (rwidth_yes W hW _).mono ?_; rintro e w1 ⟨rfl, hw1⟩; rw [hw1]; clear hw1 w1)
  go_loopw [7] (fun i wr => wr = w ∧ ∃ k : Nat, k ≤ zs.length ∧ i = .int .i64 k) (fun i _ => zs.length - (intOf i).toNat)
  case atStart => exact ⟨rfl, 0, Nat.zero_le _, rfl⟩
  case round =>
    obtain ⟨hwr, k, hk, rfl⟩ := hrel
    rw [hwr]
    clear hwr
    by_cases hlt : k < zs.length
    · obtain ⟨bk, o, rfl, hbk, hcell⟩ := Ha.out (by omega)
      have hc := hcell k hlt
      have hg := Hall.out (zs[k]?.getD 0) (by rw [List.getElem?_eq_getElem hlt]; simp)
      generalize zs[k]?.getD 0 = z at hc hg
      clear hcell
      go_wp2_with (go_at_call 16; refine (risId_yes z hg.1 hg.2 _).mono ?_; rintro e w1 ⟨rfl, hw1⟩; rw [hw1]; clear hw1 w1)
      go_roundw
      case rel => exact ⟨trivial, k + 1, by omega, by go_num⟩
      case measure => simp [intOf]; omega
    · have hle : ¬ ((k : Int) < (zs.length : Int)) := by omega
      go_wp2
      obtain ⟨f, hf⟩ : ∃ f, srt W zs = f := ⟨_, rfl⟩
      have HZ : Hid (∀ ys, ys = zs → srt W ys = f) := hidIn (by rintro _ rfl; exact hf)
      have Hlt : Hid (∀ s, f s < 2 ^ 256) := hidIn (by rw [← hf]; exact Hf.out)
      rw [hf] at *
      clear hf
      go_loopw [8, 9] (fun u i wr => ∃ s : Nat, s ≤ 128 ∧ i = .int .i64 s ∧ wr.ownsRow w.heap.size 37 5 u (upto f s).length (pcls f (upto f s)) ∧ Below w.heap.size w wr) (fun _ i _ => 128 - (intOf i).toNat)
      case atStart => exact ⟨0, by omega, rfl, World.ownsRow_nil _ _ _ _, Below.refl _ _⟩
      case round =>
        obtain ⟨s, hs, rfl, hr, hbel⟩ := hrel
        obtain ⟨ua, ucap, rfl⟩ := row_shape hr
        obtain ⟨wo, hwo⟩ : ∃ wo, wo = wr := ⟨_, rfl⟩
        subst hwo
        have hsw := hbel.size
        by_cases hlt2 : s < 128
        · have hlt2' : (s : Int) < 128 := by omega
          have hP0 := ptW_new wo s
          have bP : Below wo.heap.size wo (wo.alloc (.cells #[.int .i64 (s : Int), .int .u64 0, .int .u64 0, .int .u64 0, .int .u64 0] 37)) := (Below.refl _ wo).alloc (Nat.le_refl _) _
          go_wp2
          go_loopw [11] (fun i wz => ∃ j : Nat, j ≤ zs.length ∧ i = .int .i64 j ∧ PtW wz wo.heap.size s (srt W (zs.take j) s) ∧ Below wo.heap.size wo wz ∧ wo.heap.size < wz.heap.size) (fun i _ => zs.length - (intOf i).toNat)
          case atStart => exact ⟨0, Nat.zero_le _, rfl, hP0, bP, by simp⟩
          case round =>
            obtain ⟨j, hj, rfl, hP, hbz, hsz⟩ := hrel
            by_cases hlt3 : j < zs.length
            · obtain ⟨bk, o, rfl, hbk, hcell⟩ := Ha.out (by omega)
              have hc := ((hbel.trans (hbz.mono hsw)).cell (p := ⟨bk, o + j, none⟩) hbk).trans (hcell j hlt3)
              obtain ⟨m, hm, hzm⟩ : ∃ m : Nat, m < 1024 ∧ zs[j]?.getD 0 = (m : Int) + 1 := by
                have h1 := Hall.out (zs[j]?.getD 0) (by rw [List.getElem?_eq_getElem hlt3]; simp)
                exact ⟨(zs[j]?.getD 0 - 1).toNat, by omega, by omega⟩
              rw [hzm] at hc
              have Hpl := hidIn (fun w' => rplace_yes m W hm hW w')
              have hr2 : m % W < 256 := by have := Nat.mod_lt m (show 0 < W by omega); omega
              by_cases hms : m / W = s
              · have HN := hidIn (srt_next_yes (W := W) hlt3 hzm)
                rw [hms] at HN
                have Hpl2 : Hid (∀ w', Calls Tryd.prog 17 #[.int .i64 ((m : Int) + 1), .int .i64 W] w' fun e w'' => e = .returned (.tuple #[.int .i64 (s : Int), .int .i64 (((m % W : Nat) : Int) + 1), .int .i64 0]) ∧ Below w'.heap.size w' w'') := hidIn (by rw [← hms]; exact Hpl.out)
                clear Hpl hcell hzm hms
                generalize srt W (zs.take j) s = X at hP HN
                generalize m % W = R at hr2 HN Hpl2
                have hP1 := hP
                obtain ⟨⟨c0, c1, c2, c3, c4, cL⟩, cf⟩ := hP1
                simp only at c0 c1 c2 c3 c4
                go_wp2_with (first
                  | (go_at_call 17; refine (Hpl2.out _).mono ?_; rintro e w3 ⟨rfl, hb3⟩; have hP3 := hP.keep hb3 cL; have hP3' := hP3; obtain ⟨⟨d0, d1, d2, d3, d4, dL⟩, df⟩ := hP3'; simp only at d0 d1 d2 d3 d4)
                  | (go_at_call 18; refine (put_any X R hr2 _).mono ?_; rintro e w4 ⟨rfl, hb4⟩; have hP4 := hP3.keep hb4 dL; have hP4' := hP4; obtain ⟨⟨e0, e1, e2, e3, e4, eL⟩, ef⟩ := hP4'; simp only at e0 e1 e2 e3 e4; have ef1 := ef 1 (by omega); have ef2 := ef 2 (by omega); have ef3 := ef 3 (by omega); have ef4 := ef 4 (by omega)))
                go_roundw
                case rel => exact ⟨j + 1, by omega, by go_num, by rw [HN.out]; exact hP4.put _, below_putP ((hbz.trans (hb3.mono (by omega))).trans (hb4.mono (by have := hb3.size; omega))) (Nat.le_refl _), by have := hb3.size; have := hb4.size; simp; omega⟩
                case measure => simp [intOf]; omega
              · have HN := hidIn (srt_next_no (W := W) hlt3 hzm hms)
                have hne : ¬ ((m / W : Nat) : Int) = (s : Int) := by omega
                clear hcell hzm hms
                generalize srt W (zs.take j) s = X at hP HN
                generalize m % W = R at hr2 Hpl
                generalize m / W = S0 at hne Hpl
                go_wp2_with (go_at_call 17; refine (Hpl.out _).mono ?_; rintro e w3 ⟨rfl, hb3⟩)
                go_roundw
                case rel => exact ⟨j + 1, by omega, by go_num, by rw [HN.out]; exact hP.keep hb3 (by omega), hbz.trans (hb3.mono (by omega)), by have := hb3.size; omega⟩
                case measure => simp [intOf]; omega
            · have hje : j = zs.length := by omega
              have hle3 : ¬ ((j : Int) < (zs.length : Int)) := by omega
              rw [hje, List.take_length, HZ.out zs rfl] at hP
              clear hje
              have hP1 := hP
              obtain ⟨⟨c0, c1, c2, c3, c4, cL⟩, cf⟩ := hP1
              simp only at c0 c1 c2 c3 c4
              have hq := eq_zero (f s) (Hlt.out s)
              have hrz := row_below hr hbz (Nat.le_refl _)
              have hlu : (upto f s).length ≤ s := by unfold upto; have := List.length_filter_le (fun s => decide (f s ≠ 0)) (List.range s); simpa using this
              by_cases hz : f s = 0
              · have hq' : ∀ w : World, (Op.equalIn 10000 35 (.agg #[.int .u64 (wd (f s) 0), .int .u64 (wd (f s) 1), .int .u64 (wd (f s) 2), .int .u64 (wd (f s) 3)]) (.agg #[.int .u64 0, .int .u64 0, .int .u64 0, .int .u64 0])).run Tryd.prog w = Result.ok true w := fun w => by rw [hq w]; simp [hz]
                have HU := hidIn (upto_no hz)
                clear hq hz
                go_wp2
                go_roundw
                case rel => exact ⟨s + 1, by omega, by go_num, by rw [HU.out]; exact hrz, hbel.trans (hbz.mono hsw)⟩
                case measure => simp [intOf]; omega
              · have hq' : ∀ w : World, (Op.equalIn 10000 35 (.agg #[.int .u64 (wd (f s) 0), .int .u64 (wd (f s) 1), .int .u64 (wd (f s) 2), .int .u64 (wd (f s) 3)]) (.agg #[.int .u64 0, .int .u64 0, .int .u64 0, .int .u64 0])).run Tryd.prog w = Result.ok false w := fun w => by rw [hq w]; simp [hz]
                have HU := hidIn (upto_yes hz)
                clear hq hz
                obtain ⟨g, gcap, w6, hrun, hown, hb6⟩ := append_part (s := s) (X := f s) hrz (by omega) (by omega)
                have HR := hidIn hrun
                clear hrun
                go_wp2_with (refine l_append rfl _ _ 23 rfl HR.out ?_)
                go_roundw
                case rel => exact ⟨s + 1, by omega, by go_num, by rw [HU.out, pcls_snoc, List.length_append, List.length_singleton]; exact hown, (hbel.trans (hbz.mono hsw)).trans hb6⟩
                case measure => simp [intOf]; omega
        · have hse : s = 128 := by omega
          have hle2 : ¬ ((s : Int) < 128) := by omega
          have hr' : wo.ownsRow w.heap.size 37 5 (.slice ua (upto f s).length ucap) (setsOf f).length (pcls f (setsOf f)) := by
            have : upto f s = setsOf f := by rw [hse]; rfl
            rw [this] at hr ⊢
            exact hr
          have Hu : Hid (upto f s = setsOf f) := hidIn (by rw [hse]; rfl)
          rw [Hu.out]
          rw [Hu.out] at hr'
          clear hr hse
          have hn := setsOf_len f
          by_cases h4 : (setsOf f).length ≤ 4
          · have h4' : ¬ (4 : Int) < ((setsOf f).length : Int) := by omega
            go_wp2
            go_returns
            rw [HZ.out zs rfl]
            exact ⟨.inl ⟨h4, _, rfl, hr'⟩, hbel⟩
          · have h4' : (4 : Int) < ((setsOf f).length : Int) := by omega
            go_wp2
            go_returns
            rw [HZ.out zs rfl]
            exact ⟨.inr ⟨by omega, rfl⟩, hbel⟩
end Go.Proofs.YtjcbbifjhoemaaaDoor
