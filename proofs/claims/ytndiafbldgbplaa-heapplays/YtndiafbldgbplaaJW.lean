/- dandelionlaw05.HeapPlays. -/
import Derived.Test.YtndiafbldgbplaaJV
namespace Go.Proofs.Ytndiafbldgbplaa
open Go.RowKit

/-- Acts as an argument. -/
def ActsAt (w : World) (v : Value) (L : List (Int × Th)) : Prop := ∃ a cap, v = .slice a L.length cap ∧ L.length ≤ 9223372036854775807 ∧ (0 < L.length → ∃ bk o, a = some ⟨bk, o, none⟩ ∧ bk < w.heap.size ∧ ∀ j y, L[j]? = some y → w.cell? ⟨bk, o + j * 3, none⟩ = some (.int .i64 y.1) ∧ w.cell? ⟨bk, o + j * 3 + 1, none⟩ = some (.int .i64 y.2.1) ∧ w.cell? ⟨bk, o + j * 3 + 2, none⟩ = some (.int .i64 y.2.2))
set_option maxRecDepth 100000 in
set_option maxHeartbeats 1000000 in
theorem plays_walk {L : List (Int × Th)} {v : Value} {w : World} (hv : ActsAt w v L) :
    Calls Try.prog 3 #[v] w fun e w' => e = .returned (.bool true) ∧ Below w.heap.size w w' := by
  obtain ⟨a, cap, rfl, hbig, ha⟩ := hv
  have Ha := hidIn ha
  have HN := hidIn (new_ok w)
  have HM := hidIn (hpM_new w)
  clear ha
  go_enter Try.func3, Try.ntmps3
  go_wp2_with (go_at_call 8; refine HN.out.mono ?_; rintro e w1 ⟨rfl, hw1⟩; rw [hw1]; clear hw1 w1)
  go_loopw [4, 5] (fun x i wr => ∃ (k : Nat) (q : List Th) (ua : Option Addr) (ucap p : Nat), k ≤ L.length ∧ k ≤ 300 ∧ i = .int .i64 k ∧ x = .slice ua q.length ucap ∧ p ≤ k ∧ q.length ≤ p ∧ Hid (Half w.heap.size w wr (.slice ua q.length ucap) q q p)) (fun _ i _ => 300 - (intOf i).toNat)
  case atStart => exact ⟨0, [], none, 0, 0, Nat.zero_le _, Nat.zero_le _, rfl, rfl, Nat.le_refl _, Nat.le_refl _, hidIn ⟨_, _, HM.out, sim_nil, World.ownsRow_nil _ _ _ _, fun j hj => by simp [Value.ownBlock] at hj, (Below.refl _ w).alloc (Nat.le_refl _) _⟩⟩
  case round =>
    obtain ⟨k, q, ua, ucap, p, hk, hk2, rfl, rfl, hpk, hqp, HH⟩ := hrel
    by_cases hlt : k < L.length ∧ k < 300
    · obtain ⟨hlt1, hlt2⟩ := hlt
      obtain ⟨bk, o, rfl, hbk, hc⟩ := Ha.out (by omega)
      obtain ⟨y, hy⟩ : ∃ y, L[k]? = some y := ⟨L[k], List.getElem?_eq_getElem hlt1⟩
      obtain ⟨c0, c1, c2⟩ := hc k y hy
      obtain ⟨wt, x⟩ := y
      simp only at c0 c1 c2
      have hB := HH.out
      obtain ⟨_, _, hM0, _, hrow0, _, hbel⟩ := hB
      have hT := thsAt_of_row hrow0 rfl
      have HC : Hid (∀ w', Below w.heap.size w w' → w'.cell? ⟨bk, o + k * 3, none⟩ = some (.int .i64 wt) ∧ w'.cell? ⟨bk, o + k * 3 + 1, none⟩ = some (.int .i64 x.1) ∧ w'.cell? ⟨bk, o + k * 3 + 2, none⟩ = some (.int .i64 x.2)) := hidIn fun w' hb' => ⟨(hb'.cell (p := ⟨bk, o + k * 3, none⟩) hbk).trans c0, (hb'.cell (p := ⟨bk, o + k * 3 + 1, none⟩) hbk).trans c1, (hb'.cell (p := ⟨bk, o + k * 3 + 2, none⟩) hbk).trans c2⟩
      have HBw := hidIn hbel
      have hki : (k : Int) < (L.length : Int) := by omega
      have hki2 : (k : Int) < 300 := by omega
      clear hc hy c0 c1 c2 hM0 hbel hrow0
      by_cases hq0 : q = []
      · subst hq0
        have HL := hidIn (least_none hT)
        clear hT
        by_cases hw0 : wt = 0
        · subst hw0
          go_wp2_with (first
            | (go_at_call 10; refine HL.out.mono ?_; rintro e w1 ⟨rfl, hb1⟩; have HH1 := hidIn (HH.out.below hb1); obtain ⟨d0, d1, d2⟩ := HC.out w1 (HBw.out.trans (hb1.mono HBw.out.size)); clear hb1; have HP := hidIn (HH1.out.push x hqp (by omega)))
            | (go_at_call 11; refine HP.out.mono ?_; rintro e w2 ⟨rfl, hbw2, g, cap6, w6, hrun, hH6⟩; have HRun := hidIn hrun; have HH6 := hidIn hH6; have hLn := hH6.lenq; rw [List.length_append, List.length_singleton] at hLn; have HLn := hidIn hLn; obtain ⟨d0', d1', d2'⟩ := HC.out w2 hbw2; clear hrun hH6 hbw2 hLn)
            | (refine l_append rfl _ _ 28 rfl HRun.out ?_; clear HRun)
            | (go_at_call 15; refine HLn.out.mono ?_; rintro e w9 ⟨rfl, hw9⟩; rw [hw9]; clear hw9 w9))
          go_roundw
          case rel => exact ⟨k + 1, [] ++ [x], _, cap6, p + 1, by omega, by omega, by go_num, by rw [List.length_append]; rfl, by omega, by rw [List.length_append]; simp, hidIn (by rw [List.length_append]; exact HH6.out)⟩
          case measure => simp [intOf]; omega
        · by_cases hw1 : wt = 1
          · subst hw1
            have he0 : ∀ w, (Op.equalIn 10000 26 (.agg #[.int .i64 0, .int .i64 0]) (.agg #[.int .i64 0, .int .i64 0])).run Try.prog w = Result.ok true w := eq_same (0, 0)
            go_wp2_with (first
              | (go_at_call 10; refine HL.out.mono ?_; rintro e w1 ⟨rfl, hb1⟩; have HH1 := hidIn (HH.out.below hb1); obtain ⟨d0, d1, d2⟩ := HC.out w1 (HBw.out.trans (hb1.mono HBw.out.size)); clear hb1; have HP := hidIn HH1.out.none.2)
              | (go_at_call 12; refine HP.out.mono ?_; rintro e w2 ⟨rfl, hH2⟩; have HH2 := hidIn (hH2.alloc (.cells #[.int .i64 0, .int .i64 0] 26)); clear hH2))
            have hvb := heap_alloc_new w2 (.cells #[.int .i64 0, .int .i64 0] 26)
            generalize World.alloc w2 _ = V at HH2 hvb ⊢
            have x0 := cell_of_row V w2.heap.size 0 _ _ _ hvb
            have x1 := cell_of_row V w2.heap.size 1 _ _ _ hvb
            simp at x0 x1
            clear hvb
            go_quiet (fail)
            have HLn := hidIn (HH2.out.drewN nq).lenq
            go_wp2_with (first | (go_at_call 15; refine HLn.out.mono ?_; rintro e w9 ⟨rfl, hw9⟩; rw [hw9]; clear hw9 w9))
            go_roundw
            case rel => exact ⟨k + 1, [], ua, ucap, p, by omega, by omega, by go_num, rfl, by omega, by omega, hidIn (HH2.out.drewN _)⟩
            case measure => simp [intOf]; omega
          · have hw0b : (wt == 0) = false := by simp [hw0]
            have hw1b : (wt == 1) = false := by simp [hw1]
            have he0 : ∀ w, (Op.equalIn 10000 26 (.agg #[.int .i64 0, .int .i64 0]) (.agg #[.int .i64 0, .int .i64 0])).run Try.prog w = Result.ok true w := eq_same (0, 0)
            go_wp2_with (first
              | (go_at_call 10; refine HL.out.mono ?_; rintro e w1 ⟨rfl, hb1⟩; have HH1 := hidIn (HH.out.below hb1); obtain ⟨d0, d1, d2⟩ := HC.out w1 (HBw.out.trans (hb1.mono HBw.out.size)); clear hb1; have HP := hidIn HH1.out.none.1)
              | (go_at_call 14; refine HP.out.mono ?_; rintro e w2 ⟨rfl, hH2⟩; have HH2 := hidIn (hH2.alloc (.cells #[.int .i64 0, .int .i64 0] 26)); clear hH2))
            have hvb := heap_alloc_new w2 (.cells #[.int .i64 0, .int .i64 0] 26)
            generalize World.alloc w2 _ = V at HH2 hvb ⊢
            have x0 := cell_of_row V w2.heap.size 0 _ _ _ hvb
            have x1 := cell_of_row V w2.heap.size 1 _ _ _ hvb
            simp at x0 x1
            clear hvb
            go_quiet (fail)
            have HLn := hidIn (HH2.out.drewN nq).lenq
            go_wp2_with (first | (go_at_call 15; refine HLn.out.mono ?_; rintro e w9 ⟨rfl, hw9⟩; rw [hw9]; clear hw9 w9))
            go_roundw
            case rel => exact ⟨k + 1, [], ua, ucap, p, by omega, by omega, by go_num, rfl, by omega, by omega, hidIn (HH2.out.drewN _)⟩
            case measure => simp [intOf]; omega
      · have hq1 : 0 < q.length := List.length_pos_iff.2 hq0
        have HL := hidIn (least_ok hT hq1 (by omega))
        clear hT
        by_cases hw0 : wt = 0
        · subst hw0
          go_wp2_with (first
            | (go_at_call 10; refine HL.out.mono ?_; rintro e w1 ⟨⟨m, rfl, hm⟩, hb1⟩; have HH1 := hidIn (HH.out.below hb1); obtain ⟨d0, d1, d2⟩ := HC.out w1 (HBw.out.trans (hb1.mono HBw.out.size)); clear hb1; have HP := hidIn (HH1.out.push x hqp (by omega)))
            | (go_at_call 11; refine HP.out.mono ?_; rintro e w2 ⟨rfl, hbw2, g, cap6, w6, hrun, hH6⟩; have HRun := hidIn hrun; have HH6 := hidIn hH6; have hLn := hH6.lenq; rw [List.length_append, List.length_singleton] at hLn; have HLn := hidIn hLn; obtain ⟨d0', d1', d2'⟩ := HC.out w2 hbw2; clear hrun hH6 hbw2 hLn)
            | (refine l_append rfl _ _ 28 rfl HRun.out ?_; clear HRun)
            | (go_at_call 15; refine HLn.out.mono ?_; rintro e w9 ⟨rfl, hw9⟩; rw [hw9]; clear hw9 w9))
          go_roundw
          case rel => exact ⟨k + 1, q ++ [x], _, cap6, p + 1, by omega, by omega, by go_num, by rw [List.length_append]; rfl, by omega, by rw [List.length_append]; simp; omega, hidIn (by rw [List.length_append]; exact HH6.out)⟩
          case measure => simp [intOf]; omega
        · by_cases hw1 : wt = 1
          · subst hw1
            go_wp2_with (first
              | (go_at_call 10; refine HL.out.mono ?_; rintro e w1 ⟨⟨m, rfl, hm⟩, hb1⟩; have HH1 := hidIn (HH.out.below hb1); obtain ⟨d0, d1, d2⟩ := HC.out w1 (HBw.out.trans (hb1.mono HBw.out.size)); clear hb1; obtain ⟨y, hy, hP⟩ := HH1.out.pop (by omega) hm; have HP := hidIn hP; have HY := hidIn hy; have hml := (List.getElem?_eq_some_iff.1 hy).1; clear hP hy)
              | (go_at_call 12; refine HP.out.mono ?_; rintro e w2 ⟨rfl, hH2⟩; have HH2 := hidIn (hH2.alloc (.cells #[.int .i64 y.1, .int .i64 y.2] 26)); clear hH2))
            have hvb := heap_alloc_new w2 (.cells #[.int .i64 y.1, .int .i64 y.2] 26)
            generalize World.alloc w2 _ = V at HH2 hvb ⊢
            have x0 := cell_of_row V w2.heap.size 0 _ _ _ hvb
            have x1 := cell_of_row V w2.heap.size 1 _ _ _ hvb
            simp at x0 x1
            have hrV := HH2.out
            obtain ⟨_, _, _, _, hrV, _, _⟩ := hrV
            obtain ⟨ig, rfl, hic⟩ := row_things hrV hq1
            obtain ⟨i0, i1⟩ := hic m y HY.out
            have he0 : ∀ w, (Op.equalIn 10000 26 (.agg #[.int .i64 y.1, .int .i64 y.2]) (.agg #[.int .i64 y.1, .int .i64 y.2])).run Try.prog w = Result.ok true w := eq_same y
            have hm0 : decide ((0 : Int) ≤ (m : Int)) = true := decide_eq_true (by omega)
            have hmi : (m : Int) < (q.length : Int) := by omega
            clear hvb hic hrV hm
            go_quiet (fail)
            have HWo := hidIn ((HH2.out.drewN nq).without hml (by omega))
            go_wp2_with (first
              | (go_at_call 13; refine HWo.out.mono ?_; rintro e w7 ⟨ub, ubcap, rfl, hH7⟩; have HH7 := hidIn hH7; have HLn := hidIn hH7.lenq; clear hH7)
              | (go_at_call 15; refine HLn.out.mono ?_; rintro e w9 ⟨rfl, hw9⟩; rw [hw9]; clear hw9 w9))
            have hel : (q.eraseIdx m).length = q.length - 1 := by rw [List.length_eraseIdx]; simp [hml]
            go_roundw
            case rel => exact ⟨k + 1, q.eraseIdx m, ub, ubcap, p, by omega, by omega, by go_num, rfl, by omega, by omega, HH7⟩
            case measure => simp [intOf]; omega
          · have hw0b : (wt == 0) = false := by simp [hw0]
            have hw1b : (wt == 1) = false := by simp [hw1]
            go_wp2_with (first
              | (go_at_call 10; refine HL.out.mono ?_; rintro e w1 ⟨⟨m, rfl, hm⟩, hb1⟩; have HH1 := hidIn (HH.out.below hb1); obtain ⟨d0, d1, d2⟩ := HC.out w1 (HBw.out.trans (hb1.mono HBw.out.size)); clear hb1; obtain ⟨y, hy, hP⟩ := HH1.out.peek hm; have HP := hidIn hP; have HY := hidIn hy; have hml := (List.getElem?_eq_some_iff.1 hy).1; clear hP hy)
              | (go_at_call 14; refine HP.out.mono ?_; rintro e w2 ⟨rfl, hH2⟩; have HH2 := hidIn (hH2.alloc (.cells #[.int .i64 y.1, .int .i64 y.2] 26)); clear hH2))
            have hvb := heap_alloc_new w2 (.cells #[.int .i64 y.1, .int .i64 y.2] 26)
            generalize World.alloc w2 _ = V at HH2 hvb ⊢
            have x0 := cell_of_row V w2.heap.size 0 _ _ _ hvb
            have x1 := cell_of_row V w2.heap.size 1 _ _ _ hvb
            simp at x0 x1
            have hrV := HH2.out
            obtain ⟨_, _, _, _, hrV, _, _⟩ := hrV
            obtain ⟨ig, rfl, hic⟩ := row_things hrV hq1
            obtain ⟨i0, i1⟩ := hic m y HY.out
            have he0 : ∀ w, (Op.equalIn 10000 26 (.agg #[.int .i64 y.1, .int .i64 y.2]) (.agg #[.int .i64 y.1, .int .i64 y.2])).run Try.prog w = Result.ok true w := eq_same y
            have hm0 : decide ((0 : Int) ≤ (m : Int)) = true := decide_eq_true (by omega)
            have hmi : (m : Int) < (q.length : Int) := by omega
            clear hvb hic hrV hm
            go_quiet (fail)
            have HLn := hidIn (HH2.out.drewN nq).lenq
            go_wp2_with (first | (go_at_call 15; refine HLn.out.mono ?_; rintro e w9 ⟨rfl, hw9⟩; rw [hw9]; clear hw9 w9))
            go_roundw
            case rel => exact ⟨k + 1, q, _, ucap, p, by omega, by omega, by go_num, rfl, by omega, by omega, hidIn (HH2.out.drewN _)⟩
            case measure => simp [intOf]; omega
    · have HE : Hid (¬ (k < L.length ∧ k < 300)) := hidIn hlt
      have hB := HH.out
      obtain ⟨_, _, _, _, _, _, hbel⟩ := hB
      have HBw := hidIn hbel
      clear hlt hbel
      go_upto_region 6 with fail
      go_cut [21] (fun c wx => c = .bool false ∧ wx = wr)
      case first =>
        by_cases h1 : (k : Int) < (L.length : Int)
        · have h2 : ¬ ((k : Int) < 300) := fun h => HE.out ⟨by omega, by omega⟩
          go_wp2_with fail
          go_meet
          exact ⟨rfl, rfl⟩
        · go_wp2_with fail
          go_meet
          exact ⟨rfl, rfl⟩
      case rest =>
        obtain ⟨rfl, hwc⟩ := hcut
        rw [hwc]
        clear hwc wc HE
        go_wp2_with (go_at_call 16; refine (works_ok _).mono ?_; rintro e w7 ⟨rfl, hb7⟩)
        go_ret
        exact ⟨rfl, HBw.out.trans (hb7.mono HBw.out.size)⟩
end Go.Proofs.Ytndiafbldgbplaa
