/- header.Hop, With. -/
import Derived.Test.YtgfmlonhjmdfjaaDoorH7
namespace Go.Proofs.YtgfmlonhjmdfjaaDoor
open Go.RowKit

set_option maxRecDepth 100000 in
set_option maxHeartbeats 1000000 in
theorem hop_none (W S E O G I : Int) (N : Nat) (hN : N < 2 ^ 256) (hok : OkH W S 0 O G N) (w : World) (ht : Wid w) :
    Calls Tryd.prog 13 #[hd W S E 0 O G I N] w fun e w' => e = .returned (.tuple #[hd0, .int .i64 6]) ∧ Below w.heap.size w w' := by
  have HC := hidIn (check_ok W S E 0 O G I N hN hok)
  clear hok
  go_enter Tryd.func13, Tryd.ntmps13
  go_wp2_with fail
  refine (HC.out _ (ht.keep (by go_grown))).mono ?_
  rintro e w1 ⟨rfl, hb1⟩
  have hB1 : Below w.heap.size w w1 := (((Below.refl _ w).alloc (Nat.le_refl _) _).alloc (by simp) _).trans (hb1.mono (by simp; omega))
  have hn0 := (hasHd_zero (w.alloc (hob W S E 0 O G I N))).keep hb1 (by simp)
  have hn1 := ((hasHd_new w W S E 0 O G I N).keep (w' := (w.alloc (hob W S E 0 O G I N)).alloc hob0) (B := w.heap.size + 1) (by go_grown) (Nat.lt_succ_self _)).keep hb1 (by simp; omega)
  simp only [World.size_alloc] at hn0
  obtain ⟨c0, c1, c2, c3, c4, c5, c6, c7, c8, c9, ca, f0, f1, f2, f3, f4, f5, f6, f7, f8, f9, fa, lt⟩ := hn0
  obtain ⟨d0, d1, d2, d3, d4, d5, d6, d7, d8, d9, da, g0, g1, g2, g3, g4, g5, g6, g7, g8, g9, ga, lt'⟩ := hn1
  clear hb1 HC
  go_wp2
  refine bodyPost_ret (v := .tuple #[hd0, .int .i64 6]) ?_ rfl ⟨rfl, below_putHd hB1 (Nat.le_succ _) _ _ _ _ _ _ _ _ _ _ _⟩
  simp [results, Tryd.results13, go_sem, *]
set_option maxRecDepth 100000 in
set_option maxHeartbeats 1000000 in
theorem hop_ok (W S E H O G I : Int) (N : Nat) (hN : N < 2 ^ 256) (hok : OkH W S H O G N) (hH : 1 ≤ H) (w : World) (ht : Wid w) :
    Calls Tryd.prog 13 #[hd W S E H O G I N] w fun e w' => e = .returned (.tuple #[hd W S E (H - 1) O G I N, .int .i64 0]) ∧ Below w.heap.size w w' := by
  have HC := hidIn (check_ok W S E H O G I N hN hok)
  have hH15 : H ≤ 15 := hok.2.2.2.1.2
  have hz : (H == 0) = false := beq_eq_false_iff_ne.2 (by omega)
  clear hok
  go_enter Tryd.func13, Tryd.ntmps13
  go_wp2_with fail
  refine (HC.out _ (ht.keep (by go_grown))).mono ?_
  rintro e w1 ⟨rfl, hb1⟩
  have hB1 : Below w.heap.size w w1 := (((Below.refl _ w).alloc (Nat.le_refl _) _).alloc (by simp) _).trans (hb1.mono (by simp; omega))
  have hn0 := (hasHd_zero (w.alloc (hob W S E H O G I N))).keep hb1 (by simp)
  have hn1 := ((hasHd_new w W S E H O G I N).keep (w' := (w.alloc (hob W S E H O G I N)).alloc hob0) (B := w.heap.size + 1) (by go_grown) (Nat.lt_succ_self _)).keep hb1 (by simp; omega)
  simp only [World.size_alloc] at hn0
  obtain ⟨c0, c1, c2, c3, c4, c5, c6, c7, c8, c9, ca, f0, f1, f2, f3, f4, f5, f6, f7, f8, f9, fa, lt⟩ := hn0
  obtain ⟨d0, d1, d2, d3, d4, d5, d6, d7, d8, d9, da, g0, g1, g2, g3, g4, g5, g6, g7, g8, g9, ga, lt'⟩ := hn1
  clear hb1 HC
  go_wp2
  refine bodyPost_ret (v := .tuple #[hd W S E (H - 1) O G I N, .int .i64 0]) ?_ rfl ⟨rfl, below_putHd (hB1.setCell (p := ⟨w.heap.size, 3, none⟩) (Nat.le_refl _) _) (Nat.le_succ _) _ _ _ _ _ _ _ _ _ _ _⟩
  simp [results, Tryd.results13, go_sem, *]
set_option maxRecDepth 100000 in
set_option maxHeartbeats 1000000 in
theorem with_bad (W S E H O G I : Int) (N M : Nat) (hN : N < 2 ^ 256) (hok : ¬ OkH W S H O G N) (w : World) (ht : Wid w) :
    Calls Tryd.prog 15 #[hd W S E H O G I N, bs M] w fun e w' => e = .returned (.tuple #[hd0, .int .i64 2]) ∧ Below w.heap.size w w' := by
  have HC := hidIn (check_bad W S E H O G I N hN hok)
  clear hok
  unfold bs
  go_enter Tryd.func15, Tryd.ntmps15
  go_wp2_with fail
  refine (HC.out _ (ht.keep (by go_grown))).mono ?_
  rintro e w1 ⟨rfl, hb1⟩
  have hB1 : Below w.heap.size w w1 := ((((Below.refl _ w).alloc (Nat.le_refl _) _).alloc (by simp) _).alloc (by simp; omega) _).trans (hb1.mono (by simp; omega))
  have hn0 := (hasHd_zero ((w.alloc (hob W S E H O G I N)).alloc (.cells #[.int .u64 (wd M 0), .int .u64 (wd M 1), .int .u64 (wd M 2), .int .u64 (wd M 3)] 25))).keep hb1 (by simp)
  have hn1 := ((hasHd_new w W S E H O G I N).keep (w' := ((w.alloc (hob W S E H O G I N)).alloc (.cells #[.int .u64 (wd M 0), .int .u64 (wd M 1), .int .u64 (wd M 2), .int .u64 (wd M 3)] 25)).alloc hob0) (B := w.heap.size + 1) (by go_grown) (Nat.lt_succ_self _)).keep hb1 (by simp; omega)
  have hn2 := ((hasBs_new (w.alloc (hob W S E H O G I N)) M).keep (W' := ((w.alloc (hob W S E H O G I N)).alloc (.cells #[.int .u64 (wd M 0), .int .u64 (wd M 1), .int .u64 (wd M 2), .int .u64 (wd M 3)] 25)).alloc hob0) (B := w.heap.size + 2) (by go_grown) (by simp)).keep hb1 (by simp)
  simp only [World.size_alloc] at hn0 hn2
  clear hb1 HC
  obtain ⟨c0, c1, c2, c3, c4, c5, c6, c7, c8, c9, ca, f0, f1, f2, f3, f4, f5, f6, f7, f8, f9, fa, lt⟩ := hn0
  obtain ⟨d0, d1, d2, d3, d4, d5, d6, d7, d8, d9, da, g0, g1, g2, g3, g4, g5, g6, g7, g8, g9, ga, lt'⟩ := hn1
  obtain ⟨b0, b1, b2, b3, p0, p1, p2, p3, ltb⟩ := hn2
  go_wp2
  refine bodyPost_ret (v := .tuple #[hd0, .int .i64 2]) ?_ rfl ⟨rfl, below_putHd hB1 (by omega) _ _ _ _ _ _ _ _ _ _ _⟩
  simp [results, Tryd.results15, go_sem, *]
set_option maxRecDepth 100000 in
set_option maxHeartbeats 1000000 in
theorem with_long (W S E H O G I : Int) (N M : Nat) (hN : N < 2 ^ 256) (hM : M < 2 ^ 256) (hok : OkH W S H O G N) (hl : W < (bl M : Int)) (w : World) (ht : Wid w) :
    Calls Tryd.prog 15 #[hd W S E H O G I N, bs M] w fun e w' => e = .returned (.tuple #[hd0, .int .i64 3]) ∧ Below w.heap.size w w' := by
  have HC := hidIn (check_ok W S E H O G I N hN hok)
  have hW0 : 0 ≤ W := by have := hok.1; unfold IsW at this; omega
  have hW1 : W ≤ 256 := by have := hok.1; unfold IsW at this; omega
  clear hok
  unfold bs
  go_enter Tryd.func15, Tryd.ntmps15
  go_wp2_with fail
  refine (HC.out _ (ht.keep (by go_grown))).mono ?_
  rintro e w1 ⟨rfl, hb1⟩
  have hB1 : Below w.heap.size w w1 := ((((Below.refl _ w).alloc (Nat.le_refl _) _).alloc (by simp) _).alloc (by simp; omega) _).trans (hb1.mono (by simp; omega))
  have hn0 := (hasHd_zero ((w.alloc (hob W S E H O G I N)).alloc (.cells #[.int .u64 (wd M 0), .int .u64 (wd M 1), .int .u64 (wd M 2), .int .u64 (wd M 3)] 25))).keep hb1 (by simp)
  have hn1 := ((hasHd_new w W S E H O G I N).keep (w' := ((w.alloc (hob W S E H O G I N)).alloc (.cells #[.int .u64 (wd M 0), .int .u64 (wd M 1), .int .u64 (wd M 2), .int .u64 (wd M 3)] 25)).alloc hob0) (B := w.heap.size + 1) (by go_grown) (Nat.lt_succ_self _)).keep hb1 (by simp; omega)
  have hn2 := ((hasBs_new (w.alloc (hob W S E H O G I N)) M).keep (W' := ((w.alloc (hob W S E H O G I N)).alloc (.cells #[.int .u64 (wd M 0), .int .u64 (wd M 1), .int .u64 (wd M 2), .int .u64 (wd M 3)] 25)).alloc hob0) (B := w.heap.size + 2) (by go_grown) (by simp)).keep hb1 (by simp)
  simp only [World.size_alloc] at hn0 hn2
  clear hb1 HC
  have d0' := hn1.c0
  have e0 := hn2.c0
  have e1 := hn2.c1
  have e2 := hn2.c2
  have e3 := hn2.c3
  go_wp2_with fail
  refine (below_no M hM W (by omega) _).mono ?_
  rintro e w2 ⟨rfl, hb2⟩
  have hB2 : Below w.heap.size w w2 := hB1.trans (hb2.mono hB1.size)
  replace hn0 := hn0.keep hb2 hn0.lt
  replace hn1 := hn1.keep hb2 hn1.lt
  replace hn2 := hn2.keep hb2 hn2.lt
  clear hb2 hB1 d0' e0 e1 e2 e3
  obtain ⟨c0, c1, c2, c3, c4, c5, c6, c7, c8, c9, ca, f0, f1, f2, f3, f4, f5, f6, f7, f8, f9, fa, lt⟩ := hn0
  obtain ⟨d0, d1, d2, d3, d4, d5, d6, d7, d8, d9, da, g0, g1, g2, g3, g4, g5, g6, g7, g8, g9, ga, lt'⟩ := hn1
  obtain ⟨b0, b1, b2, b3, p0, p1, p2, p3, ltb⟩ := hn2
  go_wp2
  refine bodyPost_ret (v := .tuple #[hd0, .int .i64 3]) ?_ rfl ⟨rfl, below_putHd hB2 (by omega) _ _ _ _ _ _ _ _ _ _ _⟩
  simp [results, Tryd.results15, go_sem, *]
set_option maxRecDepth 100000 in
set_option maxHeartbeats 1000000 in
theorem with_ok (W S E H O G I : Int) (N M : Nat) (hN : N < 2 ^ 256) (hM : M < 2 ^ 256) (hok : OkH W S H O G N) (hl : (bl M : Int) ≤ W) (w : World) (ht : Wid w) :
    Calls Tryd.prog 15 #[hd W S E H O G I N, bs M] w fun e w' => e = .returned (.tuple #[hd W S E H O G I M, .int .i64 0]) ∧ Below w.heap.size w w' := by
  have HC := hidIn (check_ok W S E H O G I N hN hok)
  have hW0 : 0 ≤ W := by have := hok.1; unfold IsW at this; omega
  have hW1 : W ≤ 256 := by have := hok.1; unfold IsW at this; omega
  clear hok
  unfold bs
  go_enter Tryd.func15, Tryd.ntmps15
  go_wp2_with fail
  refine (HC.out _ (ht.keep (by go_grown))).mono ?_
  rintro e w1 ⟨rfl, hb1⟩
  have hB1 : Below w.heap.size w w1 := ((((Below.refl _ w).alloc (Nat.le_refl _) _).alloc (by simp) _).alloc (by simp; omega) _).trans (hb1.mono (by simp; omega))
  have hn0 := (hasHd_zero ((w.alloc (hob W S E H O G I N)).alloc (.cells #[.int .u64 (wd M 0), .int .u64 (wd M 1), .int .u64 (wd M 2), .int .u64 (wd M 3)] 25))).keep hb1 (by simp)
  have hn1 := ((hasHd_new w W S E H O G I N).keep (w' := ((w.alloc (hob W S E H O G I N)).alloc (.cells #[.int .u64 (wd M 0), .int .u64 (wd M 1), .int .u64 (wd M 2), .int .u64 (wd M 3)] 25)).alloc hob0) (B := w.heap.size + 1) (by go_grown) (Nat.lt_succ_self _)).keep hb1 (by simp; omega)
  have hn2 := ((hasBs_new (w.alloc (hob W S E H O G I N)) M).keep (W' := ((w.alloc (hob W S E H O G I N)).alloc (.cells #[.int .u64 (wd M 0), .int .u64 (wd M 1), .int .u64 (wd M 2), .int .u64 (wd M 3)] 25)).alloc hob0) (B := w.heap.size + 2) (by go_grown) (by simp)).keep hb1 (by simp)
  simp only [World.size_alloc] at hn0 hn2
  clear hb1 HC
  have d0' := hn1.c0
  have e0 := hn2.c0
  have e1 := hn2.c1
  have e2 := hn2.c2
  have e3 := hn2.c3
  go_wp2_with fail
  refine (below_yes M hM W hW0 hW1 hl _).mono ?_
  rintro e w2 ⟨rfl, hb2⟩
  have hB2 : Below w.heap.size w w2 := hB1.trans (hb2.mono hB1.size)
  replace hn0 := hn0.keep hb2 hn0.lt
  replace hn1 := hn1.keep hb2 hn1.lt
  replace hn2 := hn2.keep hb2 hn2.lt
  clear hb2 hB1 d0' e0 e1 e2 e3
  obtain ⟨c0, c1, c2, c3, c4, c5, c6, c7, c8, c9, ca, f0, f1, f2, f3, f4, f5, f6, f7, f8, f9, fa, lt⟩ := hn0
  obtain ⟨d0, d1, d2, d3, d4, d5, d6, d7, d8, d9, da, g0, g1, g2, g3, g4, g5, g6, g7, g8, g9, ga, lt'⟩ := hn1
  obtain ⟨b0, b1, b2, b3, p0, p1, p2, p3, ltb⟩ := hn2
  go_wp2
  refine bodyPost_ret (v := .tuple #[hd W S E H O G I M, .int .i64 0]) ?_ rfl ⟨rfl, below_putHd ((((hB2.setCell (p := ⟨w.heap.size, 7, none⟩) (Nat.le_refl _) _).setCell (p := ⟨w.heap.size, 8, none⟩) (Nat.le_refl _) _).setCell (p := ⟨w.heap.size, 9, none⟩) (Nat.le_refl _) _).setCell (p := ⟨w.heap.size, 10, none⟩) (Nat.le_refl _) _) (by omega) _ _ _ _ _ _ _ _ _ _ _⟩
  simp [results, Tryd.results15, go_sem, *]
end Go.Proofs.YtgfmlonhjmdfjaaDoor
