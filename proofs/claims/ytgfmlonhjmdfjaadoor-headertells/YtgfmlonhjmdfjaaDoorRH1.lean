/- The document's answers: code, Wide, Size, Check, number. -/
import Derived.Test.YtgfmlonhjmdfjaaDoorH13
import Derived.Test.YtgfmlonhjmdfjaaDoorRY
namespace Go.Proofs.YtgfmlonhjmdfjaaDoor
open Go.RowKit

set_option maxHeartbeats 1000000 in
theorem rcode_yes (W : Int) (h : IsW W) (w : World) :
    Calls Tryd.prog 24 #[.int .i64 W] w fun e w' => e = .returned (.int .i64 (cOf W)) ∧ w' = w := by
  unfold IsW at h
  rcases h with rfl | rfl | rfl | rfl | rfl | rfl
  all_goals
    go_enter Tryd.func24, Tryd.ntmps24
    go_wp2
    go_rounds 7
    go_ret
    exact ⟨rfl, rfl⟩
set_option maxHeartbeats 1000000 in
theorem rcode_no (W : Int) (h : ¬ IsW W) (w : World) :
    Calls Tryd.prog 24 #[.int .i64 W] w fun e w' => e = .returned (.int .i64 (-1)) ∧ w' = w := by
  unfold IsW at h
  have e0 : ((8 : Int) == W) = false := beq_eq_false_iff_ne.2 (by omega)
  have e1 : ((16 : Int) == W) = false := beq_eq_false_iff_ne.2 (by omega)
  have e2 : ((32 : Int) == W) = false := beq_eq_false_iff_ne.2 (by omega)
  have e3 : ((64 : Int) == W) = false := beq_eq_false_iff_ne.2 (by omega)
  have e4 : ((128 : Int) == W) = false := beq_eq_false_iff_ne.2 (by omega)
  have e5 : ((256 : Int) == W) = false := beq_eq_false_iff_ne.2 (by omega)
  clear h
  go_enter Tryd.func24, Tryd.ntmps24
  go_wp2
  go_rounds 7
  go_ret
  exact ⟨rfl, rfl⟩
set_option maxHeartbeats 400000 in
theorem rwide_yes (W : Int) (h : IsW W) (w : World) :
    Calls Tryd.prog 8 #[.int .i64 W] w fun e w' => e = .returned (.bool true) ∧ w' = w := by
  have hc := (cOf_bd W).1
  go_enter Tryd.func8, Tryd.ntmps8
  go_wp2_with (go_at_call 24; refine (rcode_yes W h _).mono ?_; rintro e w' ⟨rfl, rfl⟩)
  go_ret
  exact ⟨by simp, rfl⟩
set_option maxHeartbeats 400000 in
theorem rwide_no (W : Int) (h : ¬ IsW W) (w : World) :
    Calls Tryd.prog 8 #[.int .i64 W] w fun e w' => e = .returned (.bool false) ∧ w' = w := by
  go_enter Tryd.func8, Tryd.ntmps8
  go_wp2_with (go_at_call 24; refine (rcode_no W h _).mono ?_; rintro e w' ⟨rfl, rfl⟩)
  go_ret
  exact ⟨rfl, rfl⟩
set_option maxHeartbeats 400000 in
theorem rsize_yes (W : Int) (h : IsW W) (w : World) :
    Calls Tryd.prog 10 #[.int .i64 W] w fun e w' => e = .returned (.tuple #[.int .i64 (15 + W / 8), .int .i64 0]) ∧ w' = w := by
  have hb : 8 ≤ W ∧ W ≤ 256 := by unfold IsW at h; omega
  obtain ⟨hb1, hb2⟩ := hb
  go_enter Tryd.func10, Tryd.ntmps10
  go_wp2_with (go_at_call 8; refine (rwide_yes W h _).mono ?_; rintro e w' ⟨rfl, rfl⟩)
  go_ret2
  exact ⟨rfl, rfl⟩
set_option maxHeartbeats 400000 in
theorem rsize_no (W : Int) (h : ¬ IsW W) (w : World) :
    Calls Tryd.prog 10 #[.int .i64 W] w fun e w' => e = .returned (.tuple #[.int .i64 0, .int .i64 2]) ∧ w' = w := by
  go_enter Tryd.func10, Tryd.ntmps10
  go_wp2_with (go_at_call 8; refine (rwide_no W h _).mono ?_; rintro e w' ⟨rfl, rfl⟩)
  go_ret2
  exact ⟨rfl, rfl⟩
set_option maxRecDepth 100000 in
set_option maxHeartbeats 1000000 in
theorem rcheck_w (W S E H O G I : Int) (N : Nat) (h : ¬ IsW W) (w : World) :
    Calls Tryd.prog 6 #[hd W S E H O G I N] w fun e w' => e = .returned (.int .i64 2) ∧ Below w.heap.size w w' := by
  go_enter Tryd.func6, Tryd.ntmps6
  go_wp2_with fail
  refine (rwide_no W h _).mono ?_
  rintro e w1 ⟨rfl, hw⟩
  replace hw := hw.symm
  subst hw
  go_wp2
  go_ret
  exact ⟨rfl, by go_grown⟩
set_option maxRecDepth 100000 in
set_option maxHeartbeats 1000000 in
theorem rcheck_0 (W S E H O G I : Int) (N : Nat) (h : IsW W)  (b0 : S < 0) (w : World) :
    Calls Tryd.prog 6 #[hd W S E H O G I N] w fun e w' => e = .returned (.int .i64 2) ∧ Below w.heap.size w w' := by
  have d0 : decide (S < 0) = true := by simpa using b0
  clear  b0
  go_enter Tryd.func6, Tryd.ntmps6
  go_wp2_with fail
  refine (rwide_yes W h _).mono ?_
  rintro e w1 ⟨rfl, hw⟩
  replace hw := hw.symm
  subst hw
  go_wp2
  go_ret
  exact ⟨rfl, by go_grown⟩
set_option maxRecDepth 100000 in
set_option maxHeartbeats 1000000 in
theorem rcheck_1 (W S E H O G I : Int) (N : Nat) (h : IsW W) (g0 : 0 ≤ S) (b1 : 128 ≤ S) (w : World) :
    Calls Tryd.prog 6 #[hd W S E H O G I N] w fun e w' => e = .returned (.int .i64 2) ∧ Below w.heap.size w w' := by
  have d0 : decide (S < 0) = false := by simp; omega
  have d1 : decide (128 ≤ S) = true := by simpa using b1
  clear g0 b1
  go_enter Tryd.func6, Tryd.ntmps6
  go_wp2_with fail
  refine (rwide_yes W h _).mono ?_
  rintro e w1 ⟨rfl, hw⟩
  replace hw := hw.symm
  subst hw
  go_wp2
  go_ret
  exact ⟨rfl, by go_grown⟩
set_option maxRecDepth 100000 in
set_option maxHeartbeats 1000000 in
theorem rcheck_2 (W S E H O G I : Int) (N : Nat) (h : IsW W) (g0 : 0 ≤ S) (g1 : S < 128) (b2 : H < 0) (w : World) :
    Calls Tryd.prog 6 #[hd W S E H O G I N] w fun e w' => e = .returned (.int .i64 2) ∧ Below w.heap.size w w' := by
  have d0 : decide (S < 0) = false := by simp; omega
  have d1 : decide (128 ≤ S) = false := by simp; omega
  have d2 : decide (H < 0) = true := by simpa using b2
  clear g0 g1 b2
  go_enter Tryd.func6, Tryd.ntmps6
  go_wp2_with fail
  refine (rwide_yes W h _).mono ?_
  rintro e w1 ⟨rfl, hw⟩
  replace hw := hw.symm
  subst hw
  go_wp2
  go_ret
  exact ⟨rfl, by go_grown⟩
set_option maxRecDepth 100000 in
set_option maxHeartbeats 1000000 in
theorem rcheck_3 (W S E H O G I : Int) (N : Nat) (h : IsW W) (g0 : 0 ≤ S) (g1 : S < 128) (g2 : 0 ≤ H) (b3 : 15 < H) (w : World) :
    Calls Tryd.prog 6 #[hd W S E H O G I N] w fun e w' => e = .returned (.int .i64 2) ∧ Below w.heap.size w w' := by
  have d0 : decide (S < 0) = false := by simp; omega
  have d1 : decide (128 ≤ S) = false := by simp; omega
  have d2 : decide (H < 0) = false := by simp; omega
  have d3 : decide (15 < H) = true := by simpa using b3
  clear g0 g1 g2 b3
  go_enter Tryd.func6, Tryd.ntmps6
  go_wp2_with fail
  refine (rwide_yes W h _).mono ?_
  rintro e w1 ⟨rfl, hw⟩
  replace hw := hw.symm
  subst hw
  go_wp2
  go_ret
  exact ⟨rfl, by go_grown⟩
set_option maxRecDepth 100000 in
set_option maxHeartbeats 1000000 in
theorem rcheck_4 (W S E H O G I : Int) (N : Nat) (h : IsW W) (g0 : 0 ≤ S) (g1 : S < 128) (g2 : 0 ≤ H) (g3 : H ≤ 15) (b4 : O < 1) (w : World) :
    Calls Tryd.prog 6 #[hd W S E H O G I N] w fun e w' => e = .returned (.int .i64 2) ∧ Below w.heap.size w w' := by
  have d0 : decide (S < 0) = false := by simp; omega
  have d1 : decide (128 ≤ S) = false := by simp; omega
  have d2 : decide (H < 0) = false := by simp; omega
  have d3 : decide (15 < H) = false := by simp; omega
  have d4 : decide (O < 1) = true := by simpa using b4
  clear g0 g1 g2 g3 b4
  go_enter Tryd.func6, Tryd.ntmps6
  go_wp2_with fail
  refine (rwide_yes W h _).mono ?_
  rintro e w1 ⟨rfl, hw⟩
  replace hw := hw.symm
  subst hw
  go_wp2
  go_ret
  exact ⟨rfl, by go_grown⟩
set_option maxRecDepth 100000 in
set_option maxHeartbeats 1000000 in
theorem rcheck_5 (W S E H O G I : Int) (N : Nat) (h : IsW W) (g0 : 0 ≤ S) (g1 : S < 128) (g2 : 0 ≤ H) (g3 : H ≤ 15) (g4 : 1 ≤ O) (b5 : 24 < O) (w : World) :
    Calls Tryd.prog 6 #[hd W S E H O G I N] w fun e w' => e = .returned (.int .i64 2) ∧ Below w.heap.size w w' := by
  have d0 : decide (S < 0) = false := by simp; omega
  have d1 : decide (128 ≤ S) = false := by simp; omega
  have d2 : decide (H < 0) = false := by simp; omega
  have d3 : decide (15 < H) = false := by simp; omega
  have d4 : decide (O < 1) = false := by simp; omega
  have d5 : decide (24 < O) = true := by simpa using b5
  clear g0 g1 g2 g3 g4 b5
  go_enter Tryd.func6, Tryd.ntmps6
  go_wp2_with fail
  refine (rwide_yes W h _).mono ?_
  rintro e w1 ⟨rfl, hw⟩
  replace hw := hw.symm
  subst hw
  go_wp2
  go_ret
  exact ⟨rfl, by go_grown⟩
set_option maxRecDepth 100000 in
set_option maxHeartbeats 1000000 in
theorem rcheck_6 (W S E H O G I : Int) (N : Nat) (h : IsW W) (g0 : 0 ≤ S) (g1 : S < 128) (g2 : 0 ≤ H) (g3 : H ≤ 15) (g4 : 1 ≤ O) (g5 : O ≤ 24) (b6 : G < 0) (w : World) :
    Calls Tryd.prog 6 #[hd W S E H O G I N] w fun e w' => e = .returned (.int .i64 2) ∧ Below w.heap.size w w' := by
  have d0 : decide (S < 0) = false := by simp; omega
  have d1 : decide (128 ≤ S) = false := by simp; omega
  have d2 : decide (H < 0) = false := by simp; omega
  have d3 : decide (15 < H) = false := by simp; omega
  have d4 : decide (O < 1) = false := by simp; omega
  have d5 : decide (24 < O) = false := by simp; omega
  have d6 : decide (G < 0) = true := by simpa using b6
  clear g0 g1 g2 g3 g4 g5 b6
  go_enter Tryd.func6, Tryd.ntmps6
  go_wp2_with fail
  refine (rwide_yes W h _).mono ?_
  rintro e w1 ⟨rfl, hw⟩
  replace hw := hw.symm
  subst hw
  go_wp2
  go_ret
  exact ⟨rfl, by go_grown⟩
set_option maxRecDepth 100000 in
set_option maxHeartbeats 1000000 in
theorem rcheck_7 (W S E H O G I : Int) (N : Nat) (h : IsW W) (g0 : 0 ≤ S) (g1 : S < 128) (g2 : 0 ≤ H) (g3 : H ≤ 15) (g4 : 1 ≤ O) (g5 : O ≤ 24) (g6 : 0 ≤ G) (b7 : 8 ≤ G) (w : World) :
    Calls Tryd.prog 6 #[hd W S E H O G I N] w fun e w' => e = .returned (.int .i64 2) ∧ Below w.heap.size w w' := by
  have d0 : decide (S < 0) = false := by simp; omega
  have d1 : decide (128 ≤ S) = false := by simp; omega
  have d2 : decide (H < 0) = false := by simp; omega
  have d3 : decide (15 < H) = false := by simp; omega
  have d4 : decide (O < 1) = false := by simp; omega
  have d5 : decide (24 < O) = false := by simp; omega
  have d6 : decide (G < 0) = false := by simp; omega
  have d7 : decide (8 ≤ G) = true := by simpa using b7
  clear g0 g1 g2 g3 g4 g5 g6 b7
  go_enter Tryd.func6, Tryd.ntmps6
  go_wp2_with fail
  refine (rwide_yes W h _).mono ?_
  rintro e w1 ⟨rfl, hw⟩
  replace hw := hw.symm
  subst hw
  go_wp2
  go_ret
  exact ⟨rfl, by go_grown⟩
set_option maxRecDepth 100000 in
set_option maxHeartbeats 1000000 in
theorem rcheck_b (W S E H O G I : Int) (N : Nat) (h : IsW W) (g0 : 0 ≤ S) (g1 : S < 128) (g2 : 0 ≤ H) (g3 : H ≤ 15) (g4 : 1 ≤ O) (g5 : O ≤ 24) (g6 : 0 ≤ G) (g7 : G < 8) (hN : N < 2 ^ 256) (hl : W < (bl N : Int)) (w : World) :
    Calls Tryd.prog 6 #[hd W S E H O G I N] w fun e w' => e = .returned (.int .i64 2) ∧ Below w.heap.size w w' := by
  have d0 : decide (S < 0) = false := by simp; omega
  have d1 : decide (128 ≤ S) = false := by simp; omega
  have d2 : decide (H < 0) = false := by simp; omega
  have d3 : decide (15 < H) = false := by simp; omega
  have d4 : decide (O < 1) = false := by simp; omega
  have d5 : decide (24 < O) = false := by simp; omega
  have d6 : decide (G < 0) = false := by simp; omega
  have d7 : decide (8 ≤ G) = false := by simp; omega
  have hW : 8 ≤ W ∧ W ≤ 256 := by unfold IsW at h; omega
  go_enter Tryd.func6, Tryd.ntmps6
  go_wp2_with fail
  refine (rwide_yes W h _).mono ?_
  rintro e w1 ⟨rfl, hw⟩
  replace hw := hw.symm
  subst hw
  clear g0 g1 g2 g3 g4 g5 g6 g7
  go_wp2_with fail
  refine (rbelow_long N hN W (by omega) (by omega) hl _).mono ?_
  rintro e w2 ⟨rfl, hb2⟩
  go_wp2
  go_ret
  exact ⟨rfl, ((Below.refl _ w).alloc (Nat.le_refl _) _).trans (hb2.mono (by simp))⟩
set_option maxRecDepth 100000 in
set_option maxHeartbeats 1000000 in
theorem rcheck_ok' (W S E H O G I : Int) (N : Nat) (h : IsW W) (g0 : 0 ≤ S) (g1 : S < 128) (g2 : 0 ≤ H) (g3 : H ≤ 15) (g4 : 1 ≤ O) (g5 : O ≤ 24) (g6 : 0 ≤ G) (g7 : G < 8) (hN : N < 2 ^ 256) (hl : (bl N : Int) ≤ W) (w : World) :
    Calls Tryd.prog 6 #[hd W S E H O G I N] w fun e w' => e = .returned (.int .i64 0) ∧ Below w.heap.size w w' := by
  have d0 : decide (S < 0) = false := by simp; omega
  have d1 : decide (128 ≤ S) = false := by simp; omega
  have d2 : decide (H < 0) = false := by simp; omega
  have d3 : decide (15 < H) = false := by simp; omega
  have d4 : decide (O < 1) = false := by simp; omega
  have d5 : decide (24 < O) = false := by simp; omega
  have d6 : decide (G < 0) = false := by simp; omega
  have d7 : decide (8 ≤ G) = false := by simp; omega
  have hW : 8 ≤ W ∧ W ≤ 256 := by unfold IsW at h; omega
  go_enter Tryd.func6, Tryd.ntmps6
  go_wp2_with fail
  refine (rwide_yes W h _).mono ?_
  rintro e w1 ⟨rfl, hw⟩
  replace hw := hw.symm
  subst hw
  clear g0 g1 g2 g3 g4 g5 g6 g7
  go_wp2_with fail
  refine (rbelow_ok N hN W (by omega) (by omega) hl _).mono ?_
  rintro e w2 ⟨rfl, hb2⟩
  go_wp2
  go_ret
  exact ⟨rfl, ((Below.refl _ w).alloc (Nat.le_refl _) _).trans (hb2.mono (by simp))⟩
theorem rcheck_ok (W S E H O G I : Int) (N : Nat) (hN : N < 2 ^ 256) (h : OkH W S H O G N) (w : World) :
    Calls Tryd.prog 6 #[hd W S E H O G I N] w fun e w' => e = .returned (.int .i64 0) ∧ Below w.heap.size w w' := by
  obtain ⟨h0, h1, ⟨a, b⟩, ⟨c, d⟩, ⟨e, f⟩, g, i⟩ := h
  exact rcheck_ok' W S E H O G I N h0 a (by omega) c d e f g (by omega) hN h1 w
theorem rcheck_bad (W S E H O G I : Int) (N : Nat) (hN : N < 2 ^ 256) (h : ¬ OkH W S H O G N) (w : World) :
    Calls Tryd.prog 6 #[hd W S E H O G I N] w fun e w' => e = .returned (.int .i64 2) ∧ Below w.heap.size w w' := by
  by_cases h0 : IsW W
  · by_cases a0 : S < 0
    · exact rcheck_0 W S E H O G I N h0 a0 w
    · by_cases a1 : 128 ≤ S
      · exact rcheck_1 W S E H O G I N h0 (by omega) a1 w
      · by_cases a2 : H < 0
        · exact rcheck_2 W S E H O G I N h0 (by omega) (by omega) a2 w
        · by_cases a3 : 15 < H
          · exact rcheck_3 W S E H O G I N h0 (by omega) (by omega) (by omega) a3 w
          · by_cases a4 : O < 1
            · exact rcheck_4 W S E H O G I N h0 (by omega) (by omega) (by omega) (by omega) a4 w
            · by_cases a5 : 24 < O
              · exact rcheck_5 W S E H O G I N h0 (by omega) (by omega) (by omega) (by omega) (by omega) a5 w
              · by_cases a6 : G < 0
                · exact rcheck_6 W S E H O G I N h0 (by omega) (by omega) (by omega) (by omega) (by omega) (by omega) a6 w
                · by_cases a7 : 8 ≤ G
                  · exact rcheck_7 W S E H O G I N h0 (by omega) (by omega) (by omega) (by omega) (by omega) (by omega) (by omega) a7 w
                  · have hl : W < (bl N : Int) := by
                      apply Int.lt_of_not_ge
                      intro hl
                      exact h ⟨h0, hl, ⟨by omega, by omega⟩, ⟨by omega, by omega⟩, ⟨by omega, by omega⟩, by omega, by omega⟩
                    exact rcheck_b W S E H O G I N h0 (by omega) (by omega) (by omega) (by omega) (by omega) (by omega) (by omega) (by omega) hN hl w
  · exact rcheck_w W S E H O G I N h0 w
theorem below_dN (w : World) (n : Nat) : Below w.heap.size w (w.drewN n) := ⟨rfl, rfl, rfl, Nat.le_refl _, fun _ _ => rfl⟩
theorem tk4' (b : ByteArray) (a : Nat) : Wi.tk b a 4 = (((b.data.toList.getD a 0).toNat * 256 + (b.data.toList.getD (a + 1) 0).toNat) * 256 + (b.data.toList.getD (a + 2) 0).toNat) * 256 + (b.data.toList.getD (a + 3) 0).toNat := by simp [Wi.tk]
theorem or_u32 (V c q : Nat) (hV : V * 2 ^ q < 4294967296) (hc : c < 2 ^ q) (h2 : c < 4294967296) : bits .or .u32 ((V * 2 ^ q : Nat) : Int) (c : Int) = ((V * 2 ^ q + c : Nat) : Int) := by
  rw [u32_or_nat _ _ hV h2]
  congr 1
  rw [Nat.mul_comm V, Nat.two_pow_add_eq_or_of_lt hc]
theorem num4 (a b c d : Nat) (ha : a < 256) (hb : b < 256) (hc : c < 256) (hd : d < 256) :
    bits .or .u32 (bits .or .u32 (bits .or .u32 ((a : Int) % 4294967296 * 16777216 % 4294967296) ((b : Int) % 4294967296 * 65536 % 4294967296)) ((c : Int) % 4294967296 * 256 % 4294967296)) ((d : Int) % 4294967296) = (((((a * 256 + b) * 256 + c) * 256 + d : Nat)) : Int) := by
  have e1 : (a : Int) % 4294967296 * 16777216 % 4294967296 = ((a * 2 ^ 24 : Nat) : Int) := by omega
  have e2 : (b : Int) % 4294967296 * 65536 % 4294967296 = ((b * 65536 : Nat) : Int) := by omega
  have e3 : (c : Int) % 4294967296 * 256 % 4294967296 = ((c * 256 : Nat) : Int) := by omega
  have e4 : (d : Int) % 4294967296 = (d : Int) := by omega
  rw [e1, e2, e3, e4, or_u32 a (b * 65536) 24 (by omega) (by omega) (by omega)]
  rw [show a * 2 ^ 24 + b * 65536 = (a * 256 + b) * 2 ^ 16 from by omega, or_u32 (a * 256 + b) (c * 256) 16 (by omega) (by omega) (by omega)]
  rw [show (a * 256 + b) * 2 ^ 16 + c * 256 = ((a * 256 + b) * 256 + c) * 2 ^ 8 from by omega, or_u32 ((a * 256 + b) * 256 + c) d 8 (by omega) (by omega) (by omega)]
set_option maxHeartbeats 1000000 in
theorem number_lit (a b c d : UInt8) (w : World) :
    Calls Tryd.prog 35 #[.string ⟨#[a, b, c, d]⟩] w fun e w' => e = .returned (.int .u32 (Wi.tk ⟨#[a, b, c, d]⟩ 0 4 : Nat)) ∧ Below w.heap.size w w' := by
  go_enter Tryd.func35, Tryd.ntmps35
  go_wp2_with fail
  go_quiet (fail)
  go_wp2
  go_ret
  refine ⟨?_, below_dN w nq⟩
  have h := num4 a.toNat b.toNat c.toNat d.toNat a.toNat_lt b.toNat_lt c.toNat_lt d.toNat_lt
  have ht : Wi.tk ⟨#[a, b, c, d]⟩ 0 4 = ((a.toNat * 256 + b.toNat) * 256 + c.toNat) * 256 + d.toNat := by rw [tk4']; rfl
  rw [ht, ← h]
  rfl
theorem number_any (s : ByteArray) (hs : s.size = 4) (w : World) :
    Calls Tryd.prog 35 #[.string s] w fun e w' => e = .returned (.int .u32 (Wi.tk s 0 4 : Nat)) ∧ Below w.heap.size w w' := by
  obtain ⟨a, b, c, d, rfl⟩ : ∃ a b c d, s = ⟨#[a, b, c, d]⟩ := by
    obtain ⟨x⟩ := s
    obtain ⟨a, b, c, d, rfl⟩ := Joins.array4 (cs := x) hs
    exact ⟨a, b, c, d, rfl⟩
  exact number_lit a b c d w
end Go.Proofs.YtgfmlonhjmdfjaaDoor
