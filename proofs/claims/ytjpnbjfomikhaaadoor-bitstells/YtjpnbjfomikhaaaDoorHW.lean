/- bits.Has, With, Without. -/
import Derived.Test.YtjpnbjfomikhaaaDoorWK
namespace Go.Proofs.YtjpnbjfomikhaaaDoor
open Go.RowKit

theorem and_pow (N m : Nat) : (N &&& 2 ^ m = 0) = (N.testBit m = false) := by
  apply propext
  constructor
  · intro h
    have := congrArg (fun x => x.testBit m) h
    simpa [Nat.testBit_and, Nat.testBit_two_pow] using this
  · intro h
    apply Nat.eq_of_testBit_eq
    intro j
    rw [Nat.testBit_and, Nat.testBit_two_pow]
    by_cases e : m = j
    · subst e; simp [h]
    · simp [e]

set_option maxHeartbeats 400000 in
theorem has_no (N : Nat) (n : Int) (h : n < 1 ∨ 256 < n) (w : World) :
    Calls Tryd.prog 5 #[bs N, .int .i64 n] w fun e w' => e = .returned (.bool false) ∧ Below w.heap.size w w' := by
  unfold bs
  go_enter Tryd.func5, Tryd.ntmps5
  go_wp2
  generalize hV : w.alloc _ = V
  have bV : Below w.heap.size w V := by rw [← hV]; go_grown
  have nV : HasBs V w.heap.size N := by rw [← hV]; exact hasBs_new w N
  clear hV
  have k0 := cell_regrown nV.c0
  have k1 := cell_regrown nV.c1
  have k2 := cell_regrown nV.c2
  have k3 := cell_regrown nV.c3
  refine wp_region_quiet_below (by kernel_rfl) (by kernel_rfl) ?_
  repeat (go_big_quiet_step (first
    | (go_at_call 26; exact Calls.regrown_of ((isBit_no n h _).mono (fun e w' he => ⟨he.1, by rw [he.2]; exact Below.refl _ _⟩)))))
  refine wpQuiet_nil ?_
  intro _ hw'
  obtain ⟨⟨dq, osq⟩, hw''⟩ := hw'
  subst hw''
  go_wp2
  go_ret
  exact ⟨rfl, bV.trans ((below_regrown V dq osq).mono bV.size)⟩
set_option maxRecDepth 100000 in
set_option maxHeartbeats 400000 in
theorem has_yes (N : Nat) (hN : N < 2 ^ 256) (m : Nat) (hm : m < 256) (w : World) :
    Calls Tryd.prog 5 #[bs N, .int .i64 ((m : Int) + 1)] w fun e w' => e = .returned (.bool (N.testBit m)) ∧ Below w.heap.size w w' := by
  have hq : ∀ w : World, (Op.equalIn 10000 24 (.agg #[.int .u64 (wd (N &&& 2 ^ m) 0), .int .u64 (wd (N &&& 2 ^ m) 1), .int .u64 (wd (N &&& 2 ^ m) 2), .int .u64 (wd (N &&& 2 ^ m) 3)]) (.agg #[.int .u64 0, .int .u64 0, .int .u64 0, .int .u64 0])).run Tryd.prog w = Result.ok (!N.testBit m) w := fun w => by
    have := eq_zero (N &&& 2 ^ m) (and_lt hN) w
    simp only [bs] at this
    rw [this, show (N &&& 2 ^ m == 0) = !N.testBit m from by rw [Bool.eq_iff_iff]; simp [and_pow]]
  unfold bs
  go_enter Tryd.func5, Tryd.ntmps5
  go_wp2
  generalize hV : w.alloc _ = V
  have bV : Below w.heap.size w V := by rw [← hV]; go_grown
  have nV : HasBs V w.heap.size N := by rw [← hV]; exact hasBs_new w N
  clear hV
  have k0 := cell_regrown nV.c0
  have k1 := cell_regrown nV.c1
  have k2 := cell_regrown nV.c2
  have k3 := cell_regrown nV.c3
  refine wp_region_quiet_below (by kernel_rfl) (by kernel_rfl) ?_
  repeat (go_big_quiet_step (first
    | (go_at_call 26; exact Calls.regrown_of ((isBit_yes ((m : Int) + 1) (by omega) (by omega) _).mono (fun e w' he => ⟨he.1, by rw [he.2]; exact Below.refl _ _⟩)))
    | (go_at_call 28; exact Calls.regrown_of (only_any m hm _))
    | (go_at_call 27; exact Calls.regrown_of (and_any N (2 ^ m) _))))
  refine wpQuiet_nil ?_
  intro _ hw'
  obtain ⟨⟨dq, osq⟩, hw''⟩ := hw'
  subst hw''
  go_wp2
  go_ret
  exact ⟨by simp, bV.trans ((below_regrown V dq osq).mono bV.size)⟩

set_option maxHeartbeats 400000 in
theorem with_no (N : Nat) (n : Int) (h : n < 1 ∨ 256 < n) (w : World) :
    Calls Tryd.prog 15 #[bs N, .int .i64 n] w fun e w' => e = .returned (.tuple #[bs 0, .int .i64 2]) ∧ Below w.heap.size w w' := by
  have H := hidIn h
  clear h
  unfold bs
  go_enter Tryd.func15, Tryd.ntmps15
  go_wp2_with (go_at_call 26; refine (isBit_no _ H.out _).mono ?_; rintro e w1 ⟨rfl, rfl⟩)
  go_returns
  exact ⟨by simp only [wd_zero]; rfl, by go_grown⟩
set_option maxHeartbeats 400000 in
theorem without_no (N : Nat) (n : Int) (h : n < 1 ∨ 256 < n) (w : World) :
    Calls Tryd.prog 17 #[bs N, .int .i64 n] w fun e w' => e = .returned (.tuple #[bs 0, .int .i64 2]) ∧ Below w.heap.size w w' := by
  have H := hidIn h
  clear h
  unfold bs
  go_enter Tryd.func17, Tryd.ntmps17
  go_wp2_with (go_at_call 26; refine (isBit_no _ H.out _).mono ?_; rintro e w1 ⟨rfl, rfl⟩)
  go_returns
  exact ⟨by simp only [wd_zero]; rfl, by go_grown⟩
theorem HasBs.grow {W : World} {b N : Nat} (h : HasBs W b N) (o : Obj) : HasBs (W.alloc o) b N := h.keep (Below.alloc (Below.refl _ W) (Nat.le_refl _) o) h.lt
set_option maxRecDepth 100000 in
set_option maxHeartbeats 1000000 in
theorem with_yes (N m : Nat) (hm : m < 256) (w : World) :
    Calls Tryd.prog 15 #[bs N, .int .i64 ((m : Int) + 1)] w fun e w' => e = .returned (.tuple #[bs (N ||| 2 ^ m), .int .i64 0]) ∧ Below w.heap.size w w' := by
  unfold bs
  go_enter Tryd.func15, Tryd.ntmps15
  go_wp2_with (go_at_call 26; refine (isBit_yes _ (by omega) (by omega) _).mono ?_; rintro e w1 ⟨rfl, rfl⟩)
  have rV := hasBs_new (w.alloc (.cells #[.int .u64 (wd N 0), .int .u64 (wd N 1), .int .u64 (wd N 2), .int .u64 (wd N 3)] 24)) 0
  have nV := HasBs.grow (hasBs_new w N) (.cells #[.int .u64 0, .int .u64 0, .int .u64 0, .int .u64 0] 24)
  have bV : Below w.heap.size w ((w.alloc (.cells #[.int .u64 (wd N 0), .int .u64 (wd N 1), .int .u64 (wd N 2), .int .u64 (wd N 3)] 24)).alloc (.cells #[.int .u64 0, .int .u64 0, .int .u64 0, .int .u64 0] 24)) := by go_grown
  simp only [World.size_alloc, wd_zero] at rV nV
  have rV' : HasBs ((w.alloc (.cells #[.int .u64 (wd N 0), .int .u64 (wd N 1), .int .u64 (wd N 2), .int .u64 (wd N 3)] 24)).alloc (.cells #[.int .u64 0, .int .u64 0, .int .u64 0, .int .u64 0] 24)) (w.heap.size + 1) 0 := by simpa [wd_zero] using rV
  clear rV
  generalize (w.alloc _).alloc _ = V at rV' nV bV ⊢
  have NV := hidIn nV
  have RV := hidIn rV'
  obtain ⟨c0, c1, c2, c3, _, _, _, _, _⟩ := nV
  clear rV'
  go_region_with (first | (go_at_call 28; refine (only_any m hm _).mono ?_; rintro e w1 ⟨rfl, hb1⟩; have HG := hidIn (Below.trans (Below.refl _ V).drew hb1); obtain ⟨c0', c1', c2', c3', _, _, _, _, _⟩ := NV.out.keep HG.out NV.out.lt) | (go_at_call 36; refine (or_any _ _ _).mono ?_; rintro e w2 ⟨rfl, hb2⟩; have HG2 := hidIn (Below.trans HG.out (hb2.mono HG.out.size)); have HR2 := hidIn (RV.out.keep HG2.out RV.out.lt); obtain ⟨d0, d1, d2, d3, g0, g1, g2, g3, _⟩ := HR2.out))
  all_goals
    go_wp2
    refine bodyPost_ret (v := .tuple #[bs (N ||| 2 ^ m), .int .i64 0]) (by simp [results, Tryd.results15, go_sem, d0, d1, d2, d3]) rfl ⟨rfl, ?_⟩
    exact below_put (bV.trans (HG2.out.mono bV.size)) (Nat.le_succ _)
set_option maxRecDepth 100000 in
set_option maxHeartbeats 1000000 in
theorem without_yes (N m : Nat) (hm : m < 256) (w : World) :
    Calls Tryd.prog 17 #[bs N, .int .i64 ((m : Int) + 1)] w fun e w' => e = .returned (.tuple #[bs (wo N (2 ^ m)), .int .i64 0]) ∧ Below w.heap.size w w' := by
  unfold bs
  go_enter Tryd.func17, Tryd.ntmps17
  go_wp2_with (go_at_call 26; refine (isBit_yes _ (by omega) (by omega) _).mono ?_; rintro e w1 ⟨rfl, rfl⟩)
  have rV := hasBs_new (w.alloc (.cells #[.int .u64 (wd N 0), .int .u64 (wd N 1), .int .u64 (wd N 2), .int .u64 (wd N 3)] 24)) 0
  have nV := HasBs.grow (hasBs_new w N) (.cells #[.int .u64 0, .int .u64 0, .int .u64 0, .int .u64 0] 24)
  have bV : Below w.heap.size w ((w.alloc (.cells #[.int .u64 (wd N 0), .int .u64 (wd N 1), .int .u64 (wd N 2), .int .u64 (wd N 3)] 24)).alloc (.cells #[.int .u64 0, .int .u64 0, .int .u64 0, .int .u64 0] 24)) := by go_grown
  simp only [World.size_alloc, wd_zero] at rV nV
  have rV' : HasBs ((w.alloc (.cells #[.int .u64 (wd N 0), .int .u64 (wd N 1), .int .u64 (wd N 2), .int .u64 (wd N 3)] 24)).alloc (.cells #[.int .u64 0, .int .u64 0, .int .u64 0, .int .u64 0] 24)) (w.heap.size + 1) 0 := by simpa [wd_zero] using rV
  clear rV
  generalize (w.alloc _).alloc _ = V at rV' nV bV ⊢
  have NV := hidIn nV
  have RV := hidIn rV'
  obtain ⟨c0, c1, c2, c3, _, _, _, _, _⟩ := nV
  clear rV'
  go_region_with (first | (go_at_call 28; refine (only_any m hm _).mono ?_; rintro e w1 ⟨rfl, hb1⟩; have HG := hidIn (Below.trans (Below.refl _ V).drew hb1); obtain ⟨c0', c1', c2', c3', _, _, _, _, _⟩ := NV.out.keep HG.out NV.out.lt) | (go_at_call 38; refine (wo_any _ _ _).mono ?_; rintro e w2 ⟨rfl, hb2⟩; have HG2 := hidIn (Below.trans HG.out (hb2.mono HG.out.size)); have HR2 := hidIn (RV.out.keep HG2.out RV.out.lt); obtain ⟨d0, d1, d2, d3, g0, g1, g2, g3, _⟩ := HR2.out))
  all_goals
    go_wp2
    refine bodyPost_ret (v := .tuple #[bs (wo N (2 ^ m)), .int .i64 0]) (by simp [results, Tryd.results17, go_sem, d0, d1, d2, d3]) rfl ⟨rfl, ?_⟩
    exact below_put (bV.trans (HG2.out.mono bV.size)) (Nat.le_succ _)
end Go.Proofs.YtjpnbjfomikhaaaDoor
