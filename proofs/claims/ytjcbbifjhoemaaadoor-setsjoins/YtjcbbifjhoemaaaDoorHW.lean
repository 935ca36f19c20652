/- bits.Has, With, Without. -/
import Derived.Test.YtjcbbifjhoemaaaDoorB1
namespace Go.Proofs.YtjcbbifjhoemaaaDoor
open Go.RowKit

theorem and_pow (N m : Nat) : (N &&& 2 ^ m = 0) = (N.testBit m = false) := by
  apply propext
  constructor
  · intro h
    have := congrArg (fun x => x.testBit m) h
    simpa [Nat.testBit_and, Nat.testBit_two_pow] using this
  · intro h
    apply Nat.eq_of_testBit_eq
    intro j
    rw [Nat.testBit_and, Nat.testBit_two_pow]
    by_cases e : m = j
    · subst e; simp [h]
    · simp [e]

set_option maxHeartbeats 400000 in
theorem with_no (N : Nat) (n : Int) (h : n < 1 ∨ 256 < n) (w : World) :
    Calls Tryd.prog 27 #[bs N, .int .i64 n] w fun e w' => e = .returned (.tuple #[bs 0, .int .i64 2]) ∧ Below w.heap.size w w' := by
  have H := hidIn h
  clear h
  unfold bs
  go_enter Tryd.func27, Tryd.ntmps27
  go_wp2_with (go_at_call 34; refine (isBit_no _ H.out _).mono ?_; rintro e w1 ⟨rfl, rfl⟩)
  go_returns
  exact ⟨by simp only [wd_zero]; rfl, by go_grown⟩
theorem HasBs.grow {W : World} {b N : Nat} (h : HasBs W b N) (o : Obj) : HasBs (W.alloc o) b N := h.keep (Below.alloc (Below.refl _ W) (Nat.le_refl _) o) h.lt
set_option maxRecDepth 100000 in
set_option maxHeartbeats 1000000 in
theorem with_yes (N m : Nat) (hm : m < 256) (w : World) :
    Calls Tryd.prog 27 #[bs N, .int .i64 ((m : Int) + 1)] w fun e w' => e = .returned (.tuple #[bs (N ||| 2 ^ m), .int .i64 0]) ∧ Below w.heap.size w w' := by
  unfold bs
  go_enter Tryd.func27, Tryd.ntmps27
  go_wp2_with (go_at_call 34; refine (isBit_yes _ (by omega) (by omega) _).mono ?_; rintro e w1 ⟨rfl, rfl⟩)
  have rV := hasBs_new (w.alloc (.cells #[.int .u64 (wd N 0), .int .u64 (wd N 1), .int .u64 (wd N 2), .int .u64 (wd N 3)] 35)) 0
  have nV := HasBs.grow (hasBs_new w N) (.cells #[.int .u64 0, .int .u64 0, .int .u64 0, .int .u64 0] 35)
  have bV : Below w.heap.size w ((w.alloc (.cells #[.int .u64 (wd N 0), .int .u64 (wd N 1), .int .u64 (wd N 2), .int .u64 (wd N 3)] 35)).alloc (.cells #[.int .u64 0, .int .u64 0, .int .u64 0, .int .u64 0] 35)) := by go_grown
  simp only [World.size_alloc, wd_zero] at rV nV
  have rV' : HasBs ((w.alloc (.cells #[.int .u64 (wd N 0), .int .u64 (wd N 1), .int .u64 (wd N 2), .int .u64 (wd N 3)] 35)).alloc (.cells #[.int .u64 0, .int .u64 0, .int .u64 0, .int .u64 0] 35)) (w.heap.size + 1) 0 := by simpa [wd_zero] using rV
  clear rV
  generalize (w.alloc _).alloc _ = V at rV' nV bV ⊢
  have NV := hidIn nV
  have RV := hidIn rV'
  obtain ⟨c0, c1, c2, c3, _, _, _, _, _⟩ := nV
  clear rV'
  go_region_with (first | (go_at_call 36; refine (only_any m hm _).mono ?_; rintro e w1 ⟨rfl, hb1⟩; have HG := hidIn (Below.trans (Below.refl _ V).drew hb1); obtain ⟨c0', c1', c2', c3', _, _, _, _, _⟩ := NV.out.keep HG.out NV.out.lt) | (go_at_call 35; refine (or_any _ _ _).mono ?_; rintro e w2 ⟨rfl, hb2⟩; have HG2 := hidIn (Below.trans HG.out (hb2.mono HG.out.size)); have HR2 := hidIn (RV.out.keep HG2.out RV.out.lt); obtain ⟨d0, d1, d2, d3, g0, g1, g2, g3, _⟩ := HR2.out))
  all_goals
    go_wp2
    refine bodyPost_ret (v := .tuple #[bs (N ||| 2 ^ m), .int .i64 0]) (by simp [results, Tryd.results27, go_sem, d0, d1, d2, d3]) rfl ⟨rfl, ?_⟩
    exact below_put (bV.trans (HG2.out.mono bV.size)) (Nat.le_succ _)
end Go.Proofs.YtjcbbifjhoemaaaDoor
