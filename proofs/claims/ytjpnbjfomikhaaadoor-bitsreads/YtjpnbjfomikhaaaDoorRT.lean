/- The document's answers: Has of what is no bit, With, Lowest, Count. -/
import Derived.Test.YtjpnbjfomikhaaaDoorRB
namespace Go.Proofs.YtjpnbjfomikhaaaDoor
open Go.RowKit Go.Shelf

theorem rhas_off (N : Nat) (n : Int) (h : n < 1 ∨ 256 < n) (w : World) :
    Calls Tryd.prog 6 #[bs N, .int .i64 n] w fun e w' => e = .returned (.bool false) ∧ Below w.heap.size w w' := by
  unfold bs
  go_enter Tryd.func6, Tryd.ntmps6
  go_wp2_with fail
  refine (right_no n h _).mono ?_
  rintro e w1 ⟨rfl, rfl⟩
  go_wp2
  go_ret
  exact ⟨rfl, by go_grown⟩
theorem rwith_no (N : Nat) (n : Int) (h : n < 1 ∨ 256 < n) (w : World) :
    Calls Tryd.prog 16 #[bs N, .int .i64 n] w fun e w' => e = .returned (.tuple #[bs 0, .int .i64 2]) ∧ Below w.heap.size w w' := by
  unfold bs
  go_enter Tryd.func16, Tryd.ntmps16
  go_wp2_with fail
  refine (right_no n h _).mono ?_
  rintro e w1 ⟨rfl, rfl⟩
  go_wp2
  refine bodyPost_ret (v := .tuple #[bs 0, .int .i64 2]) (by simp [results, Tryd.results16, go_sem, bs, wd_zero]) rfl ⟨rfl, ?_⟩
  go_grown
set_option maxRecDepth 100000 in
set_option maxHeartbeats 1000000 in
theorem rwith_yes (N m : Nat) (h : m < 256) (w : World) :
    Calls Tryd.prog 16 #[bs N, .int .i64 ((m : Int) + 1)] w fun e w' => e = .returned (.tuple #[bs (N ||| 2 ^ m), .int .i64 0]) ∧ Below w.heap.size w w' := by
  unfold bs
  go_enter Tryd.func16, Tryd.ntmps16
  go_wp2_with (go_at_call 29; refine (right_yes ((m : Int) + 1) (by omega) (by omega) _).mono ?_; rintro e w1 ⟨rfl, rfl⟩)
  have rV := hasBs_new (w.alloc (.cells #[.int .u64 (wd N 0), .int .u64 (wd N 1), .int .u64 (wd N 2), .int .u64 (wd N 3)] 24)) 0
  have nV := HasBs.alloc (hasBs_new w N) (.cells #[.int .u64 0, .int .u64 0, .int .u64 0, .int .u64 0] 24)
  have bV : Below w.heap.size w ((w.alloc (.cells #[.int .u64 (wd N 0), .int .u64 (wd N 1), .int .u64 (wd N 2), .int .u64 (wd N 3)] 24)).alloc (.cells #[.int .u64 0, .int .u64 0, .int .u64 0, .int .u64 0] 24)) := by go_grown
  simp only [World.size_alloc, wd_zero] at rV nV
  have rV' : HasBs ((w.alloc (.cells #[.int .u64 (wd N 0), .int .u64 (wd N 1), .int .u64 (wd N 2), .int .u64 (wd N 3)] 24)).alloc (.cells #[.int .u64 0, .int .u64 0, .int .u64 0, .int .u64 0] 24)) (w.heap.size + 1) 0 := by simpa [wd_zero] using rV
  clear rV
  generalize (w.alloc _).alloc _ = V at rV' nV bV ⊢
  have NV := hidIn nV
  have RV := hidIn rV'
  obtain ⟨c0, c1, c2, c3, _, _, _, _, _⟩ := nV
  clear rV'
  refine (put_any N m h _).mono ?_
  rintro e w2 ⟨rfl, hb2⟩
  obtain ⟨d0, d1, d2, d3, g0, g1, g2, g3, _⟩ := RV.out.keep hb2 RV.out.lt
  go_wp2
  refine bodyPost_ret (v := .tuple #[bs (N ||| 2 ^ m), .int .i64 0]) (by simp [results, Tryd.results16, go_sem, d0, d1, d2, d3]) rfl ⟨rfl, ?_⟩
  exact below_put (bV.trans (hb2.mono bV.size)) (Nat.le_succ _)
theorem rlowest_zero (w : World) :
    Calls Tryd.prog 8 #[bs 0] w fun e w' => e = .returned (.int .i64 0) ∧ Below w.heap.size w w' := by
  unfold bs
  go_enter Tryd.func8, Tryd.ntmps8
  go_wp2_with fail
  refine (rlist_slice 0 _).mono ?_
  rintro e w1 ⟨a, cap, rfl, _, hb1⟩
  rw [lst_zero]
  go_wp2
  go_ret
  exact ⟨rfl, Below.trans (by go_grown) (hb1.mono (by simp))⟩
theorem rlowest_some (N m : Nat) (hm : (lst N)[0]? = some m) (w : World) :
    Calls Tryd.prog 8 #[bs N] w fun e w' => e = .returned (.int .i64 ((m : Int) + 1)) ∧ Below w.heap.size w w' := by
  have hlen : (lst N).length ≤ 256 := by have := cntTo_le 256 N; rw [← lst_length] at this; exact this
  have hp : 0 < (lst N).length := by
    rcases Nat.eq_zero_or_pos (lst N).length with h | h
    · rw [List.getElem?_eq_none (by omega)] at hm; cases hm
    · exact h
  unfold bs
  go_enter Tryd.func8, Tryd.ntmps8
  go_wp2_with fail
  refine (rlist_slice N _).mono ?_
  rintro e w1 ⟨a, cap, rfl, hat, hb1⟩
  obtain ⟨g, rfl, _, hg, hc⟩ := hat _ _ hm
  clear hat hm
  generalize (lst N).length = n at *
  have hd : ((n : Int) == 0) = false := by simp; omega
  go_wp2
  go_ret
  exact ⟨rfl, Below.trans ((Below.refl _ w).alloc (Nat.le_refl _) _) (hb1.mono (by simp))⟩
theorem rcount_any (N : Nat) (w : World) :
    Calls Tryd.prog 10 #[bs N] w fun e w' => e = .returned (.int .i64 (lst N).length) ∧ Below w.heap.size w w' := by
  have hlen : (lst N).length ≤ 256 := by have := cntTo_le 256 N; rw [← lst_length] at this; exact this
  obtain ⟨n, hn⟩ : ∃ n, (lst N).length = n := ⟨_, rfl⟩
  have Hn := hidIn hn
  unfold bs
  go_enter Tryd.func10, Tryd.ntmps10
  go_wp2_with fail
  refine (rlist_slice N _).mono ?_
  rintro e w1 ⟨a, cap, rfl, _, hb1⟩
  rw [hn] at hlen ⊢
  clear hn
  go_wp2
  go_ret
  exact ⟨by rw [Hn.out]; rfl, Below.trans ((Below.refl _ w).alloc (Nat.le_refl _) _) (hb1.mono (by simp))⟩
end Go.Proofs.YtjpnbjfomikhaaaDoor
