/- The document's answers: Has of what is no bit, With, Lowest, Count. -/
import Derived.Test.YtkkkjpdmjgafoaaRB
namespace Go.Proofs.Ytkkkjpdmjgafoaa.Bi
open Go.RowKit Go.Shelf

theorem rhas_off (N : Nat) (n : Int) (h : n < 1 ∨ 256 < n) (w : World) :
    Calls Try.prog 41 #[bs N, .int .i64 n] w fun e w' => e = .returned (.bool false) ∧ Below w.heap.size w w' := by
  unfold bs
  go_enter Try.func41, Try.ntmps41
  go_wp2_with fail
  refine (right_no n h _).mono ?_
  rintro e w1 ⟨rfl, rfl⟩
  go_wp2
  go_ret
  exact ⟨rfl, by go_grown⟩
theorem rcount_any (N : Nat) (w : World) :
    Calls Try.prog 25 #[bs N] w fun e w' => e = .returned (.int .i64 (lst N).length) ∧ Below w.heap.size w w' := by
  have hlen : (lst N).length ≤ 256 := by have := cntTo_le 256 N; rw [← lst_length] at this; exact this
  obtain ⟨n, hn⟩ : ∃ n, (lst N).length = n := ⟨_, rfl⟩
  have Hn := hidIn hn
  unfold bs
  go_enter Try.func25, Try.ntmps25
  go_wp2_with fail
  refine (rlist_slice N _).mono ?_
  rintro e w1 ⟨a, cap, rfl, _, hb1⟩
  rw [hn] at hlen ⊢
  clear hn
  go_wp2
  go_ret
  exact ⟨by rw [Hn.out]; rfl, Below.trans ((Below.refl _ w).alloc (Nat.le_refl _) _) (hb1.mono (by simp))⟩
end Go.Proofs.Ytkkkjpdmjgafoaa.Bi
