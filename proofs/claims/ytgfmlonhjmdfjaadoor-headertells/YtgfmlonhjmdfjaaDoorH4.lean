/- header.Check. -/
import Derived.Test.YtgfmlonhjmdfjaaDoorH3
import Derived.Lib.QuietBelow
import Derived.BigQuiet
import Derived.Deep.QuietTactic
namespace Go.Proofs.YtgfmlonhjmdfjaaDoor
open Go.RowKit

/-- A header may be. -/
def OkH (W S H O G : Int) (N : Nat) : Prop := IsW W ∧ (bl N : Int) ≤ W ∧ (0 ≤ S ∧ S ≤ 127) ∧ (0 ≤ H ∧ H ≤ 15) ∧ (1 ≤ O ∧ O ≤ 24) ∧ (0 ≤ G ∧ G ≤ 7)

theorem wide_no_b (W : Int) (h : ¬ IsW W) (w : World) (ht : Wid w) : Calls Tryd.prog 7 #[.int .i64 W] w fun e w' => e = .returned (.bool false) ∧ Below w.heap.size w w' :=
  (wide_no W h w ht).mono fun _ _ ⟨he, hw⟩ => ⟨he, by rw [hw]; exact Below.refl _ _⟩
theorem wide_yes_b (W : Int) (h : IsW W) (w : World) (ht : Wid w) : Calls Tryd.prog 7 #[.int .i64 W] w fun e w' => e = .returned (.bool true) ∧ Below w.heap.size w w' :=
  (wide_yes W h w ht).mono fun _ _ ⟨he, hw⟩ => ⟨he, by rw [hw]; exact Below.refl _ _⟩
/-- The eleven cells of a header in a block. -/
structure HasHd (w : World) (b : Nat) (W S E H O G I : Int) (N : Nat) : Prop where
  c0 : w.cell? ⟨b, 0, none⟩ = some (.int .i64 W)
  c1 : w.cell? ⟨b, 1, none⟩ = some (.int .i64 S)
  c2 : w.cell? ⟨b, 2, none⟩ = some (.int .u32 E)
  c3 : w.cell? ⟨b, 3, none⟩ = some (.int .i64 H)
  c4 : w.cell? ⟨b, 4, none⟩ = some (.int .i64 O)
  c5 : w.cell? ⟨b, 5, none⟩ = some (.int .i64 G)
  c6 : w.cell? ⟨b, 6, none⟩ = some (.int .u32 I)
  c7 : w.cell? ⟨b, 7, none⟩ = some (.int .u64 (wd N 0))
  c8 : w.cell? ⟨b, 8, none⟩ = some (.int .u64 (wd N 1))
  c9 : w.cell? ⟨b, 9, none⟩ = some (.int .u64 (wd N 2))
  ca : w.cell? ⟨b, 10, none⟩ = some (.int .u64 (wd N 3))
  f0 : w.frozen? ⟨b, 0, none⟩ = false
  f1 : w.frozen? ⟨b, 1, none⟩ = false
  f2 : w.frozen? ⟨b, 2, none⟩ = false
  f3 : w.frozen? ⟨b, 3, none⟩ = false
  f4 : w.frozen? ⟨b, 4, none⟩ = false
  f5 : w.frozen? ⟨b, 5, none⟩ = false
  f6 : w.frozen? ⟨b, 6, none⟩ = false
  f7 : w.frozen? ⟨b, 7, none⟩ = false
  f8 : w.frozen? ⟨b, 8, none⟩ = false
  f9 : w.frozen? ⟨b, 9, none⟩ = false
  fa : w.frozen? ⟨b, 10, none⟩ = false
  lt : b < w.heap.size
theorem HasHd.keep {w w' : World} {b B : Nat} {W S E H O G I : Int} {N : Nat} (h : HasHd w b W S E H O G I N) (hb : Below B w w') (hB : b < B) : HasHd w' b W S E H O G I N :=
  ⟨(hb.cell (p := ⟨b, 0, none⟩) hB).trans h.c0, (hb.cell (p := ⟨b, 1, none⟩) hB).trans h.c1, (hb.cell (p := ⟨b, 2, none⟩) hB).trans h.c2, (hb.cell (p := ⟨b, 3, none⟩) hB).trans h.c3, (hb.cell (p := ⟨b, 4, none⟩) hB).trans h.c4, (hb.cell (p := ⟨b, 5, none⟩) hB).trans h.c5,
   (hb.cell (p := ⟨b, 6, none⟩) hB).trans h.c6, (hb.cell (p := ⟨b, 7, none⟩) hB).trans h.c7, (hb.cell (p := ⟨b, 8, none⟩) hB).trans h.c8, (hb.cell (p := ⟨b, 9, none⟩) hB).trans h.c9, (hb.cell (p := ⟨b, 10, none⟩) hB).trans h.ca,
   (hb.frozen (p := ⟨b, 0, none⟩) hB).trans h.f0, (hb.frozen (p := ⟨b, 1, none⟩) hB).trans h.f1, (hb.frozen (p := ⟨b, 2, none⟩) hB).trans h.f2, (hb.frozen (p := ⟨b, 3, none⟩) hB).trans h.f3, (hb.frozen (p := ⟨b, 4, none⟩) hB).trans h.f4, (hb.frozen (p := ⟨b, 5, none⟩) hB).trans h.f5, (hb.frozen (p := ⟨b, 6, none⟩) hB).trans h.f6, (hb.frozen (p := ⟨b, 7, none⟩) hB).trans h.f7, (hb.frozen (p := ⟨b, 8, none⟩) hB).trans h.f8, (hb.frozen (p := ⟨b, 9, none⟩) hB).trans h.f9, (hb.frozen (p := ⟨b, 10, none⟩) hB).trans h.fa, Nat.lt_of_lt_of_le h.lt hb.size⟩
/-- A header's block. -/
abbrev hob (W S E H O G I : Int) (N : Nat) : Obj :=
  .cells #[.int .i64 W, .int .i64 S, .int .u32 E, .int .i64 H, .int .i64 O, .int .i64 G, .int .u32 I, .int .u64 (wd N 0), .int .u64 (wd N 1), .int .u64 (wd N 2), .int .u64 (wd N 3)] 27
theorem hasHd_new (w : World) (W S E H O G I : Int) (N : Nat) : HasHd (w.alloc (hob W S E H O G I N)) w.heap.size W S E H O G I N := by
  refine ⟨?_, ?_, ?_, ?_, ?_, ?_, ?_, ?_, ?_, ?_, ?_, ?_, ?_, ?_, ?_, ?_, ?_, ?_, ?_, ?_, ?_, ?_, ?_⟩
  all_goals simp [go_sem]

set_option maxRecDepth 100000 in
set_option maxHeartbeats 1000000 in
theorem check_a (W S E H O G I : Int) (N : Nat) (h : ¬ IsW W) (w : World) (ht : Wid w) :
    Calls Tryd.prog 5 #[hd W S E H O G I N] w fun e w' => e = .returned (.int .i64 2) ∧ Below w.heap.size w w' := by
  have hn := hasHd_new w W S E H O G I N
  have htn := ht.keep ((Below.refl _ w).alloc (Nat.le_refl _) (hob W S E H O G I N))
  have k0 := cell_regrown hn.c0
  go_enter Tryd.func5, Tryd.ntmps5
  go_wp2_with fail
  refine wp_region_quiet_below (by kernel_rfl) (by kernel_rfl) ?_
  repeat (go_big_quiet_step (first
    | (go_at_call 7; exact Calls.regrown_of (wide_no_b W h _ (htn.keep (below_regrown _ _ _))))))
  refine wpQuiet_nil ?_
  intro _ hw'
  obtain ⟨⟨dq, osq⟩, hw''⟩ := hw'
  subst hw''
  have hbr := below_regrown (w.alloc (hob W S E H O G I N)) dq osq
  generalize Go.Sort.grow (redrawn (w.alloc (hob W S E H O G I N)) dq) osq = W4 at hbr ⊢
  clear k0 hn htn
  go_wp2
  go_ret
  exact ⟨rfl, ((Below.refl _ w).alloc (Nat.le_refl _) _).trans (hbr.mono (by simp))⟩
set_option maxRecDepth 100000 in
set_option maxHeartbeats 1000000 in
theorem check_b (W S E H O G I : Int) (N : Nat) (hN : N < 2 ^ 256) (h : IsW W) (h2 : W < (bl N : Int)) (w : World) (ht : Wid w) :
    Calls Tryd.prog 5 #[hd W S E H O G I N] w fun e w' => e = .returned (.int .i64 2) ∧ Below w.heap.size w w' := by
  have hn := hasHd_new w W S E H O G I N
  have htn := ht.keep ((Below.refl _ w).alloc (Nat.le_refl _) (hob W S E H O G I N))
  have k0 := cell_regrown hn.c0
  have k1 := cell_regrown hn.c1
  have k2 := cell_regrown hn.c2
  have k3 := cell_regrown hn.c3
  have k4 := cell_regrown hn.c4
  have k5 := cell_regrown hn.c5
  have k6 := cell_regrown hn.c6
  have k7 := cell_regrown hn.c7
  have k8 := cell_regrown hn.c8
  have k9 := cell_regrown hn.c9
  have ka := cell_regrown hn.ca
  go_enter Tryd.func5, Tryd.ntmps5
  go_wp2_with fail
  refine wp_region_quiet_below (by kernel_rfl) (by kernel_rfl) ?_
  repeat (go_big_quiet_step (first
    | (go_at_call 7; exact Calls.regrown_of (wide_yes_b W h _ (htn.keep (below_regrown _ _ _))))
    | (go_at_call 20; exact Calls.regrown_of (below_no N hN W (by omega) _))))
  refine wpQuiet_nil ?_
  intro _ hw'
  obtain ⟨⟨dq, osq⟩, hw''⟩ := hw'
  subst hw''
  have hbr := below_regrown (w.alloc (hob W S E H O G I N)) dq osq
  generalize Go.Sort.grow (redrawn (w.alloc (hob W S E H O G I N)) dq) osq = W4 at hbr ⊢
  clear k0 k1 k2 k3 k4 k5 k6 k7 k8 k9 ka hn htn
  go_wp2
  go_ret
  exact ⟨rfl, ((Below.refl _ w).alloc (Nat.le_refl _) _).trans (hbr.mono (by simp))⟩
theorem within_in {n a b : Int} (h1 : a ≤ n) (h2 : n ≤ b) : within n a b = n := by unfold within; omega
theorem within_out {n a b : Int} (hab : a ≤ b) (h : ¬ (a ≤ n ∧ n ≤ b)) : (n == within n a b) = false := by
  refine beq_eq_false_iff_ne.2 ?_
  unfold within
  omega
set_option maxRecDepth 100000 in
set_option maxHeartbeats 1000000 in
theorem check_c (W S E H O G I : Int) (N : Nat) (hN : N < 2 ^ 256) (h : IsW W) (h2 : (bl N : Int) ≤ W) (h3 : ¬ ((0 ≤ S ∧ S ≤ 127) ∧ (0 ≤ H ∧ H ≤ 15) ∧ (1 ≤ O ∧ O ≤ 24) ∧ (0 ≤ G ∧ G ≤ 7))) (w : World) (ht : Wid w) :
    Calls Tryd.prog 5 #[hd W S E H O G I N] w fun e w' => e = .returned (.int .i64 2) ∧ Below w.heap.size w w' := by
  have hn := hasHd_new w W S E H O G I N
  have htn := ht.keep ((Below.refl _ w).alloc (Nat.le_refl _) (hob W S E H O G I N))
  have k0 := cell_regrown hn.c0
  have k1 := cell_regrown hn.c1
  have k2 := cell_regrown hn.c2
  have k3 := cell_regrown hn.c3
  have k4 := cell_regrown hn.c4
  have k5 := cell_regrown hn.c5
  have k6 := cell_regrown hn.c6
  have k7 := cell_regrown hn.c7
  have k8 := cell_regrown hn.c8
  have k9 := cell_regrown hn.c9
  have ka := cell_regrown hn.ca
  have hW : 8 ≤ W ∧ W ≤ 256 := by unfold IsW at h; omega
  obtain ⟨hW0, hW1⟩ := hW
  have hq : ∀ w : World, (Op.equalIn 10000 27 (hd W S E H O G I N) (hd W (within S 0 127) E (within H 0 15) (within O 1 24) (within G 0 7) I N)).run Tryd.prog w = Result.ok false w := by
    intro w
    rw [eq_hd _ _ _ _ _ _ _ _ _ _ _ _ _ _ _ _ hN hN]
    congr 1
    by_cases s1 : 0 ≤ S ∧ S ≤ 127
    · by_cases s2 : 0 ≤ H ∧ H ≤ 15
      · by_cases s3 : 1 ≤ O ∧ O ≤ 24
        · have s4 : ¬ (0 ≤ G ∧ G ≤ 7) := fun s4 => h3 ⟨s1, s2, s3, s4⟩
          rw [within_out (by decide) s4]; simp
        · rw [within_out (by decide) s3]; simp
      · rw [within_out (by decide) s2]; simp
    · rw [within_out (by decide) s1]; simp
  have HR := hidIn (inRange_any W S E H O G I N)
  generalize within S 0 127 = S' at hq HR
  generalize within H 0 15 = H' at hq HR
  generalize within O 1 24 = O' at hq HR
  generalize within G 0 7 = G' at hq HR
  clear h3
  go_enter Tryd.func5, Tryd.ntmps5
  go_wp2_with fail
  refine wp_region_quiet_below (by kernel_rfl) (by kernel_rfl) ?_
  repeat (go_big_quiet_step (first
    | (go_at_call 7; exact Calls.regrown_of (wide_yes_b W h _ (htn.keep (below_regrown _ _ _))))
    | (go_at_call 20; exact Calls.regrown_of (below_yes N hN W (by omega) (by omega) h2 _))
    | (go_at_call 21; exact Calls.regrown_of (HR.out _))))
  refine wpQuiet_nil ?_
  intro _ hw'
  obtain ⟨⟨dq, osq⟩, hw''⟩ := hw'
  subst hw''
  have hbr := below_regrown (w.alloc (hob W S E H O G I N)) dq osq
  generalize Go.Sort.grow (redrawn (w.alloc (hob W S E H O G I N)) dq) osq = W4 at hbr ⊢
  clear k0 k1 k2 k3 k4 k5 k6 k7 k8 k9 ka hn htn
  go_wp2
  go_ret
  exact ⟨rfl, ((Below.refl _ w).alloc (Nat.le_refl _) _).trans (hbr.mono (by simp))⟩
set_option maxRecDepth 100000 in
set_option maxHeartbeats 1000000 in
theorem check_d (W S E H O G I : Int) (N : Nat) (hN : N < 2 ^ 256) (h : IsW W) (h2 : (bl N : Int) ≤ W) (h3 : (0 ≤ S ∧ S ≤ 127) ∧ (0 ≤ H ∧ H ≤ 15) ∧ (1 ≤ O ∧ O ≤ 24) ∧ (0 ≤ G ∧ G ≤ 7)) (w : World) (ht : Wid w) :
    Calls Tryd.prog 5 #[hd W S E H O G I N] w fun e w' => e = .returned (.int .i64 0) ∧ Below w.heap.size w w' := by
  have hn := hasHd_new w W S E H O G I N
  have htn := ht.keep ((Below.refl _ w).alloc (Nat.le_refl _) (hob W S E H O G I N))
  have k0 := cell_regrown hn.c0
  have k1 := cell_regrown hn.c1
  have k2 := cell_regrown hn.c2
  have k3 := cell_regrown hn.c3
  have k4 := cell_regrown hn.c4
  have k5 := cell_regrown hn.c5
  have k6 := cell_regrown hn.c6
  have k7 := cell_regrown hn.c7
  have k8 := cell_regrown hn.c8
  have k9 := cell_regrown hn.c9
  have ka := cell_regrown hn.ca
  have hW : 8 ≤ W ∧ W ≤ 256 := by unfold IsW at h; omega
  obtain ⟨hW0, hW1⟩ := hW
  have hq : ∀ w : World, (Op.equalIn 10000 27 (hd W S E H O G I N) (hd W S E H O G I N)).run Tryd.prog w = Result.ok true w := by
    intro w
    rw [eq_hd _ _ _ _ _ _ _ _ _ _ _ _ _ _ _ _ hN hN]
    simp
  have hR := inRange_any W S E H O G I N
  obtain ⟨⟨a1, a2⟩, ⟨a3, a4⟩, ⟨a5, a6⟩, a7, a8⟩ := h3
  rw [within_in a1 a2, within_in a3 a4, within_in a5 a6, within_in a7 a8] at hR
  have HR := hidIn hR
  clear hR a1 a2 a3 a4 a5 a6 a7 a8
  go_enter Tryd.func5, Tryd.ntmps5
  go_wp2_with fail
  refine wp_region_quiet_below (by kernel_rfl) (by kernel_rfl) ?_
  repeat (go_big_quiet_step (first
    | (go_at_call 7; exact Calls.regrown_of (wide_yes_b W h _ (htn.keep (below_regrown _ _ _))))
    | (go_at_call 20; exact Calls.regrown_of (below_yes N hN W (by omega) (by omega) h2 _))
    | (go_at_call 21; exact Calls.regrown_of (HR.out _))))
  refine wpQuiet_nil ?_
  intro _ hw'
  obtain ⟨⟨dq, osq⟩, hw''⟩ := hw'
  subst hw''
  have hbr := below_regrown (w.alloc (hob W S E H O G I N)) dq osq
  generalize Go.Sort.grow (redrawn (w.alloc (hob W S E H O G I N)) dq) osq = W4 at hbr ⊢
  clear k0 k1 k2 k3 k4 k5 k6 k7 k8 k9 ka hn htn
  go_wp2
  go_ret
  exact ⟨rfl, ((Below.refl _ w).alloc (Nat.le_refl _) _).trans (hbr.mono (by simp))⟩
theorem check_ok (W S E H O G I : Int) (N : Nat) (hN : N < 2 ^ 256) (h : OkH W S H O G N) (w : World) (ht : Wid w) :
    Calls Tryd.prog 5 #[hd W S E H O G I N] w fun e w' => e = .returned (.int .i64 0) ∧ Below w.heap.size w w' :=
  check_d W S E H O G I N hN h.1 h.2.1 h.2.2 w ht
theorem check_bad (W S E H O G I : Int) (N : Nat) (hN : N < 2 ^ 256) (h : ¬ OkH W S H O G N) (w : World) (ht : Wid w) :
    Calls Tryd.prog 5 #[hd W S E H O G I N] w fun e w' => e = .returned (.int .i64 2) ∧ Below w.heap.size w w' := by
  by_cases h1 : IsW W
  · by_cases h2 : (bl N : Int) ≤ W
    · exact check_c W S E H O G I N hN h1 h2 (fun h3 => h ⟨h1, h2, h3⟩) w ht
    · exact check_b W S E H O G I N hN h1 (by omega) w ht
  · exact check_a W S E H O G I N h1 w ht
end Go.Proofs.YtgfmlonhjmdfjaaDoor
