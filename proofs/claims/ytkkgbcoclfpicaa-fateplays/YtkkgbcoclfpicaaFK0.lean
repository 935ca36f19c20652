/- FateKnown: its rules, its closure, what it makes. -/
import Derived.Test.YtkkgbcoclfpicaaFA9
namespace Go.Proofs.Ytkkgbcoclfpicaa.Fa
open Go.RowKit

def zR5 : Ru := (0, 0, 0, 0, 0)
theorem make_65 (w : World) : (Instr.makeSlice 22 (.int .i64 65) (.int .i64 65)).run Try.prog w = .ok (.slice (some ⟨w.heap.size, 0, none⟩) 65 65) (w.alloc (.cells (fl ruC (List.replicate 65 zR5)).toArray 32)) := by kernel_rfl
theorem chk_65 : chkR (List.replicate 65 zR5) = (64, 3) := chk_long (by simp)
theorem slAt_nil5 (w : World) : SlAt ruC 5 w (.slice none 0 0) [] := ⟨none, 0, rfl, by simp, by simp, fun h => by simp at h⟩
theorem chk_one {r : Ru} (h : ruOk r = false) : chkR [r] = (0, 2) := chk_stop (i := 0) (by simp) (by simp) (fun j hj => by omega) (by simp [badAt, h]) (by omega)
theorem chk_two {s r : Ru} (hs : ruOk s = true) (h : ruOk r = false) : chkR [s, r] = (1, 2) :=
  chk_stop (i := 1) (by simp) (by simp) (fun j hj => by
    obtain rfl : j = 0 := by omega
    simp [badAt, hs, findR]) (by simp [badAt, h]) (by omega)
def badL : List Ru := [(1, 2, 1, 1, 1), (1, 1, 1, 1, 0), (1, 2, 0, 1, 0), (0, 2, 1, 1, 0), (1, 25, 1, 1, 0), (1, 2, 1048577, 1, 0), (1, 2, 1, 3, 65), (1, 2, 1, 4, 1)]
theorem badL_bad : ∀ r ∈ badL, ruOk r = false := by decide
set_option maxRecDepth 100000 in
theorem fdrop_any (a b c d : Int) (w : World) : Calls Try.prog 18 #[.int .i64 a, .int .i64 b, .int .i64 c, .int .i64 d] w fun e w' => e = .returned (.agg #[.int .i64 a, .int .i64 b, .int .i64 c, .int .i64 1, .int .i64 d]) ∧ Below w.heap.size w w' := by
  go_enter Try.func18, Try.ntmps18
  go_wp2
  refine bodyPost_ret (v := ruV (a, b, c, 1, d)) (by simp [results, Try.results18, asAddr, Result.andThen, go_sem]) rfl ⟨rfl, by go_grown⟩
theorem slAt_new5 (w : World) (l : List Ru) (h : l.length ≤ 100) : SlAt ruC 5 (w.alloc (.cells (fl ruC l).toArray 32)) (.slice (some ⟨w.heap.size, 0, none⟩) l.length l.length) l :=
  slAt_block (cs := ruC) (sz := 5) (fun _ => rfl) (heap_alloc_last w _) (Nat.le_refl _) (by omega)
theorem check_bad {r : Ru} (h : ruOk r = false) (w : World) : Calls Try.prog 6 #[.slice (some ⟨w.heap.size, 0, none⟩) 2 2] (w.alloc (.cells #[.int .i64 3, .int .i64 4, .int .i64 1, .int .i64 1, .int .i64 0, .int .i64 r.1, .int .i64 r.2.1, .int .i64 r.2.2.1, .int .i64 r.2.2.2.1, .int .i64 r.2.2.2.2] 32)) fun e w' => e = .returned (.tuple #[.int .i64 1, .int .i64 2]) ∧ Below w.heap.size w w' := by
  refine (fcheck_any (slAt_new5 w [(3, 4, 1, 1, 0), r] (by simp)) (chk_two (by decide) h)).mono ?_
  rintro e w' ⟨rfl, hb⟩
  exact ⟨rfl, ((Below.refl _ w).alloc (Nat.le_refl _) _).trans (hb.mono (by simp))⟩
theorem new_bad {r : Ru} (h : ruOk r = false) (w : World) : Calls Try.prog 8 #[.slice (some ⟨w.heap.size, 0, none⟩) 1 1] (w.alloc (.cells #[.int .i64 r.1, .int .i64 r.2.1, .int .i64 r.2.2.1, .int .i64 r.2.2.2.1, .int .i64 r.2.2.2.2] 32)) fun e w' => e = .returned (.tuple #[nilQ, .int .i64 2]) ∧ Below w.heap.size w w' := by
  refine (fnew_no (slAt_new5 w [r] (by simp)) (chk_one h) (by omega)).mono ?_
  rintro e w' ⟨rfl, hb⟩
  exact ⟨rfl, ((Below.refl _ w).alloc (Nat.le_refl _) _).trans (hb.mono (by simp))⟩
theorem check_again (w : World) : Calls Try.prog 6 #[.slice (some ⟨w.heap.size, 0, none⟩) 2 2] (w.alloc (.cells #[.int .i64 1, .int .i64 2, .int .i64 1, .int .i64 1, .int .i64 0, .int .i64 1, .int .i64 2, .int .i64 1, .int .i64 3, .int .i64 64] 32)) fun e w' => e = .returned (.tuple #[.int .i64 1, .int .i64 7]) ∧ Below w.heap.size w w' := by
  refine (fcheck_any (slAt_new5 w [(1, 2, 1, 1, 0), (1, 2, 1, 3, 64)] (by simp)) (show chkR _ = (1, 7) from by decide)).mono ?_
  rintro e w' ⟨rfl, hb⟩
  exact ⟨rfl, ((Below.refl _ w).alloc (Nat.le_refl _) _).trans (hb.mono (by simp))⟩
theorem check_65 (w : World) : Calls Try.prog 6 #[.slice (some ⟨w.heap.size, 0, none⟩) 65 65] (w.alloc (.cells (fl ruC (List.replicate 65 zR5)).toArray 32)) fun e w' => e = .returned (.tuple #[.int .i64 64, .int .i64 3]) ∧ Below w.heap.size w w' := by
  have h := slAt_new5 w (List.replicate 65 zR5) (by simp)
  rw [List.length_replicate] at h
  refine (fcheck_any h chk_65).mono ?_
  rintro e w' ⟨rfl, hb⟩
  exact ⟨rfl, ((Below.refl _ w).alloc (Nat.le_refl _) _).trans (hb.mono (by simp))⟩
end Go.Proofs.Ytkkgbcoclfpicaa.Fa
