/- The rank, the program's and the document's. -/
import Derived.Test.YtcgndpenalcpeaaDB
import Derived.Test.YtcgndpenalcpeaaD0
namespace Go.Proofs.Ytcgndpenalcpeaa
open Go.RowKit

/-- The model's words. -/
theorem rank_step (e : Nat) (n : Int) : ∃ m : Nat, m < 4294967296 ∧ IntKind.u32.wrap n = (m : Int) ∧ mix e n = mixN e m := ⟨(n % 4294967296).toNat, by omega, by rw [IntKind.wrap_u32]; omega, rfl⟩
theorem iw0 {e : Nat} (m : Nat) (he : e < 4294967296) : bits .xor .u32 (e : Int) ((m : Int) * 2654435761 % 4294967296) = ((mx0 e m : Nat) : Int) := by
  rw [show ((m : Int) * 2654435761 % 4294967296) = ((m * 2654435761 % 4294967296 : Nat) : Int) from by omega, u32_xor_nat _ _ he (by omega)]
  rfl
theorem iw1 {x : Nat} (h : x < 4294967296) : bits .xor .u32 (x : Int) ((x : Int) / 65536) = ((mx1 x : Nat) : Int) := by
  rw [show ((x : Int) / 65536) = ((x / 65536 : Nat) : Int) from by omega, u32_xor_nat _ _ h (by omega)]
  rfl
theorem iw3 {x : Nat} (h : x < 4294967296) : bits .xor .u32 (x : Int) ((x : Int) / 8192) = ((mx3 x : Nat) : Int) := by
  rw [show ((x : Int) / 8192) = ((x / 8192 : Nat) : Int) from by omega, u32_xor_nat _ _ h (by omega)]
  rfl
theorem iw2 (x : Nat) : (x : Int) * 2246822507 % 4294967296 = ((mx2 x : Nat) : Int) := by unfold mx2; omega
theorem iw4 (x : Nat) : (x : Int) * 3266489909 % 4294967296 = ((mx4 x : Nat) : Int) := by unfold mx4; omega
set_option maxRecDepth 100000 in
theorem rank_any {e : Nat} (he : e < 4294967296) (n : Int) (w : World) : Calls Try.prog 28 #[.int .u32 e, .int .i64 n] w fun x w' => x = .returned (.int .u32 (mix e n : Nat)) ∧ w' = w := by
  obtain ⟨m, hm, hmw, hmx⟩ := rank_step e n
  rw [hmx]
  go_enter Try.func28, Try.ntmps28
  go_wp2_with fail
  rw [iw0 m he, iw1 (mx0_lt he), iw2, iw3 (mx2_lt _), iw4, iw1 (mx4_lt _)]
  go_ret
  exact ⟨rfl, rfl⟩
set_option maxRecDepth 100000 in
theorem dmix_any {e : Nat} (he : e < 4294967296) (n : Int) (w : World) : Calls Try.prog 15 #[.int .u32 e, .int .i64 n] w fun x w' => x = .returned (.int .u32 (mix e n : Nat)) ∧ w' = w := by
  obtain ⟨m, hm, hmw, hmx⟩ := rank_step e n
  rw [hmx]
  go_enter Try.func15, Try.ntmps15
  go_wp2_with fail
  rw [iw0 m he, iw1 (mx0_lt he), iw2, iw3 (mx2_lt _), iw4, iw1 (mx4_lt _)]
  go_ret
  exact ⟨rfl, rfl⟩
theorem mix_any {e : Nat} (he : e < 4294967296) (n : Int) (w : World) : Calls Try.prog 14 #[.int .u32 e, .int .i64 n] w fun x w' => x = .returned (.int .u32 (mix e n : Nat)) ∧ w' = w := by
  have HR := hidIn (rank_any he n w)
  generalize mix e n = r at HR ⊢
  go_enter Try.func14, Try.ntmps14
  go_wp2_with fail
  refine HR.out.mono ?_
  rintro x w1 ⟨rfl, hw1⟩
  rw [hw1]
  clear hw1 w1 HR
  go_wp2_with fail
  go_ret
  exact ⟨rfl, rfl⟩
/-- Two numbers held against each other. -/
def cmpN (x y : Nat) : Int := if x < y then -1 else if y < x then 1 else 0
theorem isNaN_any (x : Int) (w : World) : Calls Try.prog 44 #[.int .u32 x] w fun e w' => e = .returned (.bool false) ∧ w' = w := by
  go_enter Try.func44, Try.ntmps44
  go_wp2
  go_ret
  exact ⟨by simp, rfl⟩
theorem cmp_any (x y : Nat) (w : World) : Calls Try.prog 33 #[.int .u32 x, .int .u32 y] w fun e w' => e = .returned (.int .i64 (cmpN x y)) ∧ w' = w := by
  by_cases h1 : x < y
  · have hd : (x : Int) < (y : Int) := by omega
    have HE : Hid (cmpN x y = -1) := hidIn (by simp [cmpN, h1])
    go_enter Try.func33, Try.ntmps33
    go_wp2_with (go_at_call 44; refine (isNaN_any _ _).mono ?_; rintro e w1 ⟨rfl, rfl⟩)
    go_ret
    exact ⟨by rw [HE.out]; rfl, rfl⟩
  · have hd : ¬ (x : Int) < (y : Int) := by omega
    by_cases h2 : y < x
    · have hd2 : (y : Int) < (x : Int) := by omega
      have HE : Hid (cmpN x y = 1) := hidIn (by simp [cmpN, h1, h2])
      go_enter Try.func33, Try.ntmps33
      go_wp2_with (go_at_call 44; refine (isNaN_any _ _).mono ?_; rintro e w1 ⟨rfl, rfl⟩)
      go_ret
      exact ⟨by rw [HE.out]; rfl, rfl⟩
    · have hd2 : ¬ (y : Int) < (x : Int) := by omega
      have HE : Hid (cmpN x y = 0) := hidIn (by simp [cmpN, h1, h2])
      go_enter Try.func33, Try.ntmps33
      go_wp2_with (go_at_call 44; refine (isNaN_any _ _).mono ?_; rintro e w1 ⟨rfl, rfl⟩)
      go_ret
      exact ⟨by rw [HE.out]; rfl, rfl⟩
end Go.Proofs.Ytcgndpenalcpeaa
