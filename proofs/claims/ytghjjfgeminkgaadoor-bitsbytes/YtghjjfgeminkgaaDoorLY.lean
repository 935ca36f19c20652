/- The law BitsBytes, walked. -/
import Derived.Test.YtghjjfgeminkgaaDoorRE
import Derived.Test.YtghjjfgeminkgaaDoorB2
import Derived.Test.YtghjjfgeminkgaaDoorRY
import Derived.Test.YtghjjfgeminkgaaDoorLP
namespace Go.Proofs.YtghjjfgeminkgaaDoor
open Go.RowKit

/-- Both Bytes give one answer. -/
theorem bytes_both (N : Nat) (hN : N < 2 ^ 256) (width : Int) : ∃ S E,
    (∀ w, Calls Tryd.prog 36 #[bs N, .int .i64 width] w fun e w' => e = .returned (.tuple #[.string S, .int .i64 E]) ∧ Below w.heap.size w w') ∧
    (∀ w, Calls Tryd.prog 37 #[bs N, .int .i64 width] w fun e w' => e = .returned (.tuple #[.string S, .int .i64 E]) ∧ Below w.heap.size w w') := by
  by_cases h : width < 8 ∨ 256 < width ∨ width % 8 ≠ 0
  · exact ⟨_, _, bytes_arg N width h, rbytes_arg N width h⟩
  · obtain ⟨n, rfl⟩ : ∃ n : Nat, width = 8 * (n : Int) := ⟨(width / 8).toNat, by omega⟩
    have h1 : 1 ≤ n := by omega
    have h2 : n ≤ 32 := by omega
    by_cases hb : bl N ≤ 8 * n
    · exact ⟨_, _, bytes_ok N n hN h1 h2 hb, rbytes_ok N n hN h1 h2 hb⟩
    · exact ⟨_, _, bytes_long N n hN h1 h2 (by omega), rbytes_long N n hN h1 h2 (by omega)⟩
/-- Both Reads give one answer. -/
theorem read_both (s : ByteArray) : ∃ X E,
    (∀ w, Calls Tryd.prog 38 #[.string s] w fun e w' => e = .returned (.tuple #[bs X, .int .i64 E]) ∧ Below w.heap.size w w') ∧
    (∀ w, Calls Tryd.prog 39 #[.string s] w fun e w' => e = .returned (.tuple #[bs X, .int .i64 E]) ∧ Below w.heap.size w w') := by
  by_cases h : s.size < 1
  · exact ⟨_, _, read_short s h, rread_short s h⟩
  · by_cases h2 : 32 < s.size
    · exact ⟨_, _, read_long s h2, rread_long s h2⟩
    · exact ⟨_, _, read_ok s (by omega) (by omega), rread_ok s (by omega) (by omega)⟩

set_option maxRecDepth 100000 in
set_option maxHeartbeats 1000000 in
theorem lawBytes_walk (N : Nat) (hN : N < 2 ^ 256) (width : Int) (s : ByteArray) (w : World) (ht : Tabs w) :
    Calls Tryd.prog 6 #[bs N, .int .i64 width, .string s] w fun e w' => e = .returned (.bool true) ∧ Below w.heap.size w w' := by
  obtain ⟨S, E, hb1, hb2⟩ := bytes_both N hN width
  obtain ⟨X, F, hr1, hr2⟩ := read_both s
  have B1 := hidIn hb1
  have B2 := hidIn hb2
  have R1 := hidIn hr1
  have R2 := hidIn hr2
  have eX := eq_same X
  clear hb1 hb2 hr1 hr2 hN
  unfold bs
  go_enter Tryd.func6, Tryd.ntmps6
  go_wp2_with fail
  refine (B1.out _).mono ?_
  rintro e w1 ⟨rfl, hb1⟩
  have hN1 := (hasBs_new w N).keep hb1 (by simp)
  have hw1 : Below w.heap.size w w1 := ((Below.refl _ w).alloc (Nat.le_refl _) _).trans (hb1.mono (by simp))
  have hs1 := hw1.size
  obtain ⟨c0, c1, c2, c3, _, _, _, _, _⟩ := hN1
  clear hb1
  go_wp2_with fail
  refine (B2.out _).mono ?_
  rintro e w2 ⟨rfl, hb2⟩
  have hw2 : Below w.heap.size w w2 := hw1.trans (hb2.mono hs1)
  have hs2 := hw2.size
  clear hb2 c0 c1 c2 c3
  go_wp2_with fail
  refine (R1.out _).mono ?_
  rintro e w3 ⟨rfl, hb3⟩
  have hw3 : Below w.heap.size w w3 := hw2.trans (hb3.mono hs2)
  have hs3 := hw3.size
  clear hb3
  go_wp2_with fail
  refine (R2.out _).mono ?_
  rintro e w4 ⟨rfl, hb4⟩
  have hX4 := (hasBs_new w3 X).keep hb4 (by simp)
  have hw4 : Below w.heap.size w w4 := (hw3.alloc hs3 _).trans (hb4.mono (by simp; omega))
  have hs4 := hw4.size
  have hs34 : w3.heap.size + 1 ≤ w4.heap.size := by simpa using hb4.size
  have ht4 := ht.keep hw4
  obtain ⟨c0, c1, c2, c3, _, _, _, _, _⟩ := hX4
  clear hb4
  go_wp2_with fail
  refine (works_any _ (ht4.keep ((Below.refl _ w4).alloc (Nat.le_refl _) _))).mono ?_
  rintro e w5 ⟨rfl, hb5⟩
  go_wp2
  go_ret
  exact ⟨rfl, (hw4.alloc hs4 _).trans (hb5.mono (by simp; omega))⟩
end Go.Proofs.YtghjjfgeminkgaaDoor
