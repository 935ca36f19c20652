/- bits.Read: bytes as a bit string. -/
import Derived.Test.YtgfmlonhjmdfjaaDoorB1
import Derived.Test.YtgfmlonhjmdfjaaDoorHW
namespace Go.Proofs.YtgfmlonhjmdfjaaDoor
open Go.RowKit

/-- The byte i of a string. -/
def byteAt (s : ByteArray) (i : Nat) : Nat := if h : i < s.size then (s[i]'h).toNat else 0
/-- The number of a string's first k bytes. -/
def numTo (s : ByteArray) : Nat → Nat
  | 0 => 0
  | k + 1 => numTo s k ||| byteAt s k <<< (8 * k)
theorem byteAt_lt (s : ByteArray) (i : Nat) : byteAt s i < 256 := by
  unfold byteAt
  split
  · exact UInt8.toNat_lt _
  · decide
theorem testBit_byteAt (s : ByteArray) (i j : Nat) (h : 8 ≤ j) : (byteAt s i).testBit j = false :=
  Nat.testBit_lt_two_pow (Nat.lt_of_lt_of_le (byteAt_lt s i) (Nat.pow_le_pow_right (n := 2) (by decide) h))
theorem testBit_numTo (s : ByteArray) (k j : Nat) : (numTo s k).testBit j = (decide (j < 8 * k) && (byteAt s (j / 8)).testBit (j % 8)) := by
  induction k with
  | zero => simp [numTo]
  | succ k ih =>
    rw [numTo, Nat.testBit_or, ih, Nat.testBit_shiftLeft]
    by_cases h1 : j < 8 * k
    · have h2 : j < 8 * (k + 1) := by omega
      have h3 : ¬ 8 * k ≤ j := by omega
      simp [h1, h2, h3]
    · by_cases h2 : j < 8 * (k + 1)
      · have h4 : j / 8 = k := by omega
        have h5 : j % 8 = j - 8 * k := by omega
        have h3 : 8 * k ≤ j := by omega
        simp [h1, h2, h3, h4, h5]
      · rw [testBit_byteAt s k (j - 8 * k) (by omega)]
        simp [h1, h2]
theorem numTo_lt (s : ByteArray) (k : Nat) (h : k ≤ 32) : numTo s k < 2 ^ 256 := by
  refine Nat.lt_pow_two_of_testBit _ ?_
  intro i hi
  rw [testBit_numTo]
  have : ¬ i < 8 * k := by omega
  simp [this]
theorem wd_byte (X b k i : Nat) (hb : b < 256) : wd (X ||| b <<< (8 * k)) i = if k / 8 = i then wd X i ||| b <<< (k % 8 * 8) else wd X i := by
  have hbt : ∀ j, 8 ≤ j → b.testBit j = false := fun j h => Nat.testBit_lt_two_pow (Nat.lt_of_lt_of_le hb (Nat.pow_le_pow_right (n := 2) (by decide) h))
  apply Nat.eq_of_testBit_eq
  intro j
  rw [testBit_wd, Nat.testBit_or, Nat.testBit_shiftLeft]
  by_cases h : k / 8 = i
  · rw [if_pos h, Nat.testBit_or, Nat.testBit_shiftLeft, testBit_wd]
    by_cases hj : j < 64
    · by_cases h1 : k % 8 * 8 ≤ j
      · have h2 : 8 * k ≤ 64 * i + j := by omega
        have h3 : 64 * i + j - 8 * k = j - k % 8 * 8 := by omega
        simp [hj, h1, h2, h3]
      · have h2 : ¬ 8 * k ≤ 64 * i + j := by omega
        simp [hj, h1, h2]
    · rw [hbt (j - k % 8 * 8) (by omega)]
      simp [hj]
  · rw [if_neg h, testBit_wd]
    by_cases hj : j < 64
    · by_cases h1 : 8 * k ≤ 64 * i + j
      · rw [hbt (64 * i + j - 8 * k) (by omega)]
        simp [hj]
      · simp [h1]
    · simp [hj]

theorem or_byte (X b k : Nat) (hb : b < 256) : bits .or .u64 (wd X (k / 8) : Int) (IntKind.u64.wrap (IntKind.u64.wrap (b : Int) * 2 ^ (k % 8 * 8))) = (wd (X ||| b <<< (8 * k)) (k / 8) : Int) := by
  have h0 : b <<< (k % 8 * 8) < 18446744073709551616 := by
    rw [Nat.shiftLeft_eq]
    have h1 : 2 ^ (k % 8 * 8) ≤ 2 ^ 56 := Nat.pow_le_pow_right (by decide) (by omega)
    have h2 : b * 2 ^ (k % 8 * 8) ≤ 255 * 2 ^ 56 := Nat.mul_le_mul (by omega) h1
    exact Nat.lt_of_le_of_lt h2 (by decide)
  have h1 : IntKind.u64.wrap (b : Int) = (b : Int) := by
    rw [IntKind.wrap_u64]
    omega
  have h2 : IntKind.u64.wrap (IntKind.u64.wrap (b : Int) * 2 ^ (k % 8 * 8)) = ((b <<< (k % 8 * 8) : Nat) : Int) := by
    rw [h1, show ((b : Int) * 2 ^ (k % 8 * 8)) = ((b <<< (k % 8 * 8) : Nat) : Int) from by rw [Nat.shiftLeft_eq]; simp, IntKind.wrap_u64]
    generalize b <<< (k % 8 * 8) = x at h0
    omega
  rw [h2, u64_or_nat _ _ (wd_lt _ _) h0, wd_byte _ _ _ _ hb, if_pos rfl]
/-- One word of a bit string is written. -/
theorem HasBs.setw {W : World} {b X Y i : Nat} (h : HasBs W b X) (hi : i < 4) (hj : ∀ j, i ≠ j → wd Y j = wd X j) : HasBs (W.setCell ⟨b, i, none⟩ (.int .u64 (wd Y i))) b Y := by
  obtain ⟨c0, c1, c2, c3, f0, f1, f2, f3, lt⟩ := h
  have hc : i = 0 ∨ i = 1 ∨ i = 2 ∨ i = 3 := by omega
  rcases hc with rfl | rfl | rfl | rfl
  · have e1 := hj 1 (by decide); have e2 := hj 2 (by decide); have e3 := hj 3 (by decide)
    clear hj
    refine ⟨?_, ?_, ?_, ?_, ?_, ?_, ?_, ?_, ?_⟩
    all_goals simp [*, go_sem]
  · have e1 := hj 0 (by decide); have e2 := hj 2 (by decide); have e3 := hj 3 (by decide)
    clear hj
    refine ⟨?_, ?_, ?_, ?_, ?_, ?_, ?_, ?_, ?_⟩
    all_goals simp [*, go_sem]
  · have e1 := hj 0 (by decide); have e2 := hj 1 (by decide); have e3 := hj 3 (by decide)
    clear hj
    refine ⟨?_, ?_, ?_, ?_, ?_, ?_, ?_, ?_, ?_⟩
    all_goals simp [*, go_sem]
  · have e1 := hj 0 (by decide); have e2 := hj 1 (by decide); have e3 := hj 2 (by decide)
    clear hj
    refine ⟨?_, ?_, ?_, ?_, ?_, ?_, ?_, ?_, ?_⟩
    all_goals simp [*, go_sem]

set_option maxHeartbeats 400000 in
theorem read_short (s : ByteArray) (h : s.size < 1) (w : World) :
    Calls Tryd.prog 51 #[.string s] w fun e w' => e = .returned (.tuple #[bs 0, .int .i64 4]) ∧ Below w.heap.size w w' := by
  have h' : decide ((s.size : Int) < 1) = true := by simp; omega
  go_enter Tryd.func51, Tryd.ntmps51
  go_wp2
  go_returns
  exact ⟨by simp only [bs, wd_zero]; rfl, by go_grown⟩
set_option maxHeartbeats 400000 in
theorem read_long (s : ByteArray) (h : 32 < s.size) (w : World) :
    Calls Tryd.prog 51 #[.string s] w fun e w' => e = .returned (.tuple #[bs 0, .int .i64 4]) ∧ Below w.heap.size w w' := by
  have h' : 1 ≤ (s.size : Int) := by omega
  have h2' : decide (32 < (s.size : Int)) = true := by simp; omega
  go_enter Tryd.func51, Tryd.ntmps51
  go_wp2
  go_returns
  exact ⟨by simp only [bs, wd_zero]; rfl, by go_grown⟩

set_option maxHeartbeats 1000000 in
theorem read_ok (s : ByteArray) (h1 : 1 ≤ s.size) (h2 : s.size ≤ 32) (w : World) :
    Calls Tryd.prog 51 #[.string s] w fun e w' => e = .returned (.tuple #[bs (numTo s s.size), .int .i64 0]) ∧ Below w.heap.size w w' := by
  go_enter Tryd.func51, Tryd.ntmps51
  go_wp2
  go_loopw [17] (fun i wr => ∃ k : Nat, k ≤ s.size ∧ i = .int .i64 k ∧ HasBs wr (w.heap.size + 1) (numTo s k) ∧ HasBs wr w.heap.size 0 ∧ Below w.heap.size w wr) (fun i _ => s.size - (intOf i).toNat)
  case atStart =>
    have k0 := hasBs_new w 0
    have k1 := hasBs_new (w.alloc (.cells #[.int .u64 (wd 0 0), .int .u64 (wd 0 1), .int .u64 (wd 0 2), .int .u64 (wd 0 3)] 25)) 0
    have k0' := k0.grow (.cells #[.int .u64 (wd 0 0), .int .u64 (wd 0 1), .int .u64 (wd 0 2), .int .u64 (wd 0 3)] 25)
    simp only [World.size_alloc, wd_zero] at k1 k0'
    exact ⟨0, by omega, rfl, k1, k0', by go_grown⟩
  case round =>
    obtain ⟨k, hk, rfl, hB, hR, hbel⟩ := hrel
    by_cases hlt : k < s.size
    · have hc : wr.cell? ⟨w.heap.size + 1, k / 8, none⟩ = some (.int .u64 (wd (numTo s k) (k / 8))) ∧ wr.frozen? ⟨w.heap.size + 1, k / 8, none⟩ = false := by
        have hcs : k / 8 = 0 ∨ k / 8 = 1 ∨ k / 8 = 2 ∨ k / 8 = 3 := by omega
        rcases hcs with e | e | e | e <;> rw [e]
        · exact ⟨hB.c0, hB.f0⟩
        · exact ⟨hB.c1, hB.f1⟩
        · exact ⟨hB.c2, hB.f2⟩
        · exact ⟨hB.c3, hB.f3⟩
      obtain ⟨hc, hf⟩ := hc
      have HE : Hid ((s[k]'hlt).toNat = byteAt s k) := by simp [Hid, byteAt, hlt]
      have HX : Hid (numTo s (k + 1) = numTo s k ||| byteAt s k <<< (8 * k)) := rfl
      have HB := hidIn hB
      have HR := hidIn hR
      clear hB hR
      generalize numTo s k = X at *
      go_wp2_with fail
      go_region
      rw [HE.out, or_byte _ _ _ (byteAt_lt s k)]
      go_wp2
      go_roundw
      case rel =>
        refine ⟨k + 1, by omega, by go_num, ?_, ?_, ?_⟩
        · rw [HX.out]
          exact (HB.out.setw (by omega) (fun j hj => by rw [wd_byte _ _ _ _ (byteAt_lt s k), if_neg hj])).keep (Below.refl _ _).drew (by simpa using HB.out.lt)
        · exact (HR.out.keep (B := w.heap.size + 1) ((Below.refl _ wr).setCell (p := ⟨w.heap.size + 1, k / 8, none⟩) (Nat.le_refl _) _) (by omega)).keep (Below.refl _ _).drew (by simpa using HR.out.lt)
        · exact (hbel.setCell (p := ⟨w.heap.size + 1, k / 8, none⟩) (Nat.le_succ _) _).drew
      case measure => simp [intOf]; omega
    · obtain rfl : k = s.size := by omega
      obtain ⟨X, hX⟩ : ∃ X, numTo s s.size = X := ⟨_, rfl⟩
      rw [hX] at hB
      have HX := hidIn hX
      clear hX
      obtain ⟨c0, c1, c2, c3, _, _, _, _, _⟩ := hB
      obtain ⟨d0, d1, d2, d3, g0, g1, g2, g3, lt'⟩ := hR
      go_wp2
      refine bodyPost_ret (v := .tuple #[bs X, .int .i64 0]) (by simp [results, Tryd.results51, go_sem, d0, d1, d2, d3]) rfl ⟨by rw [HX.out], ?_⟩
      exact below_put hbel (Nat.le_refl _)
end Go.Proofs.YtgfmlonhjmdfjaaDoor
