/- The document's Read. -/
import Derived.Test.YtgfmlonhjmdfjaaDoorR2
import Derived.Test.YtgfmlonhjmdfjaaDoorRD
namespace Go.Proofs.YtgfmlonhjmdfjaaDoor
open Go.RowKit

theorem bit_test8 (x r : Nat) (hx : x < 256) : (bits .and .u8 ((x : Int) / 2 ^ r) 1 == 1) = x.testBit r := by
  have e : ((x : Int) / 2 ^ r) = ((x / 2 ^ r : Nat) : Int) := by simp
  have h := u8_and_nat (x / 2 ^ r) 1 (Nat.lt_of_le_of_lt (Nat.div_le_self _ _) hx) (by decide)
  have h' : bits .and .u8 ((x : Int) / 2 ^ r) 1 = ((x / 2 ^ r % 2 : Nat) : Int) := by
    rw [e]
    refine Eq.trans ?_ (h.trans ?_)
    · rfl
    · rw [nat_mask1]
  rw [h', Nat.testBit_eq_decide_div_mod_eq]
  rw [Bool.eq_iff_iff]
  simp
  omega

set_option maxHeartbeats 400000 in
theorem rread_short (s : ByteArray) (h : s.size < 1) (w : World) :
    Calls Tryd.prog 36 #[.string s] w fun e w' => e = .returned (.tuple #[bs 0, .int .i64 4]) ∧ Below w.heap.size w w' := by
  have h' : decide ((s.size : Int) < 1) = true := by simp; omega
  go_enter Tryd.func36, Tryd.ntmps36
  go_wp2
  go_returns
  exact ⟨by simp only [bs, wd_zero]; rfl, by go_grown⟩
set_option maxHeartbeats 400000 in
theorem rread_long (s : ByteArray) (h : 32 < s.size) (w : World) :
    Calls Tryd.prog 36 #[.string s] w fun e w' => e = .returned (.tuple #[bs 0, .int .i64 4]) ∧ Below w.heap.size w w' := by
  have h' : 1 ≤ (s.size : Int) := by omega
  have h2' : decide (32 < (s.size : Int)) = true := by simp; omega
  go_enter Tryd.func36, Tryd.ntmps36
  go_wp2
  go_returns
  exact ⟨by simp only [bs, wd_zero]; rfl, by go_grown⟩

set_option maxRecDepth 100000 in
set_option maxHeartbeats 1000000 in
theorem rread_ok (s : ByteArray) (h1 : 1 ≤ s.size) (h2 : s.size ≤ 32) (w : World) :
    Calls Tryd.prog 36 #[.string s] w fun e w' => e = .returned (.tuple #[bs (numTo s s.size), .int .i64 0]) ∧ Below w.heap.size w w' := by
  have HM : Hid (numTo s s.size % 2 ^ (8 * s.size) = numTo s s.size) := by
    apply Nat.eq_of_testBit_eq
    intro j
    rw [Nat.testBit_mod_two_pow, testBit_numTo]
    cases decide (j < 8 * s.size) <;> rfl
  have HT : Hid (∀ j, j < 8 * s.size → (numTo s s.size).testBit j = (byteAt s (j / 8)).testBit (j % 8)) := hidIn (by
    intro j hj
    rw [testBit_numTo]
    simp [hj])
  go_enter Tryd.func36, Tryd.ntmps36
  go_wp2
  go_loopw [5] (fun i wr => ∃ k : Nat, k ≤ 8 * s.size ∧ i = .int .i64 k ∧ HasBs wr (w.heap.size + 1) (numTo s s.size % 2 ^ k) ∧ HasBs wr w.heap.size 0 ∧ Below w.heap.size w wr) (fun i _ => 8 * s.size - (intOf i).toNat)
  case atStart =>
    have k0 := hasBs_new w 0
    have k1 := hasBs_new (w.alloc (.cells #[.int .u64 (wd 0 0), .int .u64 (wd 0 1), .int .u64 (wd 0 2), .int .u64 (wd 0 3)] 25)) 0
    have k0' := k0.alloc (.cells #[.int .u64 (wd 0 0), .int .u64 (wd 0 1), .int .u64 (wd 0 2), .int .u64 (wd 0 3)] 25)
    simp only [World.size_alloc, wd_zero] at k1 k0'
    have e : numTo s s.size % 2 ^ 0 = 0 := by simp [Nat.mod_one]
    exact ⟨0, by omega, rfl, by rw [e]; exact k1, k0', by go_grown⟩
  case round =>
    obtain ⟨k, hk, rfl, hB, hR, hbel⟩ := hrel
    by_cases hlt : k < 8 * s.size
    · have hlt8 : k / 8 < s.size := by omega
      have HE : Hid ((s[k / 8]'hlt8).toNat = byteAt s (k / 8)) := by simp [Hid, byteAt, hlt8]
      have hbit : (bits .and .u8 (((s[k / 8]'hlt8).toNat : Int) / 2 ^ (k % 8)) 1 == 1) = (numTo s s.size).testBit k := by
        rw [bit_test8 _ _ (UInt8.toNat_lt _), HT.out k hlt, HE.out]
      cases hb : (numTo s s.size).testBit k
      · have HS : Hid (numTo s s.size % 2 ^ (k + 1) = numTo s s.size % 2 ^ k) := mod_succ_no hb
        rw [hb] at hbit
        clear hb
        generalize numTo s s.size % 2 ^ k = Y at hB HS
        have HB := hidIn hB
        have HR := hidIn hR
        clear hB hR
        go_wp2
        go_roundw
        case rel => exact ⟨k + 1, by omega, by go_num, by rw [HS.out]; exact HB.out, HR.out, hbel⟩
        case measure => simp [intOf]; omega
      · have HS : Hid (numTo s s.size % 2 ^ (k + 1) = numTo s s.size % 2 ^ k ||| 2 ^ k) := mod_succ_yes hb
        rw [hb] at hbit
        clear hb
        generalize numTo s s.size % 2 ^ k = Y at hB HS
        have HB := hidIn hB
        have HR := hidIn hR
        obtain ⟨c0, c1, c2, c3, f0, f1, f2, f3, lt⟩ := hB
        clear hR
        go_wp2_with fail
        refine (put_any Y k (by omega) _).mono ?_
        rintro e w1 ⟨rfl, hb1⟩
        have HB1 := hidIn (HB.out.keep hb1 HB.out.lt)
        obtain ⟨q0, q1, q2, q3, r0, r1, r2, r3, _⟩ := HB1.out
        have HG := hidIn hb1
        clear hb1 c0 c1 c2 c3 f0 f1 f2 f3
        go_wp2
        go_roundw
        case rel =>
          refine ⟨k + 1, by omega, by go_num, by rw [HS.out]; exact HB1.out.put _, ?_, ?_⟩
          · exact (HR.out.keep HG.out HR.out.lt).keep (below_put (b := w.heap.size + 1) (Below.refl _ w1) (Nat.le_refl _)) (by omega)
          · exact below_put (hbel.trans (HG.out.mono hbel.size)) (by omega)
        case measure => simp [intOf]; omega
    · obtain rfl : k = 8 * s.size := by omega
      rw [HM.out] at hB
      obtain ⟨X, hX⟩ : ∃ X, numTo s s.size = X := ⟨_, rfl⟩
      rw [hX] at hB
      have HX := hidIn hX
      clear hX
      obtain ⟨c0, c1, c2, c3, _, _, _, _, _⟩ := hB
      obtain ⟨d0, d1, d2, d3, g0, g1, g2, g3, lt'⟩ := hR
      go_wp2
      refine bodyPost_ret (v := .tuple #[bs X, .int .i64 0]) (by simp [results, Tryd.results36, go_sem, d0, d1, d2, d3]) rfl ⟨by rw [HX.out], ?_⟩
      exact below_put hbel (Nat.le_refl _)
end Go.Proofs.YtgfmlonhjmdfjaaDoor
