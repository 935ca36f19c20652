/- The law WireBursts, walked. -/
import Derived.Test.YtmfadgglhdbppabK12
import Derived.Deep.RegionHeld3
namespace Go.Proofs.Ytmfadgglhdbppab
open Go.RowKit

set_option maxHeartbeats 400000 in
theorem bursts_zero (b : ByteArray) (hb : b.size ≤ 140737488351232) (a : Int) (w : World) :
    Calls Try.prog 4 #[.string b, .int .i64 a, .int .u16 0] w fun e w' => e = .returned (.bool true) ∧ Below w.heap.size w w' := by
  have hs := sealS_size b
  have h2 : (2 : Int) ≤ ((sealS b).size : Int) := by omega
  have HS := hidIn hs
  clear hs
  go_enter Try.func4, Try.ntmps4
  go_wp2_with (first
    | (go_at_call 6; refine (works_any _).mono ?_; rintro e w1 ⟨rfl, hb1⟩)
    | (go_at_call 8; refine (seal_any _ (by omega) _).mono ?_; rintro e w2 ⟨rfl, hb2⟩))
  go_ret
  refine ⟨?_, hb1.trans (hb2.mono hb1.size)⟩
  simp

theorem tmod_bounds (a m : Int) (hm : 0 < m) : -m < a.tmod m ∧ a.tmod m < m := by
  have h1 := Int.tmod_lt_of_pos a hm
  have h2 := Int.lt_tmod_of_pos a hm
  omega
theorem bit_test (t k : Nat) (ht : t < 65536) : (bits .and .u16 ((t : Int) / 2 ^ k) 1 == 1) = t.testBit k := by
  have hd : t / 2 ^ k < 65536 := Nat.lt_of_le_of_lt (Nat.div_le_self _ _) ht
  have e : ((t : Int) / 2 ^ k) = ((t / 2 ^ k : Nat) : Int) := by simp
  have := u16_and_nat (t / 2 ^ k) 1 hd (by decide)
  rw [show ((1 : Nat) : Int) = 1 from rfl] at this
  rw [e, this, nat_mask1, Nat.testBit_eq_decide_div_mod_eq, Bool.eq_iff_iff]
  simp only [beq_iff_eq, decide_eq_true_eq]
  omega
theorem xor_byte (x : UInt8) (q : Nat) : bits .xor .u8 (x.toNat : Int) (128 / 2 ^ q) = ((x ^^^ UInt8.ofNat (128 / 2 ^ q)).toNat : Nat) := by
  have hm : 128 / 2 ^ q < 256 := Nat.lt_of_le_of_lt (Nat.div_le_self _ _) (by decide)
  have e : ((128 : Int) / 2 ^ q) = ((128 / 2 ^ q : Nat) : Int) := by simp
  rw [e, u8_xor_nat _ _ (by have := x.toNat_lt; omega) hm, UInt8.toNat_xor, UInt8.toNat_ofNat', Nat.mod_eq_of_lt hm]
/-- What holds at each round: the bytes c of the block g are the sealed ones, turned as far as k. -/
def BI (b : ByteArray) (t A k g : Nat) (c : List UInt8) (w wr : World) : Prop :=
  c.length = (sealS b).size ∧ HasL wr g c ∧ crc 65535 c = crc 65535 (sealed b.data.toList) ^^^ shN (8 * (sealS b).size - A) (bur t k) ∧ (bur t k = 0 → c = sealed b.data.toList) ∧ Below w.heap.size w wr
theorem bi_start (b : ByteArray) (t A g : Nat) (w wr : World) (h : HasL wr g (sealS b).data.toList) (hb : Below w.heap.size w wr) : BI b t A 0 g (sealS b).data.toList w wr := by
  refine ⟨by simp, h, ?_, fun _ => rfl, hb⟩
  show crc 65535 (sealed b.data.toList) = _
  rw [show bur t 0 = 0 from rfl, shN_zero, Nat.xor_zero]
theorem bi_skip {b : ByteArray} {t A k g : Nat} {c : List UInt8} {w wr : World} (h : BI b t A k g c w wr) (ht : t.testBit k = false) : BI b t A (k + 1) g c w wr := by
  unfold BI at h ⊢
  rw [bur_skip ht]
  exact h
theorem bi_flip {b : ByteArray} {t A k g : Nat} {c : List UInt8} {x : UInt8} {w wr : World} (hx : x = c.getD ((A + k) / 8) 0) (h : BI b t A k g c w wr) (ht : t.testBit k = true) (hk : k < 16) (hA : A + k < 8 * (sealS b).size) (hg : w.heap.size ≤ g) :
    BI b t A (k + 1) g (flip c (A + k)) w (wr.setCell ⟨g, (A + k) / 8, none⟩ (.int .u8 ((x ^^^ UInt8.ofNat (128 / 2 ^ ((A + k) % 8))).toNat : Nat))).drew := by
  subst hx
  obtain ⟨h1, h2, h3, h4, h5⟩ := h
  have hsl : (sealed b.data.toList).length = (sealS b).size := by rw [← sealS_data]; simp
  refine ⟨by rw [flip_length]; exact h1, h2.set _ _, ?_, fun e => absurd e (bur_ne (by omega) (Nat.lt_succ_self k) ht), (h5.setCell (p := ⟨g, (A + k) / 8, none⟩) hg _).drew⟩
  rw [← hsl] at h1 h3 hA ⊢
  exact burst_step hk hA h1 h3 ht
set_option maxHeartbeats 1000000 in
theorem bursts_turn (b : ByteArray) (hb : b.size ≤ 140737488351232) (a : Int) (_ : -9223372036854775808 ≤ a) (_ : a ≤ 9223372036854775807) (t : Nat) (ht : t < 65536) (h0 : t ≠ 0) (w : World) :
    Calls Try.prog 4 #[.string b, .int .i64 a, .int .u16 t] w fun e w' => e = .returned (.bool true) ∧ Below w.heap.size w w' := by
  have hs := sealS_size b
  have h2 : ¬ ((sealS b).size : Int) < 2 := by omega
  have h3 : (sealS b).size ≤ 140737488351234 := by omega
  have h4 : ((t : Int) == 0) = false := by simp; omega
  have HS := hidIn hs
  clear hs
  obtain ⟨q1, q2⟩ := tmod_bounds a (8 * ((sealS b).size : Int)) (by omega)
  go_enter Try.func4, Try.ntmps4
  go_wp2_with (go_at_call 6; refine (works_any _).mono ?_; rintro e w1 ⟨rfl, hb1⟩)
  refine (seal_any _ (by omega) _).mono ?_
  rintro e w2 ⟨rfl, hb2⟩
  have B2 : Below w.heap.size w w2 := hb1.trans (hb2.mono hb1.size)
  obtain ⟨W, cap, hconv, hbW, hL, hW⟩ := conv_any (sealS b) w2
  have HL := hidIn hL
  have HB := hidIn (B2.trans (hbW.mono B2.size))
  clear hL hbW
  go_wp2
  obtain ⟨A, hA, hAl⟩ : ∃ A : Nat, (a.tmod (8 * ((sealS b).size : Int)) + 8 * ((sealS b).size : Int)) % (8 * ((sealS b).size : Int)) = (A : Int) ∧ A < 8 * (sealS b).size :=
    ⟨((a.tmod (8 * ((sealS b).size : Int)) + 8 * ((sealS b).size : Int)) % (8 * ((sealS b).size : Int))).toNat, (Int.toNat_of_nonneg (Int.emod_nonneg _ (by omega))).symm, by
      have := Int.emod_lt_of_pos (a.tmod (8 * ((sealS b).size : Int)) + 8 * ((sealS b).size : Int)) (show 0 < 8 * ((sealS b).size : Int) by omega)
      have := Int.emod_nonneg (a.tmod (8 * ((sealS b).size : Int)) + 8 * ((sealS b).size : Int)) (show 8 * ((sealS b).size : Int) ≠ 0 by omega)
      omega⟩
  rw [hA]
  generalize a.tmod (8 * ((sealS b).size : Int)) = a1
  clear hA q1 q2 hconv
  go_loopw [9, 10] (fun y i wr => ∃ (k : Nat) (c : List UInt8), k ≤ 16 ∧ i = .int .i64 k ∧ y = .bool (bur t k != 0) ∧ BI b t A k w2.heap.size c w wr) (fun _ i _ => 16 - (intOf i).toNat)
  case atStart => exact ⟨0, _, Nat.zero_le _, rfl, rfl, bi_start b t A _ w W HL.out HB.out⟩
  case round =>
    obtain ⟨k, c, hk, rfl, rfl, hI⟩ := hrel
    by_cases hlt : k < 16 ∧ A + k < 8 * (sealS b).size
    · obtain ⟨hlt, hlA⟩ := hlt
      have hlA' : (A : Int) + (k : Int) < 8 * ((sealS b).size : Int) := by omega
      have hbit := bit_test t k ht
      by_cases htb : t.testBit k = true
      · rw [htb] at hbit
        obtain ⟨i1, i2, i3⟩ := hI
        have hidx : (A + k) / 8 < c.length := by omega
        have hc := i2.cell hidx
        have hf := i2.frozen hidx
        obtain ⟨x, hx0⟩ : ∃ x, x = c.getD ((A + k) / 8) 0 := ⟨_, rfl⟩
        rw [← hx0] at hc
        have HX := hidIn hx0
        clear hx0
        have hx := xor_byte x ((A + k) % 8)
        have hi1 : ((A : Int) + (k : Int)) / 8 < ((sealS b).size : Int) := by omega
        have HI := hidIn (show BI b t A k w2.heap.size c w wr from ⟨i1, i2, i3⟩)
        clear i1 i2 i3
        go_wp2
        go_region
        go_wp2
        go_roundw
        case rel =>
          refine ⟨k + 1, flip c (A + k), by omega, by go_num, ?_, bi_flip HX.out HI.out htb hlt hlA B2.size⟩
          have := bur_ne (t := t) (show k + 1 ≤ 16 by omega) (Nat.lt_succ_self k) htb
          simp [this]
        case measure => simp [intOf]; omega
      · rw [Bool.not_eq_true] at htb
        rw [htb] at hbit
        have HI := hidIn hI
        clear hI
        go_wp2
        go_roundw
        case rel => exact ⟨k + 1, c, by omega, by go_num, by rw [bur_skip htb], bi_skip HI.out htb⟩
        case measure => simp [intOf]; omega
    · obtain ⟨i1, i2, i3, i4, i5⟩ := hI
      have hc := i2.string (cap := cap) i1.symm
      have hz : (⟨c.toArray⟩ : ByteArray).size = (sealS b).size := by show c.toArray.size = _; simpa using i1
      have h16 : (k < 16 ∧ ¬ (A : Int) + (k : Int) < 8 * ((sealS b).size : Int)) ∨ (¬ (k : Int) < 16) := by omega
      have hsl : (sealed b.data.toList).length = (sealS b).size := by rw [← sealS_data]; simp
      by_cases hbz : bur t k = 0
      · have hcs : (⟨c.toArray⟩ : ByteArray) = sealS b := by rw [i4 hbz]; rfl
        rw [hcs] at hc
        have hb0 : (bur t k != 0) = false := by simp [hbz]
        have hbb := str_eq (rfl : b = b)
        have I5 := hidIn i5
        clear i1 i2 i3 i4 i5 hcs hbz hlt hsl
        rcases h16 with ⟨h16, hlA'⟩ | h16
        all_goals
          go_wp2_with (go_at_call 9; refine (open_ok b (by omega) _).mono ?_; rintro e w5 ⟨rfl, hb5⟩)
          go_ret
          exact ⟨by first | rfl | simp, I5.out.trans (hb5.mono I5.out.size)⟩
      · have hne : sealS ((⟨c.toArray⟩ : ByteArray).extract 0 ((⟨c.toArray⟩ : ByteArray).size - 2)) ≠ (⟨c.toArray⟩ : ByteArray) := by
          intro e
          rw [← hsl] at i3
          refine burst_found i3 hbz ((⟨c.toArray⟩ : ByteArray).extract 0 ((⟨c.toArray⟩ : ByteArray).size - 2)).data.toList ?_
          rw [← sealS_data, e]
        have HN := hidIn hne
        have hb0 : (bur t k != 0) = true := by simp [hbz]
        have I5 := hidIn i5
        generalize (⟨c.toArray⟩ : ByteArray) = D at hc hz HN
        clear hne i1 i2 i3 i4 i5 hbz hlt hsl
        rcases h16 with ⟨h16, hlA'⟩ | h16
        all_goals
          go_wp2_with (go_at_call 9; refine (open_sum D (by omega) (by omega) HN.out _).mono ?_; rintro e w5 ⟨rfl, hb5⟩)
          go_ret
          exact ⟨by first | rfl | simp, I5.out.trans (hb5.mono I5.out.size)⟩
theorem bursts_walk (b : ByteArray) (hb : b.size ≤ 140737488351232) (a : Int) (wa : (Lit.int .i64 a).wf = true) (t : Int) (wt : (Lit.int .u16 t).wf = true) (w : World) :
    Calls Try.prog 4 #[.string b, .int .i64 a, .int .u16 t] w fun e w' => e = .returned (.bool true) ∧ Below w.heap.size w w' := by
  have ha : -9223372036854775808 ≤ a ∧ a ≤ 9223372036854775807 := by simpa [Lit.wf, IntKind.min, IntKind.max, IntKind.signed, IntKind.bits] using wa
  have ht : 0 ≤ t ∧ t ≤ 65535 := by simpa [Lit.wf, IntKind.min, IntKind.max, IntKind.signed, IntKind.bits] using wt
  obtain ⟨n, rfl⟩ := Int.eq_ofNat_of_zero_le ht.1
  by_cases h0 : n = 0
  · subst h0
    exact bursts_zero b hb a w
  · exact bursts_turn b hb a ha.1 ha.2 n (by omega) h0 w
end Go.Proofs.Ytmfadgglhdbppab
