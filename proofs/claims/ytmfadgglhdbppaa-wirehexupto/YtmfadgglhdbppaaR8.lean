/- dandelionref02.digit, Hex, Unhex. -/
import Derived.Test.YtmfadgglhdbppaaK16
namespace Go.Proofs.Ytmfadgglhdbppaa
open Go.RowKit

/-- A digit's worth; 16: none. -/
def rd (c : UInt8) : Int := if hv c < 0 then 16 else hv c
theorem hv_first {c : UInt8} {k : Nat} (h : digs.data.toList[k]? = some c) (hf : ∀ j, j < k → digs.data.toList[j]? ≠ some c) : hv c = k := by
  by_cases h0 : hv c = -1
  · exact absurd h (Lib.indexByte_none h0 k)
  · have hg := hv_ge c
    obtain ⟨o, ho⟩ : ∃ o : Nat, hv c = o := ⟨(hv c).toNat, by omega⟩
    obtain ⟨h1, h2⟩ := Lib.indexByte_some (l := digs.data.toList) (c := c) (o := o) ho
    have e : o = k := by
      rcases Nat.lt_trichotomy o k with h3 | h3 | h3
      · exact absurd h1 (hf o h3)
      · exact h3
      · exact absurd h (h2 k h3)
    rw [ho, e]
theorem hv_none {c : UInt8} (hf : ∀ j, j < 16 → digs.data.toList[j]? ≠ some c) : hv c < 0 := by
  by_cases h0 : hv c < 0
  · exact h0
  · obtain ⟨o, ho⟩ : ∃ o : Nat, hv c = o := ⟨(hv c).toNat, by omega⟩
    have h1 := (Lib.indexByte_some (l := digs.data.toList) (c := c) (o := o) ho).1
    have hl := hv_lt c
    exact absurd h1 (hf o (by omega))
set_option maxHeartbeats 1000000 in
theorem rdigit_any (c : UInt8) (w : World) :
    Calls Try.prog 34 #[.int .u8 (c.toNat : Int)] w fun e w' => e = .returned (.int .u8 (rd c)) ∧ w' = w := by
  go_enter Try.func34, Try.ntmps34
  go_wp2
  go_loop [3] (fun i => ∃ k : Nat, k ≤ 16 ∧ i = .int .i64 k ∧ ∀ j, j < k → digs.data.toList[j]? ≠ some c) (fun i => 16 - (intOf i).toNat)
  case atStart => exact ⟨0, Nat.zero_le _, rfl, fun j hj => by omega⟩
  case round =>
    obtain ⟨k, hk, rfl, hf⟩ := hrel
    by_cases hlt : k < 16
    · have hsz : k < digs.size := hlt
      have hj : (k : Int) < 16 := by omega
      have hget : digs.data.toList[k]? = some (digs[k]'hsz) := by rw [List.getElem?_eq_getElem (show k < digs.data.toList.length from hlt)]; rfl
      by_cases hE : (digs[k]'hsz) = c
      · have hv1 := hv_first (by rw [hget, hE]) hf
        have hq : (((digs[k]'hsz).toNat : Int) == (c.toNat : Int)) = true := by rw [hE]; simp
        have HV := hidIn hv1
        clear hv1 hf hget hE
        go_wp2
        go_ret
        exact ⟨ret_int (by unfold rd; rw [HV.out, if_neg (by omega)]), rfl⟩
      · have hq : (((digs[k]'hsz).toNat : Int) == (c.toNat : Int)) = false := by
          simp only [beq_eq_false_iff_ne, ne_eq]
          intro e
          exact hE (UInt8.toNat_inj.1 (by omega))
        have hf' : ∀ j, j < k + 1 → digs.data.toList[j]? ≠ some c := by
          intro j hj
          by_cases e : j = k
          · rw [e, hget]; intro e2; exact hE (Option.some.inj e2)
          · exact hf j (by omega)
        have HF := hidIn hf'
        clear hf hf' hget hE
        go_wp2
        go_round
        case rel => exact ⟨k + 1, by omega, by go_num, HF.out⟩
        case measure => simp [intOf]; omega
    · obtain rfl : k = 16 := by omega
      have HV := hidIn (hv_none hf)
      clear hf
      go_wp2
      go_ret
      exact ⟨ret_int (by unfold rd; rw [if_pos HV.out]), rfl⟩
set_option maxHeartbeats 1000000 in
theorem rhex_any (b : ByteArray) (hb : b.size ≤ 70368744177664) (w : World) :
    Calls Try.prog 27 #[.string b] w fun e w' => e = .returned (.string (strOfNums (hexL b.data.toList))) ∧ Below w.heap.size w w' := by
  go_enter Try.func27, Try.ntmps27
  go_wp2
  go_loopw [3, 4] (fun v i wr => ∃ k : Nat, k ≤ b.size ∧ i = .int .i64 k ∧ OwnB wr w.heap.size v (hexL (b.data.toList.take k)) ∧ Below w.heap.size w wr) (fun _ i _ => b.size - (intOf i).toNat)
  case atStart => exact ⟨0, Nat.zero_le _, rfl, ownB_nil _ _, Below.refl _ _⟩
  case round =>
    obtain ⟨k, hk, rfl, hown, hbel⟩ := hrel
    by_cases hlt : k < b.size
    · have hX := b[k].toNat_lt
      have hi0 : (0 : Int) ≤ (b[k].toNat : Int) / 16 := by omega
      have hi1 : (b[k].toNat : Int) / 16 < 16 := by omega
      have hi2 : (0 : Int) ≤ (b[k].toNat : Int) % 16 := by omega
      have hi3 : (b[k].toNat : Int) % 16 < 16 := by omega
      have hll : (hexL (b.data.toList.take k)).length + 2 ≤ 140737488355328 := by
        rw [hexL_len, List.length_take]
        omega
      have hw1 : IntKind.u8.wrap ((b[k].toNat : Int) / 16) = (b[k].toNat : Int) / 16 := by rw [IntKind.wrap_u8']; omega
      have hw2 : (b[k].toNat : Int).tmod 16 = (b[k].toNat : Int) % 16 := Int.tmod_eq_emod_of_nonneg (by omega)
      have HO := hidIn (show OwnB wr.drew w.heap.size _ (hexL (b.data.toList.take k)) from hown)
      have HD := hidIn (show Below w.heap.size w wr.drew from hbel.drew)
      clear hown
      go_wp2
      go_region_law ((refine step_append_bytes2 (w0 := w) (w := wr.drew) rfl (.tmp 11) (.tmp 22) rfl _ (hexL (b.data.toList.take k)) (by simp [Act.eval]) HO.out HD.out wr.heap.size 2 rfl (by simp [Act.eval]) hll ?_; intro v1 w1 h1 b1))
      all_goals
        go_wp2
        go_roundw
        case rel =>
          refine ⟨k + 1, by omega, by go_num, ?_, b1⟩
          rw [take_snoc b k hlt, hexL_snoc, ← hexd_get ((b[k].toNat : Int) / 16) (b[k].toNat / 16) (by omega) (by omega) (by show _ < 16; omega), ← hexd_get ((b[k].toNat : Int) % 16) (b[k].toNat % 16) (by omega) (by omega) (by show _ < 16; omega)]
          exact h1
        case measure => simp [intOf]; omega
    · obtain rfl : k = b.size := by omega
      have hc := hown.string
      rw [List.take_of_length_le (by simp)] at hc
      go_wp2
      go_ret
      exact ⟨rfl, hbel⟩
set_option maxHeartbeats 400000 in
theorem runhex_odd (b : ByteArray) (hb : b.size ≤ 1000000000000000) (h : b.size % 2 ≠ 0) (w : World) :
    Calls Try.prog 25 #[.string b] w fun e w' => e = .returned (.tuple #[.string ⟨#[]⟩, .int .i64 4]) ∧ Below w.heap.size w w' := by
  have h' : ((b.size : Int) % 2 != 0) = true := by simp; omega
  go_enter Try.func25, Try.ntmps25
  go_wp2
  go_ret2
  exact ⟨rfl, Below.refl _ _⟩
set_option maxHeartbeats 1000000 in
theorem runhex_even (b : ByteArray) (n : Nat) (hn : b.size = 2 * n) (hb : n ≤ 70368744177664) (w : World) :
    Calls Try.prog 25 #[.string b] w fun e w' => e = .returned (unT (unh b.data.toList)) ∧ Below w.heap.size w w' := by
  have hL : b.data.toList.length = b.size := by simp
  have h' : ((b.size : Int) % 2 != 0) = false := by simp; omega
  go_enter Try.func25, Try.ntmps25
  go_wp2
  go_loopw [4, 5] (fun v i wr => ∃ (k : Nat) (l : List Int), k ≤ n ∧ i = .int .i64 (2 * (k : Int)) ∧ l.length = k ∧ ((unh (b.data.toList.drop (2 * k))).map fun r => l ++ r) = unh b.data.toList ∧ OwnB wr w.heap.size v l ∧ Below w.heap.size w wr) (fun _ i _ => b.size - (intOf i).toNat)
  case atStart => exact ⟨0, [], Nat.zero_le _, rfl, rfl, by simp, ownB_nil _ _, Below.refl _ _⟩
  case round =>
    obtain ⟨k, l, hk, rfl, hl, hu, hown, hbel⟩ := hrel
    by_cases hlt : k < n
    · have hi1 : 2 * k < b.size := by omega
      have hi2 : 2 * k + 1 < b.size := by omega
      have hj1 : 2 * (k : Int) < (b.size : Int) := by omega
      have hj2 : 2 * (k : Int) + 1 < (b.size : Int) := by omega
      have hj0 : (0 : Int) ≤ 2 * (k : Int) := by omega
      have hj3 : (0 : Int) ≤ 2 * (k : Int) + 1 := by omega
      have hw1 : IntKind.i64.wrap (2 * (k : Int) + 1) = 2 * (k : Int) + 1 := by rw [IntKind.wrap_i64]; omega
      rw [drop_two b (2 * k) hi2, unh_cons] at hu
      change Option.map _ (if hv (b[2 * k]'hi1) < 0 ∨ hv (b[2 * k + 1]'hi2) < 0 then none else (unh (b.data.toList.drop (2 * k + 2))).map fun l => (hv (b[2 * k]'hi1) * 16 + hv (b[2 * k + 1]'hi2)) :: l) = _ at hu
      have g1 := hv_ge (b[2 * k]'hi1)
      have g2 := hv_lt (b[2 * k]'hi1)
      have g3 := hv_ge (b[2 * k + 1]'hi2)
      have g4 := hv_lt (b[2 * k + 1]'hi2)
      have r1 : rd (b[2 * k]'hi1) = if hv (b[2 * k]'hi1) < 0 then 16 else hv (b[2 * k]'hi1) := rfl
      have r2 : rd (b[2 * k + 1]'hi2) = if hv (b[2 * k + 1]'hi2) < 0 then 16 else hv (b[2 * k + 1]'hi2) := rfl
      have HN := hidIn (And.intro hn hL)
      have HO := hidIn hown
      clear hn hL hown
      by_cases hneg : hv (b[2 * k]'hi1) < 0 ∨ hv (b[2 * k + 1]'hi2) < 0
      · rw [if_pos hneg] at hu
        have HU := hidIn hu
        have hbad : 15 < rd (b[2 * k]'hi1) ∨ 15 < rd (b[2 * k + 1]'hi2) := by
          rcases hneg with h | h
          · left; rw [r1, if_pos h]; omega
          · right; rw [r2, if_pos h]; omega
        clear hu hneg r1 r2
        go_wp2
        go_quiet ((go_at_call 34; exact Calls.quiet_of_same (rdigit_any _ _)))
        have hB1 : Below w.heap.size w (wr.drewN nq) := ⟨hbel.os, hbel.tape, hbel.output, hbel.size, hbel.block⟩
        go_wp2
        all_goals
          go_ret2
          refine ⟨?_, hB1⟩
          rw [← HU.out]
          rfl
      · rw [if_neg hneg] at hu
        have HU := hidIn hu
        have p1 : rd (b[2 * k]'hi1) = hv (b[2 * k]'hi1) := by rw [r1, if_neg (by omega)]
        have p2 : rd (b[2 * k + 1]'hi2) = hv (b[2 * k + 1]'hi2) := by rw [r2, if_neg (by omega)]
        have p3 : 0 ≤ hv (b[2 * k]'hi1) := by omega
        have p4 : 0 ≤ hv (b[2 * k + 1]'hi2) := by omega
        clear hu hneg r1 r2
        go_wp2
        go_quiet ((go_at_call 34; exact Calls.quiet_of_same (rdigit_any _ _)))
        have hB1 : Below w.heap.size w (wr.drewN nq) := ⟨hbel.os, hbel.tape, hbel.output, hbel.size, hbel.block⟩
        have hO1 : OwnB (wr.drewN nq) w.heap.size _ l := HO.out
        generalize wr.drewN nq = W1 at hB1 hO1 ⊢
        go_wp2_with (at_builtin; refine wpList_append_bytes1 (w0 := w) rfl _ _ rfl _ _ rfl hO1 hB1 _ rfl (by omega) ?_; intro v1 w1 h1 b1)
        go_roundw
        case rel =>
          refine ⟨k + 1, l ++ [hv (b[2 * k]'hi1) * 16 + hv (b[2 * k + 1]'hi2)], by omega, by go_num, by simp [hl], ?_, ?_, b1⟩
          · rw [← HU.out, Option.map_map]
            congr 1
            funext r
            simp
          · rw [Int.mul_comm]
            exact h1
        case measure => simp [intOf]; omega
    · obtain rfl : k = n := by omega
      have hge : ¬ 2 * (k : Int) < (b.size : Int) := by omega
      rw [← hn, List.drop_eq_nil_of_le (by omega), unh_nil] at hu
      have HU := hidIn hu
      have hc := hown.string
      clear hu hn hL
      go_wp2
      go_ret2
      refine ⟨?_, hbel⟩
      rw [← HU.out]
      simp [unT]
end Go.Proofs.Ytmfadgglhdbppaa
