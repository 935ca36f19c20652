/- wire.Unhex. -/
import Derived.Test.YtgaagggcilchbaaK15
import Derived.Test.YtgaagggcilchbaaShelf
import Derived.Deep.QuietTactic
import Derived.BigQuiet
import Derived.Lib.IndexLaws
namespace Go.Proofs.Ytgaagggcilchbaa
open Go.RowKit

/-- A digit's worth; -1: none. -/
def hv (c : UInt8) : Int := Lib.indexByte digs.data.toList c
theorem hv_ge (c : UInt8) : -1 ≤ hv c := Lib.indexByte_ge _ _
theorem hv_lt (c : UInt8) : hv c < 16 := by
  by_cases h : hv c < 0
  · omega
  · have h0 := hv_ge c
    obtain ⟨n, hn⟩ : ∃ n : Nat, hv c = n := ⟨(hv c).toNat, by omega⟩
    have := (Lib.indexByte_some (l := digs.data.toList) (c := c) (o := n) hn).1
    have := (List.getElem?_eq_some_iff.1 this).1
    have e : digs.data.toList.length = 16 := rfl
    omega
/-- Digits read; none: a sign that is no digit. -/
def unh : List UInt8 → Option (List Int)
  | a :: b :: r => if hv a < 0 ∨ hv b < 0 then none else (unh r).map fun l => (hv a * 16 + hv b) :: l
  | _ => some []
theorem unh_cons (a b : UInt8) (r : List UInt8) : unh (a :: b :: r) = if hv a < 0 ∨ hv b < 0 then none else (unh r).map fun l => (hv a * 16 + hv b) :: l := by rw [unh]
theorem unh_nil : unh [] = some [] := by rw [unh]; intro a b r h; cases h
theorem i64_or_nat (a b : Nat) (ha : a < 256) (hb : b < 256) : bits .or .i64 (a : Int) (b : Int) = ((a ||| b : Nat) : Int) := by
  have hx : a ||| b < 2 ^ 8 := Nat.or_lt_two_pow (by omega) (by omega)
  show IntKind.i64.wrap ((BitVec.ofInt 64 (a : Int) ||| BitVec.ofInt 64 (b : Int)).toNat : Int) = _
  rw [BitVec.toNat_or, ofInt_u64 a (by omega), ofInt_u64 b (by omega), IntKind.wrap_i64]
  omega
theorem or_dig (a b : Int) (ha : 0 ≤ a) (ha' : a < 16) (hb : 0 ≤ b) (hb' : b < 16) : bits .or .i64 (a * 16) b = a * 16 + b := by
  obtain ⟨n, rfl⟩ := Int.eq_ofNat_of_zero_le ha
  obtain ⟨m, rfl⟩ := Int.eq_ofNat_of_zero_le hb
  rw [show (n : Int) * 16 = ((n * 16 : Nat) : Int) from by simp, i64_or_nat _ _ (by omega) (by omega), nat_join 4 _ _ (by omega) (by omega)]
  simp
theorem digit_any (c : UInt8) (w : World) :
    Calls Try.prog 16 #[.string digs, .int .u8 (c.toNat : Int)] w fun e w' => e = .returned (.int .i64 (hv c)) ∧ w' = w := by
  refine (Try.strings_IndexByte digs (c.toNat : Int) w).mono ?_
  rintro e w' ⟨rfl, rfl⟩
  refine ⟨ret_int ?_, rfl⟩
  unfold hv
  congr 1
  simp
set_option maxHeartbeats 400000 in
theorem unhex_odd (b : ByteArray) (hb : b.size ≤ 1000000000000000) (h : b.size % 2 ≠ 0) (w : World) :
    Calls Try.prog 5 #[.string b] w fun e w' => e = .returned (.tuple #[.string ⟨#[]⟩, .int .i64 4]) ∧ Below w.heap.size w w' := by
  have h' : ((b.size : Int) % 2 != 0) = true := by simp; omega
  go_enter Try.func5, Try.ntmps5
  go_wp2
  go_ret2
  exact ⟨rfl, Below.refl _ _⟩
/-- The answer of Unhex at an even length. -/
def unT : Option (List Int) → Value
  | some l => .tuple #[.string (strOfNums l), .int .i64 0]
  | none => .tuple #[.string ⟨#[]⟩, .int .i64 4]
theorem unh_len (n : Nat) : ∀ (l : List UInt8) (m : List Int), l.length = 2 * n → unh l = some m → m.length = n := by
  induction n with
  | zero => intro l m hl h; obtain rfl := List.eq_nil_of_length_eq_zero hl; rw [unh_nil] at h; cases h; rfl
  | succ n ih =>
    intro l m hl h
    match l, hl with
    | a :: b :: r, hl =>
      rw [unh_cons] at h
      split at h
      · cases h
      · cases hr : unh r with
        | none => rw [hr] at h; cases h
        | some t =>
          rw [hr] at h
          cases h
          simp [ih r t (by simp at hl; omega) hr]
theorem drop_two (b : ByteArray) (i : Nat) (h : i + 1 < b.size) : b.data.toList.drop i = b[i] :: b[i + 1] :: b.data.toList.drop (i + 2) := by
  rw [List.drop_eq_getElem_cons (by simp; omega), List.drop_eq_getElem_cons (by simp; omega)]
  rfl
set_option maxHeartbeats 1000000 in
theorem unhex_even (b : ByteArray) (n : Nat) (hn : b.size = 2 * n) (hb : n ≤ 140737488355320) (w : World) :
    Calls Try.prog 5 #[.string b] w fun e w' => e = .returned (unT (unh b.data.toList)) ∧ Below w.heap.size w w' := by
  have hL : b.data.toList.length = b.size := by simp
  have hmk := make_bytes n (by omega)
  have HM := hidIn (ownB_made w n (by omega))
  have h' : ((b.size : Int) % 2 != 0) = false := by simp; omega
  have hq : (b.size : Int) / 2 = (n : Int) := by omega
  have hz : (b.size : Int) = 2 * (n : Int) := by omega
  have HZ := hidIn hz
  clear hz
  go_enter Try.func5, Try.ntmps5
  go_wp2
  go_loopw [4, 5] (fun v i wr => ∃ (k : Nat) (l : List Int), k ≤ n ∧ i = .int .i64 (2 * (k : Int)) ∧ l.length = k ∧ ((unh (b.data.toList.drop (2 * k))).map fun r => l ++ r) = unh b.data.toList ∧ OwnB wr w.heap.size v l ∧ Below w.heap.size w wr) (fun _ i _ => b.size - (intOf i).toNat)
  case atStart => exact ⟨0, [], Nat.zero_le _, rfl, rfl, by simp, HM.out, (Below.refl _ _).alloc (Nat.le_refl _) _⟩
  case round =>
    obtain ⟨k, l, hk, rfl, hl, hu, hown, hbel⟩ := hrel
    by_cases hlt : k < n
    · have hi1 : 2 * k < b.size := by omega
      have hi2 : 2 * k + 1 < b.size := by omega
      have hj1 : 2 * (k : Int) < (b.size : Int) := by omega
      have hj2 : 2 * (k : Int) + 1 < (b.size : Int) := by omega
      have hj0 : (0 : Int) ≤ 2 * (k : Int) := by omega
      have hj3 : (0 : Int) ≤ 2 * (k : Int) + 1 := by omega
      have hw1 : IntKind.i64.wrap (2 * (k : Int) + 1) = 2 * (k : Int) + 1 := by rw [IntKind.wrap_i64]; omega
      rw [drop_two b (2 * k) hi2, unh_cons] at hu
      change Option.map _ (if hv (b[2 * k]'hi1) < 0 ∨ hv (b[2 * k + 1]'hi2) < 0 then none else (unh (b.data.toList.drop (2 * k + 2))).map fun l => (hv (b[2 * k]'hi1) * 16 + hv (b[2 * k + 1]'hi2)) :: l) = _ at hu
      have g1 := hv_ge (b[2 * k]'hi1)
      have g2 := hv_lt (b[2 * k]'hi1)
      have g3 := hv_ge (b[2 * k + 1]'hi2)
      have g4 := hv_lt (b[2 * k + 1]'hi2)
      have HN := hidIn (And.intro hn (And.intro hL hq))
      have HO := hidIn hown
      clear hn hL hown hmk hq
      by_cases hneg : hv (b[2 * k]'hi1) < 0 ∨ hv (b[2 * k + 1]'hi2) < 0
      · rw [if_pos hneg] at hu
        have HU := hidIn hu
        clear hu
        go_wp2
        go_quiet ((go_at_call 16; exact Calls.quiet_of_same (digit_any _ _)))
        have hB1 : Below w.heap.size w (wr.drewN nq) := ⟨hbel.os, hbel.tape, hbel.output, hbel.size, hbel.block⟩
        go_wp2
        all_goals
          go_ret2
          refine ⟨?_, hB1⟩
          rw [← HU.out]
          rfl
      · rw [if_neg hneg] at hu
        have HU := hidIn hu
        have p1 : ¬ hv (b[2 * k]'hi1) < 0 := by omega
        have p2 : ¬ hv (b[2 * k + 1]'hi2) < 0 := by omega
        have hor := or_dig (hv (b[2 * k]'hi1)) (hv (b[2 * k + 1]'hi2)) (by omega) g2 (by omega) g4
        clear hu hneg
        go_wp2
        go_quiet ((go_at_call 16; exact Calls.quiet_of_same (digit_any _ _)))
        have hB1 : Below w.heap.size w (wr.drewN nq) := ⟨hbel.os, hbel.tape, hbel.output, hbel.size, hbel.block⟩
        have hO1 : OwnB (wr.drewN nq) w.heap.size _ l := HO.out
        generalize wr.drewN nq = W1 at hB1 hO1 ⊢
        go_wp2_with (at_builtin; refine wpList_append_bytes1 (w0 := w) rfl _ _ rfl _ _ rfl hO1 hB1 _ rfl (by omega) ?_; intro v1 w1 h1 b1)
        go_roundw
        case rel =>
          refine ⟨k + 1, l ++ [hv (b[2 * k]'hi1) * 16 + hv (b[2 * k + 1]'hi2)], by omega, by go_num, by simp [hl], ?_, h1, b1⟩
          rw [← HU.out, Option.map_map]
          congr 1
          funext r
          simp
        case measure => simp [intOf]; omega
    · obtain rfl : k = n := by omega
      have hge : ¬ 2 * (k : Int) < (b.size : Int) := by omega
      rw [← hn, List.drop_eq_nil_of_le (by omega), unh_nil] at hu
      have HU := hidIn hu
      have hc := hown.string
      clear hu hn hL
      go_wp2
      go_ret2
      refine ⟨?_, hbel⟩
      rw [← HU.out]
      simp [unT]
end Go.Proofs.Ytgaagggcilchbaa
