/- Plain numbers: groups of seven bits, read. -/
import Derived.Test.YtgaagggcilchbaaK8
namespace Go.Proofs.Ytgaagggcilchbaa
open Go.RowKit

/-- A number in groups, as bytes. -/
def pvU (v : Nat) : List UInt8 := (pvL v).map fun n => UInt8.ofNat n.toNat
theorem pvU_lo {v : Nat} (h : v < 128) : pvU v = [UInt8.ofNat v] := by unfold pvU; rw [pvL_lo h]; simp
theorem pvU_hi {v : Nat} (h : 128 ≤ v) : pvU v = UInt8.ofNat (v % 128 + 128) :: pvU (v / 128) := by unfold pvU; rw [pvL_hi h, List.map_cons, Int.toNat_natCast]
/-- The number of groups. -/
def val : List UInt8 → Nat
  | [] => 0
  | x :: r => x.toNat % 128 + 128 * val r
theorem val_snoc (l : List UInt8) (c : UInt8) : val (l ++ [c]) = val l + c.toNat % 128 * 128 ^ l.length := by
  induction l with
  | nil => simp [val]
  | cons x l ih => simp only [List.cons_append, val, ih, List.length_cons, Nat.pow_succ, Nat.mul_add]; rw [Nat.mul_comm (128 ^ l.length) 128, Nat.mul_left_comm 128]; omega
theorem val_lt (l : List UInt8) : val l < 128 ^ l.length := by
  induction l with
  | nil => simp [val]
  | cons x l ih => simp only [val, List.length_cons, Nat.pow_succ]; omega
theorem val_pvU (v : Nat) : val (pvU v) = v := by
  induction v using Nat.strongRecOn with
  | ind v ih =>
    by_cases h : v < 128
    · rw [pvU_lo h]
      simp only [val, UInt8.toNat_ofNat']
      omega
    · rw [pvU_hi (by omega)]
      simp only [val, UInt8.toNat_ofNat']
      rw [ih (v / 128) (by omega)]
      omega
theorem pvU_ne (v : Nat) : pvU v ≠ [] := by
  by_cases h : v < 128
  · rw [pvU_lo h]; simp
  · rw [pvU_hi (by omega)]; simp
theorem pvU_last (l : List UInt8) : ∀ v, pvU v = l ++ [0] → l = [] := by
  induction l with
  | nil => intro _ _; rfl
  | cons x l ih =>
    intro v hv
    by_cases h : v < 128
    · rw [pvU_lo h] at hv; simp at hv
    · rw [pvU_hi (by omega)] at hv
      simp only [List.cons_append, List.cons.injEq] at hv
      obtain rfl := ih _ hv.2
      have := congrArg val hv.2
      rw [val_pvU] at this
      simp [val] at this
      omega
theorem ofNat_eq {x : UInt8} {n : Nat} (h : n = x.toNat) : UInt8.ofNat n = x := by subst h; simp
/-- What is laid just so. -/
theorem pvU_val (l : List UInt8) (c : UInt8) (hl : ∀ y ∈ l, 128 ≤ y.toNat) (hc : c.toNat < 128) (h0 : c.toNat ≠ 0 ∨ l = []) : pvU (val (l ++ [c])) = l ++ [c] := by
  induction l with
  | nil =>
    have e : val ([] ++ [c]) = c.toNat := by simp [val]; omega
    rw [e, pvU_lo hc]
    simp
  | cons x l ih =>
    have hx := hl x (by simp)
    have hx2 := x.toNat_lt
    have h1 : c.toNat ≠ 0 := by rcases h0 with h | h; exact h; cases h
    have hpos : 0 < val (l ++ [c]) := by
      rw [val_snoc]
      have : 0 < c.toNat % 128 * 128 ^ l.length := Nat.mul_pos (by omega) (Nat.pow_pos (by decide))
      omega
    have ih' := ih (fun y hy => hl y (by simp [hy])) (.inl h1)
    simp only [List.cons_append, val]
    rw [pvU_hi (by omega), show (x.toNat % 128 + 128 * val (l ++ [c])) / 128 = val (l ++ [c]) from by omega, ih', ofNat_eq (x := x) (by omega)]

/-- A number in groups, read from bytes behind those of pre: the number, and how many bytes. -/
def tvF (pre : List UInt8) : List UInt8 → Option (Nat × Nat)
  | [] => none
  | c :: r => if pre.length = 9 ∧ 1 < c.toNat then none else if c.toNat = 0 ∧ 0 < pre.length then none else if c.toNat < 128 then some (val (pre ++ [c]), pre.length + 1) else tvF (pre ++ [c]) r
theorem tvF_cons (pre : List UInt8) (c : UInt8) (r : List UInt8) : tvF pre (c :: r) = if pre.length = 9 ∧ 1 < c.toNat then none else if c.toNat = 0 ∧ 0 < pre.length then none else if c.toNat < 128 then some (val (pre ++ [c]), pre.length + 1) else tvF (pre ++ [c]) r := by
  rw [tvF]
/-- What the document's answer asks at the last byte. -/
theorem last_test (pre : List UInt8) (c : UInt8) (r : List UInt8) (hp : ∀ y ∈ pre, 128 ≤ y.toNat) (hl : pre.length ≤ 9) (hc : c.toNat < 128) :
    tvF pre (c :: r) = if pvU (val pre + c.toNat % 128 * 2 ^ (7 * pre.length) % 18446744073709551616) = pre ++ [c] then some (val pre + c.toNat % 128 * 2 ^ (7 * pre.length) % 18446744073709551616, pre.length + 1) else none := by
  have e7 : 2 ^ (7 * pre.length) = 128 ^ pre.length := by rw [Nat.pow_mul]
  rw [e7, tvF_cons]
  by_cases h9 : pre.length = 9 ∧ 1 < c.toNat
  · rw [if_pos h9, if_neg]
    intro e
    have e2 := congrArg val e
    rw [val_pvU, val_snoc, h9.1] at e2
    omega
  · rw [if_neg h9]
    have hs : c.toNat % 128 * 128 ^ pre.length % 18446744073709551616 = c.toNat % 128 * 128 ^ pre.length := by
      apply Nat.mod_eq_of_lt
      by_cases h : pre.length = 9
      · rw [h]; omega
      · have h1 : 128 ^ pre.length ≤ 128 ^ 8 := Nat.pow_le_pow_right (by decide) (by omega)
        have h2 : c.toNat % 128 * 128 ^ pre.length ≤ 127 * 128 ^ 8 := Nat.mul_le_mul (by omega) h1
        omega
    rw [hs, ← val_snoc]
    by_cases h0 : c.toNat = 0 ∧ 0 < pre.length
    · rw [if_pos h0, if_neg]
      intro e
      have hc0 : c = 0 := by
        have : c.toNat = (0 : UInt8).toNat := h0.1
        exact UInt8.toNat_inj.1 this
      rw [hc0] at e
      have := pvU_last _ _ e
      rw [this] at h0
      simp at h0
    · rw [if_neg h0, if_pos hc, if_pos]
      exact pvU_val pre c hp hc (by
        by_cases hz : c.toNat = 0
        · right
          apply List.eq_nil_of_length_eq_zero
          omega
        · exact .inl hz)
end Go.Proofs.Ytgaagggcilchbaa
