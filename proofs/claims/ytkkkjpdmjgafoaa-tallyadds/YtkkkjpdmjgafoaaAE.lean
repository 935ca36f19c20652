/- Counts of marks as sums (pure). -/
import Derived.Test.YtkkkjpdmjgafoaaA8
namespace Go.Proofs.Ytkkkjpdmjgafoaa
open Go.RowKit

theorem mC_le (m : Mk) (k : Nat) : mC m k ≤ 256 := by
  unfold mC
  match k with
  | 0 => simp [stepC]
  | 1 => cases m.2.2.1 <;> simp [stepC]
  | 2 => simp only [stepC]; omega
  | 3 => exact Bi.cntTo_le _ _
  | 4 => exact Bi.cntTo_le _ _
  | _ + 5 => simp [stepC]
/-- What marks give a router. -/
def sumR : List Mk → Nat → Nat → Nat
  | [], _, _ => 0
  | m :: L, r, k => (if rtM m = r then mC m k else 0) + sumR L r k
theorem sumR_append (r k : Nat) : ∀ (L M : List Mk), sumR (L ++ M) r k = sumR L r k + sumR M r k
  | [], M => by simp [sumR]
  | m :: L, M => by simp only [List.cons_append, sumR]; rw [sumR_append r k L M]; omega
theorem sumR_reverse (r k : Nat) : ∀ (L : List Mk), sumR L.reverse r k = sumR L r k
  | [] => rfl
  | m :: L => by rw [List.reverse_cons, sumR_append, sumR_reverse r k L]; simp only [sumR]; omega
theorem sumR_le (r k : Nat) : ∀ (L : List Mk), sumR L r k ≤ 256 * L.length
  | [] => by simp [sumR]
  | m :: L => by
    have := sumR_le r k L
    have h := mC_le m k
    simp only [sumR, List.length_cons]
    split <;> omega
theorem sadd_plain {a b : Nat} (h : a + b < 18446744073709551616) : sadd a b = a + b := by unfold sadd; rw [if_neg (by omega)]
theorem fold_sum : ∀ (L : List Mk) (T : Nat → Cn), (∀ r k, T r k + 256 * L.length < 18446744073709551616) → ∀ r k, L.foldl noteT T r k = T r k + sumR L r k
  | [], T, _, r, k => by simp [sumR]
  | m :: L, T, h, r, k => by
    have hT : ∀ r k, noteT T m r k = T r k + if rtM m = r then mC m k else 0 := fun r k => by
      unfold noteT putC
      by_cases e : r = rtM m
      · subst e
        rw [if_pos rfl, if_pos rfl]
        have := h (rtM m) k
        have := mC_le m k
        simp only [List.length_cons] at *
        exact sadd_plain (by omega)
      · rw [if_neg e, if_neg (fun x => e x.symm)]; rfl
    rw [List.foldl_cons, fold_sum L (noteT T m) (fun r k => by
      have h1 := h r k
      have h2 := mC_le m k
      rw [hT]
      simp only [List.length_cons] at h1
      split <;> omega) r k, hT]
    simp only [sumR]
    omega
theorem runT_sum {L : List Mk} (h : L.length ≤ 50) (r k : Nat) : runT L r k = sumR L r k := by
  have := fold_sum L noT (fun r k => by show 0 + _ < _; omega) r k
  unfold runT
  rw [this]
  show 0 + _ = _
  omega
theorem runT_reverse {L : List Mk} (h : L.length ≤ 50) : runT L.reverse = runT L := by
  funext r k
  rw [runT_sum (by simpa using h), runT_sum h, sumR_reverse]
def sumTo (f : Nat → Nat) : Nat → Nat
  | 0 => 0
  | n + 1 => sumTo f n + f n
theorem sumTo_one (p c : Nat) : ∀ n, sumTo (fun r => if p = r then c else 0) n = if p < n then c else 0
  | 0 => by simp [sumTo]
  | n + 1 => by
    simp only [sumTo]
    rw [sumTo_one p c n]
    by_cases h : p < n
    · rw [if_pos h, if_neg (show ¬ p = n by omega), if_pos (show p < n + 1 by omega)]; omega
    · by_cases e : p = n
      · rw [if_neg h, if_pos e, if_pos (show p < n + 1 by omega)]; omega
      · rw [if_neg h, if_neg e, if_neg (show ¬ p < n + 1 by omega)]
theorem sumTo_add (f g : Nat → Nat) : ∀ n, sumTo (fun r => f r + g r) n = sumTo f n + sumTo g n
  | 0 => rfl
  | n + 1 => by simp only [sumTo]; rw [sumTo_add f g n]; omega
theorem sumTo_zero : ∀ n, sumTo (fun _ => 0) n = 0
  | 0 => rfl
  | n + 1 => by simp only [sumTo]; rw [sumTo_zero n]
theorem sumTo_mono (f : Nat → Nat) {n m : Nat} (h : n ≤ m) : sumTo f n ≤ sumTo f m := by
  induction m with
  | zero => obtain rfl : n = 0 := by omega
            exact Nat.le_refl _
  | succ m ih =>
    by_cases e : n = m + 1
    · rw [e]; exact Nat.le_refl _
    · have := ih (by omega)
      simp only [sumTo]; omega
/-- All that marks give. -/
def totM : List Mk → Nat → Nat
  | [], _ => 0
  | m :: L, k => mC m k + totM L k
theorem totM_le (k : Nat) : ∀ (L : List Mk), totM L k ≤ 256 * L.length
  | [] => by simp [totM]
  | m :: L => by
    have := totM_le k L
    have h := mC_le m k
    simp only [totM, List.length_cons]
    omega
theorem totM_got : ∀ (L : List Mk), totM L 0 = L.length
  | [] => rfl
  | m :: L => by
    have h : mC m 0 = 1 := rfl
    simp only [totM, List.length_cons, h, totM_got L]
    omega
theorem sum_all (k : Nat) : ∀ (L : List Mk), sumTo (fun r => sumR L r k) 25 = totM L k
  | [] => sumTo_zero 25
  | m :: L => by
    have e : (fun r => sumR (m :: L) r k) = fun r => (fun r => if rtM m = r then mC m k else 0) r + (fun r => sumR L r k) r := rfl
    rw [e, sumTo_add, sum_all k L, sumTo_one, if_pos (by unfold rtM; omega)]
    rfl
theorem allC_sum (T : Nat → Cn) (k : Nat) : ∀ n, sumTo (fun r => T r k) n < 18446744073709551616 → allC T n k = sumTo (fun r => T r k) n
  | 0, _ => rfl
  | n + 1, h => by
    simp only [sumTo] at h
    have := allC_sum T k n (by omega)
    show sadd (allC T n k) (T n k) = _
    rw [this]
    exact sadd_plain h
/-- As far as routers have been gone through. -/
def sumC (L : List Mk) (n : Nat) : Cn := fun k => sumTo (fun r => sumR L r k) n
theorem sumC_lt {L : List Mk} (h : L.length ≤ 50) (n k : Nat) : sumTo (fun r => sumR L r k) (min n 25) < 18446744073709551616 := by
  have h1 := sumTo_mono (fun r => sumR L r k) (show min n 25 ≤ 25 by omega)
  have h2 := sum_all k L
  have h3 := totM_le k L
  omega
theorem sumC_one (L : List Mk) : sumC L 1 = noC := by
  funext k
  show 0 + sumR L 0 k = 0
  have : ∀ L : List Mk, sumR L 0 k = 0 := fun L => by
    induction L with
    | nil => rfl
    | cons m L ih => simp only [sumR]; rw [ih, if_neg (by unfold rtM; omega)]
  rw [this]
theorem sumC_next {L : List Mk} (h : L.length ≤ 50) (n k : Nat) : sumC L (n + 1) k = sumC L n k + runT L n k := by rw [runT_sum h]; rfl
theorem sumC_ok {L : List Mk} (h : L.length ≤ 50) {n : Nat} (hn : n ≤ 25) (k : Nat) : sumC L n k < 18446744073709551616 := by
  have := sumC_lt h n k
  rwa [show min n 25 = n from by omega] at this
theorem sumC_all {L : List Mk} (h : L.length ≤ 50) : sumC L 25 = allC (runT L) 25 := by
  funext k
  have h2 : (fun r => runT L r k) = fun r => sumR L r k := funext fun r => runT_sum h r k
  have h3 := allC_sum (runT L) k 25 (by rw [h2]; exact sumC_ok h (Nat.le_refl _) k)
  rw [h3, h2]
  rfl
theorem sumC_got {L : List Mk} : sumC L 25 0 = L.length := by
  show sumTo (fun r => sumR L r 0) 25 = _
  rw [sum_all, totM_got]
end Go.Proofs.Ytkkkjpdmjgafoaa
