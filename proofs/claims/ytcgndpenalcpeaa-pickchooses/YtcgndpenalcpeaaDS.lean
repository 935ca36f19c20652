/- How often each is chosen, as lists. -/
import Derived.Test.YtcgndpenalcpeaaD3
namespace Go.Proofs.Ytcgndpenalcpeaa

/-- How many of the first n entropies choose x. -/
def cntE (l : List Int) (n : Nat) (x : Int) : Nat := (List.range n).countP fun e => best (mix e) l == x
def sprL (l : List Int) (n : Nat) : List Int := l.map fun x => (cntE l n x : Int)
theorem cntE_zero (l : List Int) (x : Int) : cntE l 0 x = 0 := rfl
theorem cntE_succ (l : List Int) (n : Nat) (x : Int) : cntE l (n + 1) x = cntE l n x + if best (mix n) l = x then 1 else 0 := by
  unfold cntE
  rw [List.range_succ, List.countP_append]
  by_cases h : best (mix n) l = x <;> simp [h]
theorem cntE_le (l : List Int) (n : Nat) (x : Int) : cntE l n x ≤ n := by
  unfold cntE
  exact Nat.le_trans List.countP_le_length (by simp)
theorem cntE_mono (l : List Int) (n m : Nat) (x : Int) : cntE l n x ≤ cntE l (n + m) x := by
  induction m with
  | zero => exact Nat.le_refl _
  | succ m ih => rw [← Nat.add_assoc, cntE_succ]; omega
theorem sum_one {l : List Int} (hn : l.Nodup) {b : Int} (hb : b ∈ l) (f : Int → Nat) : (l.map fun x => f x + if b = x then 1 else 0).sum = (l.map f).sum + 1 := by
  induction l with
  | nil => simp at hb
  | cons y l ih =>
    rw [List.nodup_cons] at hn
    simp only [List.map_cons, List.sum_cons]
    rcases List.mem_cons.1 hb with rfl | hb
    · have : (l.map fun x => f x + if b = x then 1 else 0) = l.map f := List.map_congr_left fun x hx => by
        rw [if_neg (fun e => hn.1 (by rw [e]; exact hx)), Nat.add_zero]
      rw [this, if_pos rfl]
      omega
    · rw [ih hn.2 hb, if_neg (fun e => hn.1 (by rw [← e]; exact hb))]
      omega
/-- All of them together are n. -/
theorem cnt_sum {l : List Int} (hn : l.Nodup) (h0 : l ≠ []) (n : Nat) : (l.map (cntE l n)).sum = n := by
  induction n with
  | zero =>
    have : l.map (cntE l 0) = l.map fun _ => 0 := List.map_congr_left fun _ _ => rfl
    rw [this, List.map_const', List.sum_replicate_nat, Nat.mul_zero]
  | succ n ih =>
    have : l.map (cntE l (n + 1)) = l.map fun x => cntE l n x + if best (mix n) l = x then 1 else 0 := List.map_congr_left fun x _ => cntE_succ l n x
    rw [this, sum_one hn (best_ok (mix n) h0).1, ih]
/-- What Spread answers. -/
def spE (l : List Int) (n : Int) : Int := if nbOk l = true ∧ 0 ≤ n then (if n ≤ 4096 then 0 else 3) else 2
def spL (l : List Int) (n : Int) : List Int := if nbOk l = true ∧ 0 ≤ n ∧ n ≤ 4096 then sprL l n.toNat else []
theorem sp_no {l : List Int} {n : Int} (h : ¬ (nbOk l = true ∧ 0 ≤ n)) : spL l n = [] ∧ spE l n = 2 := by
  unfold spL spE
  exact ⟨if_neg fun k => h ⟨k.1, k.2.1⟩, if_neg h⟩
theorem sp_long {l : List Int} {n : Int} (h : nbOk l = true) (h0 : 0 ≤ n) (h1 : ¬ n ≤ 4096) : spL l n = [] ∧ spE l n = 3 := by
  unfold spL spE
  exact ⟨if_neg fun k => h1 k.2.2, by rw [if_pos ⟨h, h0⟩, if_neg h1]⟩
theorem sp_yes {l : List Int} (n : Nat) (h : nbOk l = true) (h1 : n ≤ 4096) : spL l (n : Int) = sprL l n ∧ spE l (n : Int) = 0 := by
  unfold spL spE
  exact ⟨by rw [if_pos ⟨h, by omega, by omega⟩]; simp, by rw [if_pos ⟨h, by omega⟩, if_pos (by omega)]⟩
theorem spr_nil {l : List Int} (h : l.length = 0) (n : Nat) : sprL l n = [] := by rw [List.length_eq_zero_iff.1 h]; rfl
theorem spr_len (l : List Int) (n : Nat) : (sprL l n).length = l.length := by simp [sprL]
end Go.Proofs.Ytcgndpenalcpeaa
