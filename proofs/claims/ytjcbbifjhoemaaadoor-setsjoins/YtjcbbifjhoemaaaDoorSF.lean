/- The ids that come back rise, and are just those that were there. -/
import Derived.Test.YtjcbbifjhoemaaaDoorSE
namespace Go.Proofs.YtjcbbifjhoemaaaDoor
open Go.RowKit

theorem flat_some {α : Type} {f : Nat → Nat} {g : Nat → List α} (h : ∀ s, f s = 0 → g s = []) (l : List Nat) : (l.filter fun s => decide (f s ≠ 0)).flatMap g = l.flatMap g := by
  induction l with
  | nil => rfl
  | cons s l ih =>
    by_cases e : f s = 0
    · rw [List.filter_cons_of_neg (by simp [e]), ih, List.flatMap_cons, h s e, List.nil_append]
    · rw [List.filter_cons_of_pos (by simp [e]), List.flatMap_cons, List.flatMap_cons, ih]
theorem filter_range_low {p : Nat → Bool} {W n : Nat} (hW : W ≤ n) (h : ∀ m, W ≤ m → p m = false) : (List.range n).filter p = (List.range W).filter p := by
  obtain ⟨d, rfl⟩ := Nat.exists_eq_add_of_le hW
  have e : ((List.range d).map (W + ·)).filter p = [] := List.filter_eq_nil_iff.2 (by
    intro a ha
    obtain ⟨b, _, rfl⟩ := List.mem_map.1 ha
    rw [h _ (by omega)]
    simp)
  rw [List.range_add, List.filter_append, e, List.append_nil]
theorem flat_range {α : Type} (W : Nat) (P : Nat → Bool) (h : Nat → α) : ∀ a, (List.range a).flatMap (fun s => ((List.range W).filter (fun m => P (s * W + m))).map (fun m => h (s * W + m))) = ((List.range (a * W)).filter P).map h
  | 0 => by simp
  | a + 1 => by
    rw [List.range_succ, List.flatMap_append, flat_range W P h a, Nat.succ_mul, List.range_add, List.filter_append, List.map_append, List.filter_map, List.map_map]
    simp [Function.comp_def]
theorem flat_more {α : Type} {g : Nat → List α} {a n : Nat} (ha : a ≤ n) (h : ∀ s, a ≤ s → g s = []) : (List.range n).flatMap g = (List.range a).flatMap g := by
  obtain ⟨d, rfl⟩ := Nat.exists_eq_add_of_le ha
  have e : ((List.range d).map (a + ·)).flatMap g = [] := List.flatMap_eq_nil_iff.2 (by
    intro x hx
    obtain ⟨b, _, rfl⟩ := List.mem_map.1 hx
    exact h _ (by omega))
  rw [List.range_add, List.flatMap_append, e, List.append_nil]
/-- Is a number, less one, among the ids? -/
def inIds (zs : List Int) (x : Nat) : Bool := decide (((x + 1 : Nat) : Int) ∈ zs)
/-- The ids, rising. -/
def rising (zs : List Int) : List Nat := (List.range 1024).filter (inIds zs)
theorem ids_rise {W : Nat} (hW : IsW W) {zs : List Int} (hall : allIds zs) : idsL W (srt W zs) (setsOf (srt W zs)) = (rising zs).map fun x : Nat => Value.int .i64 ((x + 1 : Nat) : Int) := by
  obtain ⟨a, ha, ha2⟩ : ∃ a, a * W = 1024 ∧ a ≤ 128 := by
    unfold IsW at hW
    rcases hW with h | h | h | h | h | h
    · exact ⟨128, by omega, by omega⟩
    · exact ⟨64, by omega, by omega⟩
    · exact ⟨32, by omega, by omega⟩
    · exact ⟨16, by omega, by omega⟩
    · exact ⟨8, by omega, by omega⟩
    · exact ⟨4, by omega, by omega⟩
  have hWb := isW_pos hW
  have h1 : ∀ s, (lst (srt W zs s)).map (idN W s) = ((List.range W).filter (fun m => inIds zs (s * W + m))).map (fun m : Nat => Value.int .i64 ((s * W + m + 1 : Nat) : Int)) := fun s => by
    have hl := srt_low (by omega) zs s (W := W)
    unfold lst
    rw [filter_range_low (W := W) hWb.2 (fun m hm => Nat.testBit_lt_two_pow (Nat.lt_of_lt_of_le hl (Nat.pow_le_pow_right (by decide) hm)))]
    congr 1
    apply List.filter_congr
    intro m hm
    simp at hm
    have := srt_mem (s := s) hall hm
    unfold inIds
    rw [Bool.eq_iff_iff, this]
    simp
  unfold idsL setsOf upto
  rw [flat_some (fun s hs => by rw [hs, lst_zero]; rfl), flat_more ha2 (fun s hs => by
    rw [srt_over hall (show 1024 ≤ s * W from by rw [← ha]; exact Nat.mul_le_mul_right W hs), lst_zero]; rfl)]
  simp only [h1]
  unfold rising
  have := flat_range W (inIds zs) (fun x : Nat => Value.int .i64 ((x + 1 : Nat) : Int)) a
  rw [ha] at this
  exact this
theorem rise_at {P : Nat → Bool} {n x : Nat} (hx : x < n) (hP : P x = true) : ((List.range n).filter P)[((List.range x).filter P).length]? = some x := by
  obtain ⟨d, rfl⟩ := Nat.exists_eq_add_of_le (show x + 1 ≤ n from hx)
  rw [List.range_add, List.filter_append, List.range_succ, List.filter_append, List.append_assoc, List.getElem?_append_right (Nat.le_refl _), Nat.sub_self, List.filter_cons_of_pos hP]
  rfl
theorem rise_len {P : Nat → Bool} {x : Nat} : ((List.range (x + 1)).filter P).length = ((List.range x).filter P).length + (if P x = true then 1 else 0) := by
  rw [List.range_succ, List.filter_append, List.length_append]
  by_cases h : P x = true
  · rw [List.filter_cons_of_pos h, if_pos h]; rfl
  · rw [List.filter_cons_of_neg h, if_neg h]; rfl
theorem rise_lt {P : Nat → Bool} {n x : Nat} (hx : x < n) (hP : P x = true) : ((List.range x).filter P).length < ((List.range n).filter P).length := (List.getElem?_eq_some_iff.1 (rise_at hx hP)).1
theorem rising_len (zs : List Int) : (rising zs).length ≤ 1024 := by unfold rising; have := List.length_filter_le (inIds zs) (List.range 1024); simpa using this
/-- What comes of Split, given to Join. -/
theorem jrun_split {W : Nat} (hW : IsW W) {zs : List Int} (hall : allIds zs) : ∃ T, jrun W (prts (srt W zs) (setsOf (srt W zs))) = .ok (cutF (srt W zs), T) := by
  have hWb := isW_pos hW
  exact ⟨_, jrun_upto (fun s => bl_le.2 (srt_low (by omega) zs s)) (srt_fits hW hall) 128 (Nat.le_refl _)⟩
end Go.Proofs.YtjcbbifjhoemaaaDoor
