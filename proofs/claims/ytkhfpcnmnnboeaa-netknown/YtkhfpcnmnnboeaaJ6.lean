/- A heap filled and emptied, as lists. -/
import Derived.Test.YtkhfpcnmnnboeaaJ0
namespace Go.Proofs.Ytkhfpcnmnnboeaa
open Go

section
variable {α : Type}
/-- One thing more; what is pushed one after another. -/
def addL (lt : α → α → Bool) (es : List (α × Int)) (x : α) : List (α × Int) := pushL lt es x (es.length : Int)
def fillL (lt : α → α → Bool) (l : List α) : List (α × Int) := l.foldl (addL lt) []
theorem fillL_snoc (lt : α → α → Bool) (l : List α) (x : α) : fillL lt (l ++ [x]) = addL lt (fillL lt l) x := by simp [fillL, List.foldl_append]
theorem addL_length (lt : α → α → Bool) (es : List (α × Int)) (x : α) : (addL lt es x).length = es.length + 1 := pushL_length lt es x _
theorem foldl_addL_length (lt : α → α → Bool) : ∀ (l : List α) (es : List (α × Int)), (l.foldl (addL lt) es).length = es.length + l.length
  | [], es => rfl
  | x :: l, es => by rw [List.foldl_cons, foldl_addL_length lt l, addL_length, List.length_cons]; omega
theorem fillL_length (lt : α → α → Bool) (l : List α) : (fillL lt l).length = l.length := by unfold fillL; rw [foldl_addL_length]; simp
theorem take_next {β : Type} {l : List β} {k : Nat} {x : β} (h : l[k]? = some x) : l.take (k + 1) = l.take k ++ [x] := by rw [List.take_add_one, h]; rfl
theorem fillL_next (lt : α → α → Bool) {l : List α} {k : Nat} {x : α} (h : l[k]? = some x) : fillL lt (l.take (k + 1)) = pushL lt (fillL lt (l.take k)) x (k : Int) := by
  have hk := (List.getElem?_eq_some_iff.1 h).1
  rw [take_next h, fillL_snoc]
  unfold addL
  rw [fillL_length, List.length_take, Nat.min_eq_left (by omega)]
/-- What is left behind n pops. -/
def popN (lt : α → α → Bool) : Nat → List (α × Int) → List (α × Int)
  | 0, es => es
  | n + 1, es => popL lt (popN lt n es)
theorem popN_length (lt : α → α → Bool) (es : List (α × Int)) : ∀ n, (popN lt n es).length = es.length - n
  | 0 => rfl
  | n + 1 => by rw [popN, popL_length, popN_length lt es n]; omega
/-- What the first n pops tell. -/
def joutN (lt : α → α → Bool) (es : List (α × Int)) : Nat → List α
  | 0 => []
  | n + 1 => joutN lt es n ++ ((popN lt n es)[0]?.map Prod.fst).toList
theorem joutN_next (lt : α → α → Bool) {es : List (α × Int)} {n : Nat} {a : α × Int} (h : (popN lt n es)[0]? = some a) : joutN lt es (n + 1) = joutN lt es n ++ [a.1] := by rw [joutN, h]; rfl
theorem popN_head (lt : α → α → Bool) {es : List (α × Int)} {n : Nat} (h : n < es.length) : ∃ a, (popN lt n es)[0]? = some a := by
  have := popN_length lt es n
  exact ⟨(popN lt n es)[0]'(by omega), List.getElem?_eq_getElem _⟩
theorem joutN_length (lt : α → α → Bool) (es : List (α × Int)) : ∀ n, n ≤ es.length → (joutN lt es n).length = n
  | 0, _ => rfl
  | n + 1, h => by
    obtain ⟨a, ha⟩ := popN_head lt (show n < es.length by omega)
    rw [joutN_next lt ha, List.length_append, joutN_length lt es n (by omega)]
    rfl
/-- What Sort answers. -/
def sortL (lt : α → α → Bool) (l : List α) : List α := joutN lt (fillL lt l) l.length
theorem sortL_length (lt : α → α → Bool) (l : List α) : (sortL lt l).length = l.length := joutN_length lt _ _ (by rw [fillL_length]; exact Nat.le_refl _)
theorem joutN_get (lt : α → α → Bool) (es : List (α × Int)) : ∀ n k, k < n → n ≤ es.length → (joutN lt es n)[k]? = (popN lt k es)[0]?.map Prod.fst
  | 0, k, h, _ => by omega
  | n + 1, k, h, hn => by
    obtain ⟨a, ha⟩ := popN_head lt (show n < es.length by omega)
    rw [joutN_next lt ha]
    have hl := joutN_length lt es n (by omega)
    by_cases e : k = n
    · subst e
      rw [List.getElem?_append_right (by omega), hl, Nat.sub_self, ha]
      rfl
    · rw [List.getElem?_append_left (by omega)]
      exact joutN_get lt es n k (by omega) (by omega)
end
end Go.Proofs.Ytkhfpcnmnnboeaa
