/- laid. -/
import Derived.Test.YtaldehgggilmdaaG5
namespace Go.Proofs.Ytaldehgggilmdaa
open Go.RowKit

def outE (c : Nat → Nat → Int) (a : Nat) : List Ed := (List.range a).flatMap fun a => rowE c a (List.range 25)
theorem outE_succ (c : Nat → Nat → Int) (a : Nat) : outE c (a + 1) = outE c a ++ rowE c a (List.range 25) := by simp [outE, List.range_succ, List.flatMap_append]
theorem rowE_yes {c : Nat → Nat → Int} {a b : Nat} (h1 : 0 < c a b) (h2 : 0 < c b a) : rowE c a (List.range (b + 1)) = rowE c a (List.range b) ++ [((a : Int), (b : Int), c a b)] := by simp [rowE, List.range_succ, List.filter_append, h1, h2]
theorem rowE_no {c : Nat → Nat → Int} {a b : Nat} (h : ¬ (0 < c a b ∧ 0 < c b a)) : rowE c a (List.range (b + 1)) = rowE c a (List.range b) := by
  have : (decide (0 < c a b) && decide (0 < c b a)) = false := by simpa using h
  simp only [rowE, List.range_succ, List.filter_append, List.filter_cons, this, List.filter_nil]
  simp
theorem rowE_len (c : Nat → Nat → Int) (a : Nat) (l : List Nat) : (rowE c a l).length ≤ l.length := by unfold rowE; rw [List.length_map]; exact List.length_filter_le _ _
theorem outE_len (c : Nat → Nat → Int) : ∀ a, (outE c a).length ≤ a * 25
  | 0 => by simp [outE]
  | a + 1 => by
    rw [outE_succ, List.length_append]
    have h1 := outE_len c a
    have h2 := rowE_len c a (List.range 25)
    simp at h2
    omega
end Go.Proofs.Ytaldehgggilmdaa
