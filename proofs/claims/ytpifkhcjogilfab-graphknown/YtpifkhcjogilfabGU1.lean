/- The document's Unlike, cost. -/
import Derived.Test.YtpifkhcjogilfabGU0
import Derived.Test.YtpifkhcjogilfabGH
import Derived.Test.YtpifkhcjogilfabGUP
namespace Go.Proofs.Ytpifkhcjogilfab
open Go.RowKit

theorem unl_snoc {rs : List Rc} {r : Rc} (h : Unl rs) (hr : recOk r = true) (hd : ∀ x ∈ rs, x.origin ≠ r.origin) : Unl (rs ++ [r]) := by
  refine ⟨fun x hx => ?_, ?_⟩
  · rcases List.mem_append.1 hx with hx | hx
    · exact h.1 x hx
    · simp at hx; rw [hx]; exact hr
  · rw [List.pairwise_append]
    refine ⟨h.2, by simp, fun x hx y hy e => ?_⟩
    simp at hy
    subst hy
    have h1 := (recOk_parts (h.1 x hx)).1
    have h2 := (recOk_parts hr).1
    exact hd x hx (by omega)
theorem unl_not1 {rs : List Rc} {r : Rc} (hm : r ∈ rs) (hr : recOk r = false) : bothOk no1 rs = false := by
  cases hb : bothOk no1 rs with
  | false => rfl
  | true => have := (both_unl.1 hb).1 r hm; rw [hr] at this; cases this
theorem pair_ne {rs : List Rc} {i j : Nat} {a b : Rc} (hu : Unl rs) (h1 : rs[i]? = some a) (h2 : rs[j]? = some b) (h3 : i < j) : a.origin.toNat ≠ b.origin.toNat := by
  obtain ⟨hi, e1⟩ := List.getElem?_eq_some_iff.1 h1
  obtain ⟨hj, e2⟩ := List.getElem?_eq_some_iff.1 h2
  have h := List.pairwise_iff_getElem.1 hu.2 i j hi hj h3
  rw [e1, e2] at h
  exact h
theorem unl_not2 {rs : List Rc} {i j : Nat} {a b : Rc} (h1 : rs[i]? = some a) (h2 : rs[j]? = some b) (h3 : i < j) (he : a.origin = b.origin) : bothOk no1 rs = false := by
  cases hb : bothOk no1 rs with
  | false => rfl
  | true => exact absurd (by rw [he]) (pair_ne (both_unl.1 hb) h1 h2 h3)

/-- What is left to look at. -/
def costM (r : Rc) (rs : List Rc) (a b : Int) (j : Nat) : Int := if r.origin = a then (match (r.adjs.drop j).find? fun x => decide (x.1 = b) with | some x => x.2 | none => costF rs a b) else costF rs a b
theorem costM_end {r : Rc} {rs : List Rc} {a b : Int} {j : Nat} (h : r.adjs.length ≤ j) : costM r rs a b j = costF rs a b := by
  unfold costM
  rw [List.drop_eq_nil_of_le h]
  by_cases h : r.origin = a <;> simp [h]
theorem costM_no {r : Rc} {rs : List Rc} {a b : Int} {j : Nat} {x : Int × Int} (h : r.adjs[j]? = some x) (hn : ¬ (r.origin = a ∧ x.1 = b)) : costM r rs a b j = costM r rs a b (j + 1) := by
  unfold costM
  rw [drop_next h]
  by_cases h1 : r.origin = a
  · have h2 : ¬ x.1 = b := fun e => hn ⟨h1, e⟩
    simp [h1, h2]
  · simp [h1]
theorem costM_yes {r : Rc} {rs : List Rc} {a b : Int} {j : Nat} {x : Int × Int} (h : r.adjs[j]? = some x) (h1 : r.origin = a) (h2 : x.1 = b) : costM r rs a b j = x.2 := by
  unfold costM
  rw [drop_next h]
  simp [h1, h2]

end Go.Proofs.Ytpifkhcjogilfab
