/- A statement that leaves its order open, by an invariant: whatever order is drawn, each operation keeps it. -/
import Derived.WalkKit
import Derived.RegionTactic
namespace Go.Proofs.YtghjjfgeminkgaaDoor
open Go Go.RowKit

variable {P : Program} {md : Region.Mode} {ops : Array Oper} {Q : Exit → Act → World → Prop}

theorem count_set {l : List Bool} {i : Nat} (h : l[i]? = some false) : (l.set i true).count false + 1 = l.count false := by
  induction l generalizing i with
  | nil => simp at h
  | cons b r ih =>
    cases i with
    | zero => simp at h; subst h; simp
    | succ i =>
      have := ih (i := i) (by simpa using h)
      cases b <;> simp at this ⊢ <;> omega
theorem getD_false {l : Array Bool} {i : Nat} (h : l.getD i true = false) : l.toList[i]? = some false := by
  cases hi : l[i]? with
  | none => simp [Array.getD_eq_getD_getElem?, hi] at h
  | some b =>
    simp [Array.getD_eq_getD_getElem?, hi] at h
    subst h
    simpa using hi
theorem wpAny_inv (Inv : Array Bool → Act → World → Prop)
    (hstep : ∀ i o, ops[i]? = some o → ∀ l a w, Inv l a w → l.getD i true = false → (∀ e ∈ o.after, Region.binds md e = true → l.getD e.on false = true) →
      ∀ K : Act → World → Prop, (∀ a w, Inv (l.setIfInBounds i true) a w → K a w) → if Region.wanted o (yielded ops a.tmps) = true then Oper.wp P o a w K Q else K (a.put o.dst undef) w)
    (hend : ∀ l a w, Inv l a w → (∀ i o, ops[i]? = some o → (∀ e ∈ o.after, Region.binds md e = true → l.getD e.on false = true) → l.getD i true = true) → Q .normal a w) :
    ∀ (fuel : Nat) (l : Array Bool) (a : Act) (w : World), Inv l a w → l.toList.count false ≤ fuel → wpAny P md ops Q fuel l a w := by
  have hnone : ∀ l, Region.ready md ops l = [] → ∀ i o, ops[i]? = some o → (∀ e ∈ o.after, Region.binds md e = true → l.getD e.on false = true) → l.getD i true = true := by
    intro l hr i o ho hd
    cases hb : l.getD i true with
    | true => rfl
    | false =>
      have : i ∈ Region.ready md ops l := mem_ready.2 ⟨hb, o, ho, hd⟩
      rw [hr] at this
      simp at this
  intro fuel
  induction fuel with
  | zero =>
    intro l a w hI hc
    have hr : Region.ready md ops l = [] := by
      cases hr : Region.ready md ops l with
      | nil => rfl
      | cons i r =>
        have hi : i ∈ Region.ready md ops l := by rw [hr]; simp
        have := count_set (getD_false (mem_ready.1 hi).1)
        omega
    exact ⟨hr, hend l a w hI (hnone l hr)⟩
  | succ fuel ih =>
    intro l a w hI hc
    refine ⟨fun hr => hend l a w hI (hnone l hr), fun i hi => ?_⟩
    obtain ⟨hf, o, ho, hd⟩ := mem_ready.1 hi
    refine wpOp_step ho (fun K hK => hstep i o ho l a w hI hf hd K (fun a' w' h => hK a' w' (ih _ a' w' h ?_)))
    have := count_set (getD_false hf)
    rw [Array.toList_setIfInBounds]
    omega
end Go.Proofs.YtghjjfgeminkgaaDoor
