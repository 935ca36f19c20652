/- Marks beside a calendar: who is still there. -/
import Derived.Test.YtgblfpdhodfmbaaCP0
import Derived.Test.YtgblfpdhodfmbaaCRI
namespace Go.Proofs.Ytgblfpdhodfmbaa.Ca
open Go.RowKit Go.Maps

/-- Marks H of n places tell what L has. -/
structure Qm (n : Nat) (L : List (Tg Int)) (H : List Bool) : Prop where
  o : Ord L
  l : H.length = n
  s : ∀ a ∈ L, ∃ j : Nat, j < n ∧ a.1.1 = (j : Int) ∧ a.2 = ((j + 1 : Nat) : Int)
  h : ∀ j : Nat, j < n → (H[j]? = some true ↔ ∃ a ∈ L, a.2 = ((j + 1 : Nat) : Int))
theorem Qm.some {n : Nat} {L : List (Tg Int)} {H : List Bool} (h : Qm n L H) {j : Nat} (hj : j < n) : H[j]? = some true ∨ H[j]? = some false := by
  have := h.l
  rw [List.getElem?_eq_getElem (by omega)]
  cases H[j] <;> simp
theorem qm_full {A : List Int} {n : Nat} (hn : n ≤ A.length) (ho : Ord (filL A n)) : Qm n (filL A n) (List.replicate n true) := by
  refine ⟨ho, by simp, fun a ha => ?_, fun j hj => ?_⟩
  · obtain ⟨j, h1, h2, _, h4⟩ := (filL_mem n hn a).1 ha
    exact ⟨j, h1, h2, h4⟩
  · refine ⟨fun _ => ?_, fun _ => by simp [hj]⟩
    obtain ⟨x, hx⟩ : ∃ x, A[j]? = some x := ⟨A[j], List.getElem?_eq_getElem (by omega)⟩
    exact ⟨(((j : Int), x), ((j + 1 : Nat) : Int)), (filL_mem n hn _).2 ⟨j, hj, rfl, hx, rfl⟩, rfl⟩
theorem Qm.drop {n : Nat} {L : List (Tg Int)} {H : List Bool} (h : Qm n L H) {j : Nat} (hj : j < n) : Qm n (dropT L ((j + 1 : Nat) : Int)) (H.set j false) := by
  refine ⟨h.o.drop _, by rw [List.length_set]; exact h.l, fun a ha => h.s a (List.mem_filter.1 ha).1, fun i hi => ?_⟩
  by_cases hij : i = j
  · subst hij
    rw [List.getElem?_set_self (by rw [h.l]; exact hi)]
    constructor
    · intro e; cases e
    · rintro ⟨a, ha, hae⟩
      have := (List.mem_filter.1 ha).2
      rw [hae] at this
      simp at this
  · rw [List.getElem?_set_ne (fun e => hij e.symm), h.h i hi]
    constructor
    · rintro ⟨a, ha, hae⟩
      exact ⟨a, List.mem_filter.2 ⟨ha, by
        rw [hae]
        have : ¬ (i : Int) = (j : Int) := by omega
        simpa using this⟩, hae⟩
    · rintro ⟨a, ha, hae⟩
      exact ⟨a, (List.mem_filter.1 ha).1, hae⟩
theorem drop_len {L : List (Tg Int)} (ho : Ord L) {a : Tg Int} (ha : a ∈ L) : (dropT L a.2).length + 1 = L.length := by
  obtain ⟨l1, l2, rfl⟩ := List.append_of_mem ha
  have hp : (l1 ++ a :: l2).Perm (a :: (l1 ++ l2)) := List.perm_middle
  have h1 := dropT_perm ho hp
  rw [← h1.length_eq]
  simp
  omega
theorem Qm.any {n : Nat} {L : List (Tg Int)} {H : List Bool} (h : Qm n L H) {j : Nat} (hj : j < n) (hH : H[j]? = Option.some true) : (L.any fun a => a.2 == ((j + 1 : Nat) : Int)) = true ∧ (dropT L ((j + 1 : Nat) : Int)).length + 1 = L.length := by
  obtain ⟨a, ha, hae⟩ := (h.h j hj).1 hH
  refine ⟨by rw [List.any_eq_true]; exact ⟨a, ha, by simpa using hae⟩, ?_⟩
  rw [← hae]
  exact drop_len h.o ha
theorem Qm.nany {n : Nat} {L : List (Tg Int)} {H : List Bool} (h : Qm n L H) {t : Int} (ht : ∀ j : Nat, j < n → t = ((j + 1 : Nat) : Int) → H[j]? = Option.some false) : (L.any fun a => a.2 == t) = false ∧ dropT L t = L := by
  have hno : ∀ a ∈ L, a.2 ≠ t := fun a ha e => by
    obtain ⟨j, hj, _, h2⟩ := h.s a ha
    have h3 := ht j hj (by rw [← e, h2])
    have h4 := (h.h j hj).2 ⟨a, ha, h2⟩
    rw [h3] at h4
    cases h4
  refine ⟨?_, dropT_none hno⟩
  rw [List.any_eq_false]
  intro a ha
  simpa using hno a ha
/-- Odd things below i are out. -/
def oddL (L : List (Tg Int)) (i : Int) : List (Tg Int) := L.filter fun a => decide (Int.tmod a.1.1 2 = 0) || decide (i ≤ a.1.1)
def evenB (x : Int) : Bool := decide (Int.tmod x 2 = 0)
theorem oddL_one {n : Nat} {L : List (Tg Int)} {H : List Bool} (h : Qm n L H) : oddL L 1 = L := List.filter_eq_self.2 fun a ha => by
  obtain ⟨j, _, h1, _⟩ := h.s a ha
  rw [h1]
  cases j with
  | zero => rfl
  | succ j =>
    have : (1 : Int) ≤ ((j + 1 : Nat) : Int) := by omega
    rw [decide_eq_true this, Bool.or_true]
theorem oddL_end {n : Nat} {L : List (Tg Int)} {H : List Bool} (h : Qm n L H) {i : Int} (hi : (n : Int) ≤ i) : oddL L i = L.filter fun a => evenB a.1.1 := List.filter_congr fun a ha => by
  obtain ⟨j, hj, h1, _⟩ := h.s a ha
  have : ¬ i ≤ a.1.1 := by omega
  simp [this, evenB]
theorem oddL_step {n : Nat} {L : List (Tg Int)} {H : List Bool} (h : Qm n L H) {m : Nat} : oddL L ((2 * m + 1 + 2 : Nat) : Int) = dropT (oddL L ((2 * m + 1 : Nat) : Int)) ((2 * m + 1 + 1 : Nat) : Int) := by
  unfold oddL dropT
  rw [List.filter_filter]
  refine List.filter_congr fun a ha => ?_
  obtain ⟨j, hj, h1, h2⟩ := h.s a ha
  rw [h1, h2]
  have e : Int.tmod (j : Int) 2 = ((j % 2 : Nat) : Int) := by rw [Int.tmod_eq_emod_of_nonneg (by omega)]; rfl
  rw [e]
  by_cases c1 : j % 2 = 0
  · have : ¬ j = 2 * m + 1 := by omega
    have c2 : ¬ ((j + 1 : Nat) : Int) = ((2 * m + 1 + 1 : Nat) : Int) := by omega
    have c3 : (((j % 2 : Nat) : Int) = 0) := by omega
    simp only [c3, decide_true, Bool.true_or, Bool.and_true, Bool.true_eq, Bool.not_eq_true', beq_eq_false_iff_ne, ne_eq]
    exact c2
  · have c3 : ¬ (((j % 2 : Nat) : Int) = 0) := by omega
    simp only [c3, decide_false, Bool.false_or]
    by_cases c4 : j = 2 * m + 1
    · subst c4
      have : ¬ ((2 * m + 1 + 2 : Nat) : Int) ≤ ((2 * m + 1 : Nat) : Int) := by omega
      rw [decide_eq_false this]
      simp
    · by_cases c5 : ((2 * m + 1 + 2 : Nat) : Int) ≤ (j : Int)
      · have c6 : ((2 * m + 1 : Nat) : Int) ≤ (j : Int) := by omega
        have c7 : ¬ ((j + 1 : Nat) : Int) = ((2 * m + 1 + 1 : Nat) : Int) := by omega
        have c8 : (((j + 1 : Nat) : Int) == ((2 * m + 1 + 1 : Nat) : Int)) = false := by
          have : ¬ (j : Int) = 2 * (m : Int) + 1 := by omega
          simpa using this
        rw [decide_eq_true c5, decide_eq_true c6, c8]; rfl
      · have c6 : ¬ ((2 * m + 1 : Nat) : Int) ≤ (j : Int) := by omega
        rw [decide_eq_false c5, decide_eq_false c6]; simp
theorem even_le (L : List (Tg Int)) (i : Int) : (L.filter fun a => evenB a.1.1).length ≤ (oddL L i).length := by
  unfold oddL
  induction L with
  | nil => exact Nat.le_refl _
  | cons a L ih =>
    rw [List.filter_cons, List.filter_cons]
    cases h : evenB a.1.1
    · have h' : decide (Int.tmod a.1.1 2 = 0) = false := h
      rw [h']
      cases decide (i ≤ a.1.1)
      · exact ih
      · exact Nat.le_succ_of_le ih
    · have h' : decide (Int.tmod a.1.1 2 = 0) = true := h
      rw [h', Bool.true_or, if_pos rfl, if_pos rfl]
      exact Nat.succ_le_succ ih
theorem ref_even (L : List (Tg Int)) : (I.refT L evenB).length + (L.filter fun a => evenB a.1.1).length = L.length := by
  unfold I.refT
  rw [List.length_map]
  induction L with
  | nil => rfl
  | cons a L ih =>
    cases h : evenB a.1.1 <;> simp [h] <;> omega
end Go.Proofs.Ytgblfpdhodfmbaa.Ca
