/- A heap as a list: how it rises and sinks; that nothing is lost, and that the first one is the least. -/
import Derived.Laws.BitsAllLaws
namespace Go.Proofs.Ytkhfpcnmnnboeaa
open Go

section
variable {α : Type}
/-- One entry ahead of another: by the order, then by the number of the push. -/
def aheadE (lt : α → α → Bool) (a b : α × Int) : Bool := if a.2 < b.2 then !lt b.1 a.1 else lt a.1 b.1
def swp (es : List (α × Int)) (i j : Nat) (a b : α × Int) : List (α × Int) := (es.set i b).set j a
def riseF (lt : α → α → Bool) : Nat → List (α × Int) → Nat → List (α × Int)
  | 0, es, _ => es
  | f + 1, es, i => if i = 0 then es else
    match es[i]?, es[(i - 1) / 2]? with
    | some a, some b => if aheadE lt a b = true then riseF lt f (swp es i ((i - 1) / 2) a b) ((i - 1) / 2) else es
    | _, _ => es
def belowF (lt : α → α → Bool) (es : List (α × Int)) (i : Nat) : Nat :=
  match es[2 * i + 2]?, es[2 * i + 1]? with
  | some r, some l => if aheadE lt r l = true then 2 * i + 2 else 2 * i + 1
  | _, _ => 2 * i + 1
def sinkF (lt : α → α → Bool) : Nat → List (α × Int) → Nat → List (α × Int)
  | 0, es, _ => es
  | f + 1, es, i =>
    match es[belowF lt es i]?, es[i]? with
    | some b, some a => if aheadE lt b a = true then sinkF lt f (swp es i (belowF lt es i) a b) (belowF lt es i) else es
    | _, _ => es
def pushL (lt : α → α → Bool) (es : List (α × Int)) (x : α) (p : Int) : List (α × Int) := riseF lt es.length (es ++ [(x, p)]) es.length
def popL (lt : α → α → Bool) (es : List (α × Int)) : List (α × Int) :=
  match es[es.length - 1]? with
  | some z => sinkF lt (es.length - 1) ((es.set 0 z).take (es.length - 1)) 0
  | none => []

theorem swp_length (es : List (α × Int)) (i j : Nat) (a b : α × Int) : (swp es i j a b).length = es.length := by simp [swp]
theorem swp_get {es : List (α × Int)} {i j : Nat} {a b : α × Int} (ha : es[i]? = some a) (hb : es[j]? = some b) (k : Nat) :
    (swp es i j a b)[k]? = if k = j then some a else if k = i then some b else es[k]? := by
  have hi := (List.getElem?_eq_some_iff.1 ha).1
  have hj := (List.getElem?_eq_some_iff.1 hb).1
  unfold swp
  rw [List.getElem?_set, List.length_set, List.getElem?_set]
  by_cases h1 : j = k
  · subst h1; simp [hj]
  · by_cases h2 : i = k
    · subst h2
      have h3 : ¬ i = j := fun e => h1 e.symm
      simp [h1, h3, hi]
    · have h3 : ¬ k = j := fun e => h1 e.symm
      have h4 : ¬ k = i := fun e => h2 e.symm
      simp [h1, h2, h3, h4]
theorem perm_set {es : List (α × Int)} : ∀ {i : Nat} {a : α × Int} (b : α × Int), es[i]? = some a → (a :: es.set i b).Perm (b :: es) := by
  induction es with
  | nil => intro i a b h; simp at h
  | cons e es ih =>
    intro i a b h
    cases i with
    | zero =>
      simp at h
      subst h
      simpa using List.Perm.swap b e es
    | succ i =>
      rw [List.set_cons_succ]
      have := ih b (show es[i]? = some a by simpa using h)
      exact (List.Perm.swap e a _).trans ((this.cons e).trans (List.Perm.swap b e es))
theorem swp_perm {es : List (α × Int)} {i j : Nat} {a b : α × Int} (ha : es[i]? = some a) (hb : es[j]? = some b) (hij : i ≠ j) : (swp es i j a b).Perm es := by
  have h1 : (a :: es.set i b).Perm (b :: es) := perm_set b ha
  have hb' : (es.set i b)[j]? = some b := by rw [List.getElem?_set_ne hij]; exact hb
  have h2 : (b :: (es.set i b).set j a).Perm (a :: es.set i b) := perm_set a hb'
  exact List.Perm.cons_inv (h2.trans h1)
theorem par_lt {i : Nat} (h : i ≠ 0) : (i - 1) / 2 < i := by omega
theorem riseF_perm (lt : α → α → Bool) : ∀ (f : Nat) (es : List (α × Int)) (i : Nat), (riseF lt f es i).Perm es
  | 0, es, i => List.Perm.refl _
  | f + 1, es, i => by
    unfold riseF
    split
    · exact List.Perm.refl _
    · rename_i hi
      split
      · rename_i a b ha hb
        split
        · exact (riseF_perm lt f _ _).trans (swp_perm ha hb (by omega))
        · exact List.Perm.refl _
      · exact List.Perm.refl _
theorem belowF_or (lt : α → α → Bool) (es : List (α × Int)) (i : Nat) : belowF lt es i = 2 * i + 1 ∨ belowF lt es i = 2 * i + 2 := by
  unfold belowF
  split
  · split
    · exact .inr rfl
    · exact .inl rfl
  · exact .inl rfl
theorem sinkF_perm (lt : α → α → Bool) : ∀ (f : Nat) (es : List (α × Int)) (i : Nat), (sinkF lt f es i).Perm es
  | 0, es, i => List.Perm.refl _
  | f + 1, es, i => by
    unfold sinkF
    split
    · rename_i b a hb ha
      split
      · exact (sinkF_perm lt f _ _).trans (swp_perm ha hb (by have := belowF_or lt es i; omega))
      · exact List.Perm.refl _
    · exact List.Perm.refl _
theorem pushL_perm (lt : α → α → Bool) (es : List (α × Int)) (x : α) (p : Int) : (pushL lt es x p).Perm ((x, p) :: es) := by
  unfold pushL
  refine (riseF_perm lt _ _ _).trans ?_
  simp
theorem popL_perm (lt : α → α → Bool) (e : α × Int) (es : List (α × Int)) : (popL lt (e :: es)).Perm es := by
  unfold popL
  have hl : (e :: es).length - 1 = es.length := by simp
  rw [hl]
  obtain ⟨z, hz⟩ : ∃ z, (e :: es)[es.length]? = some z := ⟨(e :: es)[es.length], List.getElem?_eq_getElem (by simp)⟩
  rw [hz]
  refine (sinkF_perm lt _ _ _).trans ?_
  have h1 : (e :: es).set 0 z = z :: es := rfl
  rw [h1]
  cases h : es.length with
  | zero =>
    have := List.length_eq_zero_iff.1 h
    subst this
    exact List.Perm.refl _
  | succ n =>
    rw [List.take_succ_cons]
    rw [h] at hz
    have hz' : es[n]? = some z := by simpa using hz
    have h2 : es = es.take n ++ [z] := by
      have h3 := List.take_append_drop n es
      rw [List.drop_eq_getElem_cons (by omega), List.drop_of_length_le (by omega)] at h3
      have h4 : es[n]'(by omega) = z := (List.getElem?_eq_some_iff.1 hz').2
      rw [h4] at h3
      exact h3.symm
    have h5 := @List.perm_append_comm _ [z] (es.take n)
    rw [← h2] at h5
    exact h5
theorem pushL_length (lt : α → α → Bool) (es : List (α × Int)) (x : α) (p : Int) : (pushL lt es x p).length = es.length + 1 := by
  have := (pushL_perm lt es x p).length_eq
  simpa using this
theorem popL_length (lt : α → α → Bool) (es : List (α × Int)) : (popL lt es).length = es.length - 1 := by
  cases es with
  | nil => simp [popL]
  | cons e es => have := (popL_perm lt e es).length_eq; simpa using this
end
end Go.Proofs.Ytkhfpcnmnnboeaa
