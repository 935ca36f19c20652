/- What a heap has, in the order of its pushes: the least that it tells is the first least of that list. -/
import Derived.Test.YtndiafbldgbplaaJI
namespace Go.Proofs.Ytndiafbldgbplaa
open Go

/-- The place of the least key, the first of several. -/
def IsLeast (l : List Th) (m : Nat) : Prop := ∃ y, l[m]? = some y ∧ ∀ j x, l[j]? = some x → y.1 ≤ x.1 ∧ (j < m → y.1 < x.1)
theorem isLeast_uniq {l : List Th} {m n : Nat} (h : IsLeast l m) (k : IsLeast l n) : m = n := by
  obtain ⟨y, hy, h1⟩ := h
  obtain ⟨z, hz, h2⟩ := k
  rcases Nat.lt_trichotomy m n with h | h | h
  · have := (h2 m y hy).2 h; have := (h1 n z hz).1; omega
  · exact h
  · have := (h1 n z hz).2 h; have := (h2 m y hy).1; omega
/-- A heap that has the things of l, pushed in this order, and numbers below p. -/
def Sim (es : List (Th × Int)) (l : List Th) (p : Int) : Prop :=
  ∃ ent : List (Th × Int), ent.map Prod.fst = l ∧ ent.Pairwise (fun a b => a.2 < b.2) ∧ (∀ e ∈ ent, e.2 < p) ∧ es.Perm ent ∧ IsHp (fun x : Th => x.1) es
theorem sim_nil : Sim [] [] 0 := ⟨[], rfl, List.Pairwise.nil, fun e he => by simp at he, List.Perm.refl _, fun j _ a b ha => by simp at ha⟩
theorem Sim.length {es : List (Th × Int)} {l : List Th} {p : Int} (h : Sim es l p) : es.length = l.length := by
  obtain ⟨ent, rfl, _, _, h4, _⟩ := h
  rw [h4.length_eq, List.length_map]
theorem Sim.push {es : List (Th × Int)} {l : List Th} {p : Int} (h : Sim es l p) (x : Th) : Sim (pushL ltT es x p) (l ++ [x]) (p + 1) := by
  obtain ⟨ent, rfl, h2, h3, h4, h5⟩ := h
  refine ⟨ent ++ [(x, p)], by simp, ?_, fun e he => ?_, ?_, push_heap _ h5 x p⟩
  · rw [List.pairwise_append]
    refine ⟨h2, List.pairwise_singleton _ _, fun a ha b hb => ?_⟩
    simp at hb
    subst hb
    exact h3 a ha
  · rcases List.mem_append.1 he with h | h
    · have := h3 e h; omega
    · simp at h; subst h; show p < p + 1; omega
  · exact (pushL_perm ltT es x p).trans ((h4.cons (x, p)).trans (List.perm_append_singleton (x, p) ent).symm)
theorem perm_erase {β : Type} {l : List β} {i : Nat} {a : β} (h : l[i]? = some a) : l.Perm (a :: l.eraseIdx i) := by
  induction l generalizing i with
  | nil => simp at h
  | cons b l ih =>
    cases i with
    | zero => simp at h; subst h; exact List.Perm.refl _
    | succ i =>
      rw [List.eraseIdx_cons_succ]
      exact ((ih (by simpa using h)).cons b).trans (List.Perm.swap a b _)
theorem eraseIdx_map {β γ : Type} (f : β → γ) : ∀ (l : List β) (i : Nat), (l.eraseIdx i).map f = (l.map f).eraseIdx i
  | [], i => by simp
  | b :: l, 0 => by simp
  | b :: l, i + 1 => by simp [eraseIdx_map f l i]
theorem Sim.pop {es : List (Th × Int)} {l : List Th} {p : Int} {a : Th × Int} {m : Nat} (h : Sim es l p) (ha : es[0]? = some a) (hm : IsLeast l m) :
    l[m]? = some a.1 ∧ Sim (popL ltT es) (l.eraseIdx m) p := by
  obtain ⟨ent, rfl, h2, h3, h4, h5⟩ := h
  have hmem : a ∈ ent := h4.mem_iff.1 (List.mem_of_getElem? ha)
  obtain ⟨i, hi, hia⟩ := List.getElem_of_mem hmem
  have hgi : ent[i]? = some a := by rw [List.getElem?_eq_getElem hi, hia]
  have hmin : ∀ e ∈ ent, leE (fun x : Th => x.1) a e := fun e he => heap_min_mem _ h5 ha (h4.mem_iff.2 he)
  have hl : IsLeast (ent.map Prod.fst) i := by
    refine ⟨a.1, by rw [List.getElem?_map, hgi]; rfl, fun j x hx => ?_⟩
    rw [List.getElem?_map] at hx
    cases he : ent[j]? with
    | none => rw [he] at hx; cases hx
    | some e =>
      rw [he] at hx
      cases hx
      have h6 := hmin e (List.mem_of_getElem? he)
      unfold leE at h6
      refine ⟨by simp only at h6 ⊢; omega, fun hji => ?_⟩
      have h7 : e.2 < a.2 := by
        have hj := (List.getElem?_eq_some_iff.1 he).1
        have := (List.pairwise_iff_getElem.1 h2) j i hj hi hji
        rw [(List.getElem?_eq_some_iff.1 he).2, hia] at this
        exact this
      simp only at h6 ⊢
      omega
  obtain rfl := isLeast_uniq hm hl
  refine ⟨by rw [List.getElem?_map, hgi]; rfl, ent.eraseIdx m, eraseIdx_map _ _ _, ?_, fun e he => h3 e ((List.eraseIdx_sublist ent m).subset he), ?_, pop_heap _ h5⟩
  · exact h2.sublist (List.eraseIdx_sublist ent m)
  · have h6 := (pop_cons ltT ha).symm.trans (h4.trans (perm_erase hgi))
    exact List.Perm.cons_inv h6
theorem sim_fill (l : List Th) : Sim (fillL ltT l) l (l.length : Int) := by
  have : ∀ (n : Nat), n ≤ l.length → Sim (fillL ltT (l.take n)) (l.take n) (n : Int) := by
    intro n
    induction n with
    | zero => intro _; exact sim_nil
    | succ n ih =>
      intro hn
      have hx : l[n]? = some l[n] := List.getElem?_eq_getElem (by omega)
      rw [fillL_next ltT hx, take_next hx]
      have := (ih (by omega)).push l[n]
      rw [show ((n + 1 : Nat) : Int) = (n : Int) + 1 from by omega]
      exact this
  have h := this l.length (Nat.le_refl _)
  rw [List.take_length] at h
  exact h
end Go.Proofs.Ytndiafbldgbplaa
