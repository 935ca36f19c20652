/- Records without one neighbour, ad lists. -/
import Derived.Test.YtpifkhcjogilfabGUP
namespace Go.Proofs.Ytpifkhcjogilfab

def less1 (r : Rc) (k : Nat) : Rc := { r with adjs := r.adjs.take k ++ r.adjs.drop (k + 1) }
def npE (o g : Int) (e : Ed) : Bool := !((decide (e.1 = o) && decide (e.2.1 = g)) || (decide (e.2.1 = o) && decide (e.1 = g)))
theorem adjsOk_weak {o last last' : Int} (h : last ≤ last') : ∀ {ad : List (Int × Int)}, adjsOk o last' ad = true → adjsOk o last ad = true
  | [], _ => rfl
  | a :: ad, hk => by
    simp only [adjsOk, adjOk, Bool.and_eq_true, decide_eq_true_eq] at hk ⊢
    exact ⟨⟨hk.1.1, hk.1.2.1, by omega, hk.1.2.2.2⟩, hk.2⟩
theorem adjsOk_less : ∀ (ad : List (Int × Int)) (k : Nat) (o last : Int), adjsOk o last ad = true → adjsOk o last (ad.take k ++ ad.drop (k + 1)) = true
  | [], k, o, last, _ => by simp [adjsOk]
  | a :: ad, 0, o, last, h => by
    simp only [adjsOk, adjOk, Bool.and_eq_true, decide_eq_true_eq] at h
    show adjsOk o last ad = true
    exact adjsOk_weak (by omega) h.2
  | a :: ad, k + 1, o, last, h => by
    simp only [adjsOk, Bool.and_eq_true] at h
    show (adjOk o last a && adjsOk o a.1 (ad.take k ++ ad.drop (k + 1))) = true
    rw [h.1, adjsOk_less ad k o a.1 h.2]
    rfl
theorem less_len (ad : List (Int × Int)) (k : Nat) : (ad.take k ++ ad.drop (k + 1)).length ≤ ad.length := by
  rw [List.length_append, List.length_take, List.length_drop]
  omega
theorem recOk_less {r : Rc} (h : recOk r = true) (k : Nat) : recOk (less1 r k) = true := by
  simp only [recOk, less1, Bool.and_eq_true, decide_eq_true_eq] at h ⊢
  have := less_len r.adjs k
  exact ⟨h.1, decide_eq_true h.2.1, decide_eq_true h.2.2.1, decide_eq_true h.2.2.2.1, decide_eq_true h.2.2.2.2.1, decide_eq_true (Nat.le_trans this h.2.2.2.2.2.1), adjsOk_less _ _ _ _ h.2.2.2.2.2.2⟩
theorem less_ne : ∀ (ad : List (Int × Int)) (k : Nat) (o last : Int) (y : Int × Int), adjsOk o last ad = true → ad[k]? = some y → ∀ x ∈ ad.take k ++ ad.drop (k + 1), x ∈ ad ∧ x.1 ≠ y.1
  | [], k, o, last, y, _, h, _, _ => by simp at h
  | a :: ad, 0, o, last, y, hk, h, x, hx => by
    simp at h
    subst h
    have hx' : x ∈ ad := hx
    simp only [adjsOk, Bool.and_eq_true] at hk
    have := adjsOk_all o ad a.1 hk.2 x hx'
    exact ⟨by simp [hx'], by omega⟩
  | a :: ad, k + 1, o, last, y, hk, h, x, hx => by
    have h' : ad[k]? = some y := by simpa using h
    simp only [adjsOk, Bool.and_eq_true] at hk
    have hx' : x ∈ a :: (ad.take k ++ ad.drop (k + 1)) := hx
    rcases List.mem_cons.1 hx' with rfl | hx'
    · have := adjsOk_all o ad x.1 hk.2 y (List.mem_of_getElem? h')
      exact ⟨by simp, by omega⟩
    · have := less_ne ad k o a.1 y hk.2 h' x hx'
      exact ⟨by simp [this.1], this.2⟩
theorem less_mem {α : Type} : ∀ {ad : List α} {k : Nat} {y x : α}, ad[k]? = some y → x ∈ ad → x ≠ y → x ∈ ad.take k ++ ad.drop (k + 1)
  | [], k, y, x, h, _, _ => by simp at h
  | a :: ad, 0, y, x, h, hx, hn => by
    simp at h
    subst h
    rcases List.mem_cons.1 hx with h | h
    · exact absurd h hn
    · exact h
  | a :: ad, k + 1, y, x, h, hx, hn => by
    show x ∈ a :: (ad.take k ++ ad.drop (k + 1))
    rcases List.mem_cons.1 hx with h1 | h1
    · rw [h1]; simp
    · exact List.mem_cons_of_mem _ (less_mem (by simpa using h) h1 hn)
theorem unl_ne {rs : List Rc} {i j : Nat} {a b : Rc} (hu : Unl rs) (h1 : rs[i]? = some a) (h2 : rs[j]? = some b) (h3 : i ≠ j) : a.origin.toNat ≠ b.origin.toNat := by
  obtain ⟨hi, e1⟩ := List.getElem?_eq_some_iff.1 h1
  obtain ⟨hj, e2⟩ := List.getElem?_eq_some_iff.1 h2
  rcases Nat.lt_or_gt_of_ne h3 with h | h
  · have h := List.pairwise_iff_getElem.1 hu.2 i j hi hj h
    rw [e1, e2] at h
    exact h
  · have h := List.pairwise_iff_getElem.1 hu.2 j i hj hi h
    rw [e1, e2] at h
    exact fun e => h e.symm
theorem unl_set {rs : List Rc} {i : Nat} {r : Rc} (hu : Unl rs) (hr : rs[i]? = some r) (k : Nat) : Unl (rs.set i (less1 r k)) := by
  obtain ⟨hi, e1⟩ := List.getElem?_eq_some_iff.1 hr
  refine ⟨fun x hx => ?_, ?_⟩
  · rcases List.mem_or_eq_of_mem_set hx with h | h
    · exact hu.1 x h
    · rw [h]; exact recOk_less (hu.1 r (List.mem_of_getElem? hr)) k
  · have h1 : ∀ l : List Rc, (l.Pairwise fun a b => a.origin.toNat ≠ b.origin.toNat) ↔ (l.map fun a => a.origin.toNat).Pairwise (· ≠ ·) := fun l => by rw [List.pairwise_map]
    rw [h1, List.map_set]
    have h2 : (rs.map fun a => a.origin.toNat).set i ((less1 r k).origin.toNat) = rs.map fun a => a.origin.toNat := by
      apply List.ext_getElem?
      intro m
      rw [List.getElem?_set]
      by_cases hm : i = m
      · subst hm
        rw [if_pos rfl, if_pos (by simpa using hi), List.getElem?_map, hr]
        rfl
      · rw [if_neg hm]
    rw [h2, ← h1]
    exact hu.2
theorem set_mem {rs : List Rc} {i : Nat} {r a x : Rc} (hu : Unl rs) (hr : rs[i]? = some r) (hx : x ∈ rs.set i a) : x = a ∨ (x ∈ rs ∧ x.origin.toNat ≠ r.origin.toNat) := by
  obtain ⟨m, hm⟩ := List.getElem?_of_mem hx
  rw [List.getElem?_set] at hm
  by_cases h : i = m
  · subst h
    rw [if_pos rfl] at hm
    by_cases hl : i < rs.length
    · rw [if_pos hl] at hm
      simp at hm
      exact .inl hm.symm
    · rw [if_neg hl] at hm; cases hm
  · rw [if_neg h] at hm
    exact .inr ⟨List.mem_of_getElem? hm, unl_ne hu hm hr (fun e => h e.symm)⟩
theorem isCost_less {rs : List Rc} {i k : Nat} {r : Rc} {y : Int × Int} (hu : Unl rs) (hr : rs[i]? = some r) (hy : r.adjs[k]? = some y) : IsCost (rs.set i (less1 r k)) fun a b => if a = r.origin.toNat ∧ b = y.1.toNat then 0 else costL no2 rs a b := by
  have hc := isCost_of hu
  have hm := List.mem_of_getElem? hr
  have hi := (List.getElem?_eq_some_iff.1 hr).1
  have hro := recOk_parts (hu.1 r hm)
  have hyb := recOk_adj (hu.1 r hm) (List.mem_of_getElem? hy)
  refine ⟨fun q hq x hx => ?_, fun a b h => ?_⟩
  · rcases set_mem hu hr hq with h | ⟨h1, h2⟩
    · subst h
      have hl := less_ne r.adjs k r.origin 0 y hro.2.2 hy x hx
      have hxb := recOk_adj (hu.1 r hm) hl.1
      show (if r.origin.toNat = r.origin.toNat ∧ x.1.toNat = y.1.toNat then 0 else costL no2 rs r.origin.toNat x.1.toNat) = x.2
      rw [if_neg (fun e => hl.2 (by have := e.2; omega))]
      exact hc.at' r hm x hl.1
    · show (if q.origin.toNat = r.origin.toNat ∧ x.1.toNat = y.1.toNat then 0 else costL no2 rs q.origin.toNat x.1.toNat) = x.2
      rw [if_neg (fun e => h2 e.1)]
      exact hc.at' q h1 x hx
  · by_cases hab : a = r.origin.toNat ∧ b = y.1.toNat
    · rw [if_pos hab] at h; exact absurd rfl h
    · rw [if_neg hab] at h
      obtain ⟨q, hq, x, hx, e1, e2⟩ := hc.from' a b h
      obtain ⟨m, hmq⟩ := List.getElem?_of_mem hq
      by_cases him : i = m
      · subst him
        rw [hr] at hmq
        simp at hmq
        subst hmq
        refine ⟨less1 r k, List.mem_of_getElem? (i := i) (by rw [List.getElem?_set, if_pos rfl, if_pos hi]), x, ?_, e1, e2⟩
        exact less_mem hy hx (fun e => hab ⟨e1.symm, by rw [← e2, e]⟩)
      · exact ⟨q, List.mem_of_getElem? (i := m) (by rw [List.getElem?_set, if_neg him]; exact hmq), x, hx, e1, e2⟩
theorem rowE_less {c c' : Nat → Nat → Int} {o g : Nat} (h : ∀ a b, c' a b = if a = o ∧ b = g then 0 else c a b) (a : Nat) : ∀ l : List Nat, rowE c' a l = (rowE c a l).filter (npE (o : Int) (g : Int))
  | [] => rfl
  | b :: l => by
    have ih := rowE_less h a l
    unfold rowE at ih ⊢
    rw [List.filter_cons, List.filter_cons]
    have h1 := h a b
    have h2 := h b a
    have hn : npE (o : Int) (g : Int) ((a : Int), (b : Int), c a b) = !((decide (a = o) && decide (b = g)) || (decide (b = o) && decide (a = g))) := by
      unfold npE
      have e : ∀ p q : Nat, decide ((p : Int) = (q : Int)) = decide (p = q) := fun p q => by
        by_cases hpq : p = q
        · simp [hpq]
        · have : ¬ (p : Int) = (q : Int) := by omega
          simp [hpq, this]
      simp only [e]
    by_cases k1 : 0 < c a b ∧ 0 < c b a
    · rw [if_pos (show (decide (0 < c a b) && decide (0 < c b a)) = true by simpa using k1), List.map_cons, List.filter_cons, hn]
      by_cases p1 : a = o ∧ b = g
      · rw [if_pos p1] at h1
        rw [if_neg (by simp [h1]), if_neg (by simp [p1.1, p1.2])]
        exact ih
      · rw [if_neg p1] at h1
        by_cases p2 : b = o ∧ a = g
        · rw [if_pos p2] at h2
          rw [if_neg (by simp [h2]), if_neg (by simp [p2.1, p2.2])]
          exact ih
        · rw [if_neg p2] at h2
          rw [if_pos (by rw [h1, h2]; simpa using k1), if_pos (by
            have q1 : (decide (a = o) && decide (b = g)) = false := by simpa using p1
            have q2 : (decide (b = o) && decide (a = g)) = false := by simpa using p2
            rw [q1, q2]; rfl), List.map_cons, ih, h1]
    · rw [if_neg (show ¬ (decide (0 < c a b) && decide (0 < c b a)) = true by simpa using k1), if_neg (by
        intro hk
        simp at hk
        refine k1 ⟨?_, ?_⟩
        · have := hk.1; rw [h1] at this; split at this <;> omega
        · have := hk.2; rw [h2] at this; split at this <;> omega)]
      exact ih
theorem laidE_less {c c' : Nat → Nat → Int} {o g : Nat} (h : ∀ a b, c' a b = if a = o ∧ b = g then 0 else c a b) : laidE c' = (laidE c).filter (npE (o : Int) (g : Int)) := by
  unfold laidE
  rw [List.filter_flatMap]
  congr 1
  funext a
  exact rowE_less h a _
theorem less_all {rs : List Rc} {i k : Nat} {r : Rc} {y : Int × Int} (hu : Unl rs) (hr : rs[i]? = some r) (hy : r.adjs[k]? = some y) : bothOk no1 (rs.set i (less1 r k)) = true ∧ bothE (rs.set i (less1 r k)) = (bothE rs).filter (npE r.origin y.1) ∧ (bothN (rs.set i (less1 r k))).length = rs.length := by
  have hu' := unl_set hu hr k
  have hm := List.mem_of_getElem? hr
  have hro := (recOk_parts (hu.1 r hm)).1
  have hyb := recOk_adj (hu.1 r hm) (List.mem_of_getElem? hy)
  refine ⟨both_unl.2 hu', ?_, by rw [bothN_len hu', List.length_set]⟩
  have h1 := laidE_less (c := costL no2 rs) (c' := costL no2 (rs.set i (less1 r k))) (o := r.origin.toNat) (g := y.1.toNat) ((isCost_of hu').same (isCost_less hu hr hy) fun _ => Iff.rfl)
  rw [Int.toNat_of_nonneg (by omega), Int.toNat_of_nonneg (by omega)] at h1
  exact h1
theorem hasE_less {E : List Ed} {o g : Int} {e : Ed} (he : e ∈ E) : hasE (E.filter (npE o g)) e.1 e.2.1 = npE o g e := by
  cases h : npE o g e with
  | true => exact hasE_iff.2 ⟨e, List.mem_filter.2 ⟨he, h⟩, rfl, rfl⟩
  | false =>
    cases h2 : hasE (E.filter (npE o g)) e.1 e.2.1 with
    | false => rfl
    | true =>
      obtain ⟨x, hx, h3, h4⟩ := hasE_iff.1 h2
      have h5 := (List.mem_filter.1 hx).2
      unfold npE at h h5
      rw [h3, h4, h] at h5
      cases h5
end Go.Proofs.Ytpifkhcjogilfab
