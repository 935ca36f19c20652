/- Numbers that rise, each once; the claims of records, as lists. -/
import Derived.Test.YtgpinecfmhenkaaDoorN0
import Derived.Lib.SlicesCompact
namespace Go.Proofs.YtgpinecfmhenkaaDoor

theorem carr_get {l : List Int} {m : Nat} (h : m < l.length) : l.toArray[m]! = l[m] := by simp [h]
theorem cupTo_ok {l : List Int} (hs : l.Pairwise fun a b => a ≤ b) : ∀ m, m ≤ l.length → (Lib.compactUpTo l.toArray m).Pairwise (fun a b => a < b) ∧ ∀ x, x ∈ Lib.compactUpTo l.toArray m ↔ x ∈ l.take m
  | 0, _ => by simp [Lib.compactUpTo]
  | m + 1, h => by
    obtain ⟨h1, h2⟩ := cupTo_ok hs m (by omega)
    have hm : m < l.length := by omega
    have hle : ∀ x ∈ l.take m, x ≤ l[m] := fun x hx => by
      obtain ⟨k, hk, rfl⟩ := List.getElem_of_mem hx
      rw [List.length_take] at hk
      rw [List.getElem_take]
      exact List.pairwise_iff_getElem.1 hs k m (by omega) hm (by omega)
    have htk : l.take (m + 1) = l.take m ++ [l[m]] := by rw [List.take_add_one, List.getElem?_eq_getElem hm]; rfl
    rw [Lib.compactUpTo_succ, carr_get hm, htk]
    by_cases hk : Lib.keeps l.toArray m = true
    · rw [if_pos hk]
      refine ⟨List.pairwise_append.2 ⟨h1, by simp, fun x hx y hy => ?_⟩, fun x => by rw [List.mem_append, List.mem_append, h2 x]⟩
      rw [List.mem_singleton.1 hy]
      have hx' := (h2 x).1 hx
      have h3 := hle x hx'
      have h4 : x ≠ l[m] := by
        intro e
        have hm0 : m ≠ 0 := by rintro rfl; simp at hx'
        have hk' : l.toArray[m]! ≠ l.toArray[m - 1]! := by
          unfold Lib.keeps at hk
          simp only [decide_eq_true_eq] at hk
          exact hk.resolve_left hm0
        rw [carr_get hm, carr_get (show m - 1 < l.length by omega)] at hk'
        obtain ⟨k, hkk, he⟩ := List.getElem_of_mem hx'
        rw [List.length_take] at hkk
        rw [List.getElem_take] at he
        have h5 : l[k] ≤ l[m - 1] := by
          by_cases hkm : k = m - 1
          · subst hkm; exact Int.le_refl _
          · exact List.pairwise_iff_getElem.1 hs k (m - 1) (by omega) (by omega) (by omega)
        have h6 : l[m - 1] ≤ l[m] := List.pairwise_iff_getElem.1 hs (m - 1) m (by omega) hm (by omega)
        apply hk'
        omega
      omega
    · rw [if_neg hk, List.append_nil]
      refine ⟨h1, fun x => ?_⟩
      rw [h2 x, List.mem_append, List.mem_singleton]
      refine ⟨.inl, fun h3 => h3.elim id (fun e => ?_)⟩
      have hk2 : ¬ (m = 0 ∨ l.toArray[m]! ≠ l.toArray[m - 1]!) := by
        unfold Lib.keeps at hk
        simpa only [decide_eq_true_eq] using hk
      have hm0 : m ≠ 0 := fun e => hk2 (.inl e)
      have he : l.toArray[m]! = l.toArray[m - 1]! := Classical.byContradiction fun h => hk2 (.inr h)
      rw [carr_get hm, carr_get (show m - 1 < l.length by omega)] at he
      rw [e, he]
      exact List.mem_take_iff_getElem.2 ⟨m - 1, by omega, rfl⟩
/-- Rising, each once. -/
def rsL (l : List Int) : List Int := Lib.compact (l.mergeSort fun x y => decide (x ≤ y))
theorem rsL_ok (l : List Int) : (rsL l).Pairwise (fun x y => x < y) ∧ ∀ x, x ∈ rsL l ↔ x ∈ l := by
  have hs : (l.mergeSort fun x y => decide (x ≤ y)).Pairwise fun x y => x ≤ y := by
    have := List.pairwise_mergeSort (le := fun x y : Int => decide (x ≤ y)) (by intro x y z h1 h2; simp at *; omega) (by intro x y; simp; omega) l
    exact this.imp (fun h => by simpa using h)
  obtain ⟨h1, h2⟩ := cupTo_ok hs _ (Nat.le_refl _)
  refine ⟨h1, fun x => ?_⟩
  show x ∈ Lib.compactUpTo _ _ ↔ _
  rw [h2 x, List.take_length, List.mem_mergeSort]
/-- Lists that rise and have the same numbers are one. -/
theorem crise_ext : ∀ {l m : List Int}, l.Pairwise (fun a b => a < b) → m.Pairwise (fun a b => a < b) → (∀ x, x ∈ l ↔ x ∈ m) → l = m
  | [], [], _, _, _ => rfl
  | [], b :: m, _, _, h => absurd ((h b).2 (by simp)) (by simp)
  | a :: l, [], _, _, h => absurd ((h a).1 (by simp)) (by simp)
  | a :: l, b :: m, hl, hm, h => by
    rw [List.pairwise_cons] at hl hm
    have h1 : a = b := by
      rcases List.mem_cons.1 ((h a).1 (by simp)) with h2 | h2
      · exact h2
      · rcases List.mem_cons.1 ((h b).2 (by simp)) with h3 | h3
        · exact h3.symm
        · have := hl.1 b h3; have := hm.1 a h2; omega
    subst h1
    rw [crise_ext hl.2 hm.2 (fun x => ?_)]
    constructor
    · intro hx
      rcases List.mem_cons.1 ((h x).1 (by simp [hx])) with h2 | h2
      · have := hl.1 x hx; omega
      · exact h2
    · intro hx
      rcases List.mem_cons.1 ((h x).2 (by simp [hx])) with h2 | h2
      · have := hm.1 x hx; omega
      · exact h2
theorem rsL_same {l m : List Int} (h : ∀ x, x ∈ l ↔ x ∈ m) : rsL l = rsL m :=
  crise_ext (rsL_ok l).1 (rsL_ok m).1 (fun x => by rw [(rsL_ok l).2, (rsL_ok m).2, h])
theorem rsL_of {l : List Int} (h : l.Pairwise fun x y => x < y) : rsL l = l := crise_ext (rsL_ok l).1 h (rsL_ok l).2
theorem rsL_nil : rsL [] = [] := rsL_of (by simp)
theorem rsL_len (l : List Int) : (rsL l).length ≤ l.length := by
  unfold rsL Lib.compact Lib.compactUpTo
  rw [List.length_map]
  exact Nat.le_trans (List.length_filter_le _ _) (by simp)
theorem rsL_ne {l : List Int} (h : l ≠ []) : rsL l ≠ [] := fun e => by
  obtain ⟨x, hx⟩ := List.exists_mem_of_ne_nil l h
  have := ((rsL_ok l).2 x).2 hx
  rw [e] at this
  cases this
/-- Who claims an id. -/
def gat (rs : List Rc) (id : Int) : List Int := (rs.filter fun r => decide (r.claim = id) && !decide (r.claim = 0)).map Rc.origin
theorem gat_nil (id : Int) : gat [] id = [] := rfl
theorem gat_snoc (rs : List Rc) (r : Rc) (id : Int) : gat (rs ++ [r]) id = gat rs id ++ (if r.claim = id ∧ r.claim ≠ 0 then [r.origin] else []) := by
  unfold gat
  rw [List.filter_append, List.map_append]
  congr 1
  by_cases h : r.claim = id ∧ r.claim ≠ 0
  · rw [if_pos h]
    simp [h.1, h.1 ▸ h.2]
  · rw [if_neg h]
    have : (decide (r.claim = id) && !decide (r.claim = 0)) = false := by
      cases h1 : decide (r.claim = id)
      · rfl
      · cases h2 : decide (r.claim = 0)
        · exact absurd ⟨of_decide_eq_true h1, of_decide_eq_false h2⟩ h
        · rfl
    rw [List.filter_cons, this]
    rfl
theorem mem_gat {rs : List Rc} {id x : Int} : x ∈ gat rs id ↔ ∃ r ∈ rs, r.claim = id ∧ r.claim ≠ 0 ∧ r.origin = x := by
  unfold gat
  simp only [List.mem_map, List.mem_filter, Bool.and_eq_true, Bool.not_eq_true', decide_eq_true_eq, decide_eq_false_iff_not]
  constructor
  · rintro ⟨r, ⟨h1, h2, h3⟩, h4⟩
    exact ⟨r, h1, h2, h3, h4⟩
  · rintro ⟨r, h1, h2, h3, h4⟩
    exact ⟨r, ⟨h1, h2, h3⟩, h4⟩
theorem gat_len (rs : List Rc) (id : Int) : (gat rs id).length ≤ rs.length := by
  unfold gat
  rw [List.length_map]
  exact List.length_filter_le _ _
/-- All ids. -/
def allI : List Int := (List.range 1024).map fun (i : Nat) => (i : Int) + 1
theorem mem_allI {x : Int} : x ∈ allI ↔ 1 ≤ x ∧ x ≤ 1024 := by
  unfold allI
  simp only [List.mem_map, List.mem_range]
  constructor
  · rintro ⟨a, h1, h2⟩
    omega
  · intro h
    exact ⟨x.toNat - 1, by omega, by omega⟩
theorem allI_rise : allI.Pairwise fun x y => x < y := by
  unfold allI
  rw [List.pairwise_map]
  exact List.pairwise_lt_range.imp fun h => by omega
def idsL (rs : List Rc) : List Int := allI.filter fun id => !(gat rs id).isEmpty
theorem mem_idsL {rs : List Rc} {x : Int} : x ∈ idsL rs ↔ (1 ≤ x ∧ x ≤ 1024) ∧ gat rs x ≠ [] := by
  unfold idsL
  rw [List.mem_filter, mem_allI]
  simp
theorem idsL_rise (rs : List Rc) : (idsL rs).Pairwise fun x y => x < y := allI_rise.sublist List.filter_sublist
/-- The claims of records. -/
def allC (rs : List Rc) : List (Int × List Int) := (idsL rs).map fun id => (id, rsL (gat rs id))
/-- The records are of routers, no two of one. -/
theorem bothOk_all : ∀ (f : Nat → Bool) (rs : List Rc), bothOk f rs = true → (∀ r ∈ rs, recOk r = true ∧ f r.origin.toNat = false) ∧ (rs.map Rc.origin).Nodup
  | _, [], _ => ⟨fun _ h => absurd h List.not_mem_nil, List.nodup_nil⟩
  | f, r :: rs, h => by
    rw [bothOk] at h
    simp only [Bool.and_eq_true, Bool.not_eq_true'] at h
    obtain ⟨h1, h2, h3⟩ := h
    obtain ⟨g1, g2⟩ := bothOk_all _ rs h3
    have hr := (recOk_parts h1).1
    have key : ∀ s ∈ rs, f s.origin.toNat = false ∧ s.origin ≠ r.origin := fun s hs => by
      have h4 := (g1 s hs).2
      unfold mk1 at h4
      by_cases e : s.origin.toNat = r.origin.toNat
      · simp [e] at h4
      · simp [e] at h4
        exact ⟨h4, fun e' => e (by rw [e'])⟩
    refine ⟨fun s hs => ?_, ?_⟩
    · rcases List.mem_cons.1 hs with rfl | hs
      · exact ⟨h1, h2⟩
      · exact ⟨(g1 s hs).1, (key s hs).1⟩
    · rw [List.map_cons, List.nodup_cons]
      refine ⟨fun hm => ?_, g2⟩
      obtain ⟨s, hs, e⟩ := List.mem_map.1 hm
      exact (key s hs).2 e
end Go.Proofs.YtgpinecfmhenkaaDoor
