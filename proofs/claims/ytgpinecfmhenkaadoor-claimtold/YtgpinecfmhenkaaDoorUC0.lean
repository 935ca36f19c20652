/- The law's records, as lists: no order changes their claims. -/
import Derived.Test.YtgpinecfmhenkaaDoorUB
namespace Go.Proofs.YtgpinecfmhenkaaDoor

theorem allC_same {rs rs' : List Rc} (h : ∀ id x, x ∈ gat rs id ↔ x ∈ gat rs' id) : allC rs = allC rs' := by
  have hn : ∀ id, gat rs id ≠ [] ↔ gat rs' id ≠ [] := fun id => by
    constructor
    · intro hne e
      obtain ⟨x, hx⟩ := List.exists_mem_of_ne_nil _ hne
      have := (h id x).1 hx
      rw [e] at this
      cases this
    · intro hne e
      obtain ⟨x, hx⟩ := List.exists_mem_of_ne_nil _ hne
      have := (h id x).2 hx
      rw [e] at this
      cases this
  have hi : idsL rs = idsL rs' := crise_ext (idsL_rise _) (idsL_rise _) (fun x => by rw [mem_idsL, mem_idsL, hn])
  unfold allC
  rw [hi]
  exact List.map_congr_left fun id _ => by rw [rsL_same (h id)]
/-- The record of a router. -/
abbrev rcK (ids : List Int) (k : Nat) : Rc := smR ((k : Int) + 1) (ids.getD k 0 % 12)
theorem mem_recsL {ids : List Int} {t : Bool} {r : Rc} : r ∈ recsL ids t ↔ ∃ k, k < min ids.length 24 ∧ r = rcK ids k := by
  unfold recsL
  simp only [List.mem_map, List.mem_range]
  constructor
  · rintro ⟨i, hi, rfl⟩
    cases t
    · exact ⟨i, hi, rfl⟩
    · exact ⟨min ids.length 24 - 1 - i, by omega, rfl⟩
  · rintro ⟨k, hk, rfl⟩
    cases t
    · exact ⟨k, hk, rfl⟩
    · refine ⟨min ids.length 24 - 1 - k, by omega, ?_⟩
      unfold rcO
      simp only [if_true]
      rw [show min ids.length 24 - 1 - (min ids.length 24 - 1 - k) = k by omega]
theorem recsL_turn (ids : List Int) : allC (recsL ids true) = allC (recsL ids false) := allC_same fun id x => by
  rw [mem_gat, mem_gat]
  simp only [mem_recsL]
theorem recsL_len (ids : List Int) (t : Bool) : (recsL ids t).length = min ids.length 24 := by unfold recsL; simp
theorem rcK_ok {ids : List Int} {k : Nat} (hk : k < 24) : recOk (rcK ids k) = true := by
  have h0 : 0 ≤ ids.getD k 0 % 12 := Int.emod_nonneg _ (by omega)
  have h1 : ids.getD k 0 % 12 < 12 := Int.emod_lt_of_pos _ (by omega)
  simp only [recOk, isR_iff, Bool.and_eq_true, decide_eq_true_eq]
  refine ⟨⟨by omega, by omega⟩, by omega, by omega, by omega, by omega, by simp, by simp [adjsOk]⟩
theorem recsL_ok (ids : List Int) (t : Bool) : bothOk no1 (recsL ids t) = true := by
  refine both_unl.2 ⟨fun r hr => ?_, ?_⟩
  · obtain ⟨k, hk, rfl⟩ := mem_recsL.1 hr
    exact rcK_ok (by omega)
  · unfold recsL
    rw [List.pairwise_map]
    refine List.pairwise_lt_range.imp_of_mem fun {a b} ha hb' h => ?_
    rw [List.mem_range] at ha hb'
    unfold rcO
    cases t
    · simp only [Bool.false_eq_true, if_false]; omega
    · simp only [if_true]; omega
theorem recsM_ok {ids : List Int} (hl : ids.length ≤ 23) : bothOk no1 (recsL ids false ++ [smR 24 0]) = true := by
  have h := both_unl.1 (recsL_ok ids false)
  refine both_unl.2 ⟨fun r hr => ?_, ?_⟩
  · rcases List.mem_append.1 hr with hr | hr
    · exact h.1 r hr
    · rw [List.mem_singleton.1 hr]
      decide
  · refine List.pairwise_append.2 ⟨h.2, by simp, fun a ha b hb' => ?_⟩
    obtain ⟨k, hk, rfl⟩ := mem_recsL.1 ha
    rw [List.mem_singleton.1 hb']
    show ((k : Int) + 1).toNat ≠ (24 : Int).toNat
    omega
theorem recsM_allC (ids : List Int) : allC (recsL ids false ++ [smR 24 0]) = allC (recsL ids false) := by
  unfold allC idsL
  rw [gat_none _ _ rfl]
theorem allC_rise {rs : List Rc} {k : Nat} {p q : Int × List Int} (hp : (allC rs)[k]? = some p) (hq : (allC rs)[k + 1]? = some q) : p.1 < q.1 := by
  unfold allC at hp hq
  rw [List.getElem?_map] at hp hq
  obtain ⟨x, hx, rfl⟩ := Option.map_eq_some_iff.1 hp
  obtain ⟨y, hy, rfl⟩ := Option.map_eq_some_iff.1 hq
  obtain ⟨h1, h1'⟩ := List.getElem?_eq_some_iff.1 hx
  obtain ⟨h2, h2'⟩ := List.getElem?_eq_some_iff.1 hy
  have := List.pairwise_iff_getElem.1 (idsL_rise rs) k (k + 1) h1 h2 (by omega)
  rw [h1', h2'] at this
  exact this
theorem allC_len (rs : List Rc) : (allC rs).length ≤ 1024 := by
  unfold allC
  rw [List.length_map]
  exact Nat.le_trans (List.length_filter_le _ _) (by simp [allI])
theorem allC_rows {rs : List Rc} {p : Int × List Int} (h : p ∈ allC rs) : p.2.length ≤ rs.length ∧ (1 ≤ p.1 ∧ p.1 ≤ 1024) ∧ p.2 = rsL (gat rs p.1) ∧ p.2 ≠ [] := by
  unfold allC at h
  obtain ⟨id, hid, rfl⟩ := List.mem_map.1 h
  obtain ⟨h1, h2⟩ := mem_idsL.1 hid
  exact ⟨Nat.le_trans (rsL_len _) (gat_len _ _), h1, rfl, rsL_ne h2⟩
end Go.Proofs.YtgpinecfmhenkaaDoor
