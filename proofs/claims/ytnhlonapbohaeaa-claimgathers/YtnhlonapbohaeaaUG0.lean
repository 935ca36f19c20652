/- The document's SameClaim, Same; how it gathers claims, as lists. -/
import Derived.Test.YtnhlonapbohaeaaUC
namespace Go.Proofs.Ytnhlonapbohaeaa
open Go.RowKit

/-- What the document has of an id behind the routers 1 .. m. -/
def docR (rs : List Rc) (id : Int) (m : Nat) : List Int := (List.range m).flatMap fun (k : Nat) => (rs.filter fun r => decide (r.origin = (k : Int) + 1) && decide (r.claim = id)).map fun _ => (k : Int) + 1
theorem docR_succ (rs : List Rc) (id : Int) (m : Nat) : docR rs id (m + 1) = docR rs id m ++ (rs.filter fun r => decide (r.origin = (m : Int) + 1) && decide (r.claim = id)).map fun _ => (m : Int) + 1 := by
  unfold docR
  rw [List.range_succ, List.flatMap_append]
  simp
theorem mem_docR {rs : List Rc} {id x : Int} {m : Nat} : x ∈ docR rs id m ↔ (1 ≤ x ∧ x ≤ (m : Int)) ∧ ∃ r ∈ rs, r.origin = x ∧ r.claim = id := by
  unfold docR
  simp only [List.mem_flatMap, List.mem_range, List.mem_map, List.mem_filter, Bool.and_eq_true, decide_eq_true_eq]
  constructor
  · rintro ⟨k, hk, r, ⟨h1, h2, h3⟩, h4⟩
    exact ⟨by omega, r, h1, by omega, h3⟩
  · rintro ⟨h1, r, h2, h3, h4⟩
    exact ⟨x.toNat - 1, by omega, r, ⟨h2, by omega, h4⟩, by omega⟩
theorem one_of {rs : List Rc} (h : (rs.map Rc.origin).Nodup) (o : Int) (q : Rc → Bool) : (rs.filter fun r => decide (r.origin = o) && q r).length ≤ 1 := by
  induction rs with
  | nil => simp
  | cons r rs ih =>
    rw [List.map_cons, List.nodup_cons] at h
    rw [List.filter_cons]
    split
    · rename_i hr
      simp only [Bool.and_eq_true, decide_eq_true_eq] at hr
      have : (rs.filter fun r => decide (r.origin = o) && q r) = [] := by
        rw [List.filter_eq_nil_iff]
        intro s hs hh
        simp only [Bool.and_eq_true, decide_eq_true_eq] at hh
        exact h.1 (List.mem_map.2 ⟨s, hs, by rw [hh.1, hr.1]⟩)
      rw [this]
      simp
    · exact ih h.2
theorem docR_rise {rs : List Rc} (h : (rs.map Rc.origin).Nodup) (id : Int) : ∀ m, (docR rs id m).Pairwise fun x y => x < y
  | 0 => by simp [docR]
  | m + 1 => by
    rw [docR_succ]
    refine List.pairwise_append.2 ⟨docR_rise h id m, ?_, fun x hx y hy => ?_⟩
    · have h1 := one_of h ((m : Int) + 1) (fun r => decide (r.claim = id))
      rw [List.pairwise_iff_getElem]
      intro i j hi hj hij
      rw [List.length_map] at hi hj
      omega
    · obtain ⟨r, _, rfl⟩ := List.mem_map.1 hy
      have := (mem_docR.1 hx).1
      omega
theorem docR_all {rs : List Rc} (h : bothOk no1 rs = true) {id : Int} (hid : 1 ≤ id) : docR rs id 24 = rsL (gat rs id) := by
  obtain ⟨h1, h2⟩ := bothOk_all _ _ h
  refine crise_ext (docR_rise h2 id 24) (rsL_ok _).1 (fun x => ?_)
  rw [mem_docR, (rsL_ok _).2, mem_gat]
  constructor
  · rintro ⟨_, r, hr, ho, hc⟩
    exact ⟨r, hr, hc, by omega, ho⟩
  · rintro ⟨r, hr, hc, _, ho⟩
    have := (recOk_parts (h1 r hr).1).1
    exact ⟨by rw [← ho]; exact this, r, hr, ho, hc⟩
/-- The document's claims of the ids 1 .. k. -/
def docA (rs : List Rc) (k : Nat) : List (Int × List Int) := ((List.range k).filter fun (i : Nat) => !(docR rs ((i : Int) + 1) 24).isEmpty).map fun (i : Nat) => ((i : Int) + 1, docR rs ((i : Int) + 1) 24)
theorem docA_succ (rs : List Rc) (k : Nat) : docA rs (k + 1) = docA rs k ++ (if (docR rs ((k : Int) + 1) 24).isEmpty then [] else [((k : Int) + 1, docR rs ((k : Int) + 1) 24)]) := by
  unfold docA
  rw [List.range_succ, List.filter_append, List.map_append]
  congr 1
  cases hh : (docR rs ((k : Int) + 1) 24).isEmpty <;> simp [hh]
theorem docA_all {rs : List Rc} (h : bothOk no1 rs = true) : docA rs 1024 = allC rs := by
  unfold docA allC idsL allI
  rw [List.filter_map, List.map_map]
  have e : ∀ i : Nat, docR rs ((i : Int) + 1) 24 = rsL (gat rs ((i : Int) + 1)) := fun i => docR_all h (by omega)
  have e2 : ((List.range 1024).filter fun (i : Nat) => !(docR rs ((i : Int) + 1) 24).isEmpty) = (List.range 1024).filter ((fun id => !(gat rs id).isEmpty) ∘ fun (i : Nat) => (i : Int) + 1) := by
    refine List.filter_congr fun i _ => ?_
    rw [e i]
    show (!(rsL (gat rs ((i : Int) + 1))).isEmpty) = !(gat rs ((i : Int) + 1)).isEmpty
    by_cases hg : gat rs ((i : Int) + 1) = []
    · rw [hg, rsL_nil]
    · have h1 : (gat rs ((i : Int) + 1)).isEmpty = false := by simpa using hg
      have h2 : (rsL (gat rs ((i : Int) + 1))).isEmpty = false := by simpa using rsL_ne hg
      rw [h1, h2]
  rw [e2]
  exact List.map_congr_left fun i _ => by rw [e i]; rfl
end Go.Proofs.Ytnhlonapbohaeaa
