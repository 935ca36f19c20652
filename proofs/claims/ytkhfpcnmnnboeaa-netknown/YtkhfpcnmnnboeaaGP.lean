/- Who is met, as lists. -/
import Derived.Test.YtkhfpcnmnnboeaaG1
namespace Go.Proofs.Ytkhfpcnmnnboeaa

/-- How many are not marked. -/
def unm (f : Nat → Bool) : Nat := ((List.range 25).filter fun i => !f i).length
theorem filter_one : ∀ (l : List Nat) (f : Nat → Bool) (i : Nat), l.Nodup → i ∈ l → f i = false → (l.filter fun k => !mk1 f i k).length + 1 = (l.filter fun k => !f k).length
  | [], _, _, _, h, _ => by simp at h
  | k :: l, f, i, hn, hi, hf => by
    have hn' := List.nodup_cons.1 hn
    by_cases hk : k = i
    · subst hk
      have h1 : (l.filter fun j => !mk1 f k j) = l.filter fun j => !f j := List.filter_congr fun j hj => by
        have : j ≠ k := fun e => hn'.1 (e ▸ hj)
        simp [mk1, this]
      rw [List.filter_cons, List.filter_cons, mk1_same, hf, h1]
      simp
    · have h2 : i ∈ l := by
        rcases List.mem_cons.1 hi with h | h
        · exact absurd h.symm hk
        · exact h
      have h3 := filter_one l f i hn'.2 h2 hf
      have h4 : mk1 f i k = f k := by simp [mk1, hk]
      rw [List.filter_cons, List.filter_cons, h4]
      cases f k <;> simp <;> omega
theorem unm_mk1 {f : Nat → Bool} {i : Nat} (h : f i = false) (hi : i < 25) : unm (mk1 f i) + 1 = unm f := filter_one _ f i List.nodup_range (by simpa using hi) h
theorem unm_le (f : Nat → Bool) : unm f ≤ 25 := by unfold unm; have := List.length_filter_le (fun i => !f i) (List.range 25); simpa using this
/-- Who waits and who is marked. -/
structure PInv (ns : List Int) (es : List Ed) (n : Int) (f : Nat → Bool) (q : List Int) : Prop where
  qa : ∀ z ∈ q, z ∈ ns ∧ f z.toNat = true
  so : ∀ i, f i = true → Rch es n (i : Int)
  cl : ∀ e ∈ es, f e.1.toNat = true → e.1 ∉ q → f e.2.1.toNat = true
  nn : f n.toNat = true
/-- While the neighbours of x are gone through. -/
structure PMid (ns : List Int) (es : List Ed) (n x : Int) (f : Nat → Bool) (q : List Int) (j : Nat) : Prop where
  qa : ∀ z ∈ q, z ∈ ns ∧ f z.toNat = true
  so : ∀ i, f i = true → Rch es n (i : Int)
  cl : ∀ e ∈ es, f e.1.toNat = true → e.1 ∉ q → e.1 ≠ x → f e.2.1.toNat = true
  dn : ∀ y ∈ (nearL es x).take j, f y.1.toNat = true
  nn : f n.toNat = true
  rx : Rch es n x
theorem PInv.start {ns : List Int} {es : List Ed} {n x : Int} {f : Nat → Bool} {q : List Int} (hb : ∀ z ∈ ns, 1 ≤ z ∧ z ≤ 24) (h : PInv ns es n f (x :: q)) : PMid ns es n x f q 0 := by
  have hx := h.qa x (by simp)
  have h1 := hb x hx.1
  refine ⟨fun z hz => h.qa z (by simp [hz]), h.so, fun e he h1 h2 h3 => h.cl e he h1 (by simp [h2, h3]), by simp, h.nn, ?_⟩
  have := h.so x.toNat hx.2
  rwa [Int.toNat_of_nonneg (by omega)] at this
theorem mem_nearL {es : List Ed} {x : Int} {y : Int × Int} (h : y ∈ nearL es x) : ∃ e ∈ es, e.1 = x ∧ e.2.1 = y.1 := by
  unfold nearL at h
  simp only [List.mem_map, List.mem_filter, decide_eq_true_eq] at h
  obtain ⟨e, ⟨h1, h2⟩, rfl⟩ := h
  exact ⟨e, h1, h2, rfl⟩
theorem nearL_mem {es : List Ed} {e : Ed} (h : e ∈ es) : (e.2.1, e.2.2) ∈ nearL es e.1 := by
  unfold nearL
  simp only [List.mem_map, List.mem_filter, decide_eq_true_eq]
  exact ⟨e, ⟨h, rfl⟩, rfl⟩
theorem take_snocP {α : Type} {l : List α} {k : Nat} {x : α} (h : l[k]? = some x) : l.take (k + 1) = l.take k ++ [x] := by rw [List.take_add_one, h]; rfl
theorem PMid.skip {ns : List Int} {es : List Ed} {n x : Int} {f : Nat → Bool} {q : List Int} {j : Nat} {y : Int × Int} (h : PMid ns es n x f q j) (hy : (nearL es x)[j]? = some y) (hf : f y.1.toNat = true) : PMid ns es n x f q (j + 1) := by
  refine ⟨h.qa, h.so, h.cl, fun z hz => ?_, h.nn, h.rx⟩
  rw [take_snocP hy] at hz
  rcases List.mem_append.1 hz with hz | hz
  · exact h.dn z hz
  · simp at hz; rw [hz]; exact hf
theorem PMid.push {ns : List Int} {es : List Ed} {n x : Int} {f : Nat → Bool} {q : List Int} {j : Nat} {y : Int × Int} (hb : ∀ z ∈ ns, 1 ≤ z ∧ z ≤ 24) (he : ∀ e ∈ es, e.1 ∈ ns ∧ e.2.1 ∈ ns) (h : PMid ns es n x f q j) (hy : (nearL es x)[j]? = some y) : PMid ns es n x (mk1 f y.1.toNat) (q ++ [y.1]) (j + 1) := by
  obtain ⟨e0, h0, h1, h2⟩ := mem_nearL (List.mem_of_getElem? hy)
  have h3 := he e0 h0
  have h4 := hb e0.2.1 h3.2
  refine ⟨fun z hz => ?_, fun i hi => ?_, fun e he' hf hq hx => ?_, fun z hz => ?_, mk1_iff.2 (.inr h.nn), h.rx⟩
  · rcases List.mem_append.1 hz with hz | hz
    · exact ⟨(h.qa z hz).1, mk1_iff.2 (.inr (h.qa z hz).2)⟩
    · simp at hz
      rw [hz]
      exact ⟨h2 ▸ h3.2, mk1_same _ _⟩
  · rcases mk1_iff.1 hi with rfl | hi
    · have h5 : Rch es n e0.2.1 := (show Rch es n e0.1 by rw [h1]; exact h.rx).step h0
      rw [← h2, Int.toNat_of_nonneg (by omega)]
      exact h5
    · exact h.so i hi
  · rw [List.mem_append, not_or] at hq
    have hne : e.1 ≠ y.1 := by simpa using hq.2
    have h6 := hb e.1 (he e he').1
    rcases mk1_iff.1 hf with h5 | h5
    · have h7 : e.1 = y.1 := by rw [← h2] at h5 ⊢; omega
      exact absurd h7 hne
    · exact mk1_iff.2 (.inr (h.cl e he' h5 hq.1 hx))
  · rw [take_snocP hy] at hz
    rcases List.mem_append.1 hz with hz | hz
    · exact mk1_iff.2 (.inr (h.dn z hz))
    · simp at hz; rw [hz]; exact mk1_same _ _
theorem PMid.stop {ns : List Int} {es : List Ed} {n x : Int} {f : Nat → Bool} {q : List Int} {j : Nat} (h : PMid ns es n x f q j) (hj : (nearL es x).length ≤ j) : PInv ns es n f q := by
  refine ⟨h.qa, h.so, fun e he hf hq => ?_, h.nn⟩
  by_cases hx : e.1 = x
  · have := h.dn (e.2.1, e.2.2) (by rw [List.take_of_length_le hj, ← hx]; exact nearL_mem he)
    exact this
  · exact h.cl e he hf hq hx
theorem PInv.part {ns : List Int} {es : List Ed} {n : Int} {f : Nat → Bool} (hn : n ∈ ns) (he : ∀ e ∈ es, e.1 ∈ ns ∧ e.2.1 ∈ ns) (h : PInv ns es n f []) : IsPart es n f :=
  isPart_of hn he h.so h.nn (fun e h1 h2 => h.cl e h1 h2 (by simp))
theorem pInv_one {ns : List Int} {es : List Ed} {n : Int} (hb : ∀ z ∈ ns, 1 ≤ z ∧ z ≤ 24) (he : ∀ e ∈ es, e.1 ∈ ns ∧ e.2.1 ∈ ns) (hn : n ∈ ns) : PInv ns es n (mk1 no1 n.toNat) [n] := by
  have h1 := hb n hn
  refine ⟨fun z hz => ?_, fun i hi => ?_, fun e h2 hf hq => ?_, mk1_same _ _⟩
  · simp at hz; rw [hz]; exact ⟨hn, mk1_same _ _⟩
  · rcases mk1_iff.1 hi with rfl | h
    · rw [Int.toNat_of_nonneg (by omega)]; exact Rch.refl _ _
    · simp [no1] at h
  · rcases mk1_iff.1 hf with h | h
    · have h3 := hb e.1 (he e h2).1
      have : e.1 = n := by omega
      exact absurd (by simp [this]) hq
    · simp [no1] at h
end Go.Proofs.Ytkhfpcnmnnboeaa
