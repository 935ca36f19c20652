/- The graph of records may be; its parts. -/
import Derived.Test.YtkhfpcnmnnboeaaGP
namespace Go.Proofs.Ytkhfpcnmnnboeaa

theorem nodesOk_of : ∀ (l : List Nat) (last : Int), l.Pairwise (· < ·) → (∀ x ∈ l, 1 ≤ x ∧ x ≤ 24 ∧ last < (x : Int)) → nodesOk last (l.map fun (i : Nat) => (i : Int)) = true
  | [], _, _, _ => rfl
  | x :: l, last, hp, hb => by
    have h1 := hb x (by simp)
    have h2 := List.pairwise_cons.1 hp
    simp only [List.map_cons, nodesOk, Bool.and_eq_true, decide_eq_true_eq, isR_iff]
    refine ⟨⟨by omega, by omega⟩, h1.2.2, nodesOk_of l x h2.2 fun y hy => ?_⟩
    have := hb y (by simp [hy])
    have := h2.1 y hy
    omega
theorem edgesOk_of {ns : List Int} : ∀ (es : List Ed) (last : Ed), es.Pairwise (fun a b => risesE a b = true) → (∀ e ∈ es, hasN ns e.1 = true ∧ hasN ns e.2.1 = true ∧ e.1 ≠ e.2.1 ∧ isC e.2.2 = true ∧ risesE last e = true) → edgesOk ns last es = true
  | [], _, _, _ => rfl
  | x :: es, last, hp, hb => by
    have h1 := hb x (by simp)
    have h2 := List.pairwise_cons.1 hp
    simp only [edgesOk, edgeOk, Bool.and_eq_true, Bool.not_eq_true', decide_eq_false_iff_not]
    refine ⟨⟨h1.1, h1.2.1, h1.2.2.1, h1.2.2.2.1, h1.2.2.2.2⟩, edgesOk_of es x h2.2 fun y hy => ?_⟩
    have h3 := hb y (by simp [hy])
    exact ⟨h3.1, h3.2.1, h3.2.2.1, h3.2.2.2.1, h2.1 y hy⟩
theorem risesE_iff {a b : Ed} : risesE a b = true ↔ a.1 < b.1 ∨ (a.1 = b.1 ∧ a.2.1 < b.2.1) := by simp [risesE]
theorem rowE_pairwise (c : Nat → Nat → Int) (a : Nat) : (rowE c a (List.range 25)).Pairwise fun x y => risesE x y = true := by
  unfold rowE
  rw [List.pairwise_map]
  refine (List.pairwise_lt_range.filter _).imp fun {x y} h => ?_
  rw [risesE_iff]
  right
  simp
  omega
theorem laidE_pairwise (c : Nat → Nat → Int) : (laidE c).Pairwise fun x y => risesE x y = true := by
  unfold laidE
  rw [List.pairwise_flatMap]
  refine ⟨fun a _ => rowE_pairwise c a, List.pairwise_lt_range.imp fun {a b} h x hx y hy => ?_⟩
  rw [risesE_iff]
  left
  unfold rowE at hx hy
  obtain ⟨p, _, rfl⟩ := List.mem_map.1 hx
  obtain ⟨q, _, rfl⟩ := List.mem_map.1 hy
  simp
  omega
theorem count_tos : ∀ (l : List (Int × Int)) (p : List Nat), p.Nodup → (p.filter fun b => l.any fun x => decide (x.1.toNat = b)).length ≤ l.length
  | [], p, _ => by simp
  | x :: l, p, hp => by
    have h1 := count_tos l p hp
    have h2 : (p.filter fun b => (x :: l).any fun x => decide (x.1.toNat = b)).length ≤ (p.filter fun b => decide (x.1.toNat = b)).length + (p.filter fun b => l.any fun x => decide (x.1.toNat = b)).length := by
      clear h1 hp
      induction p with
      | nil => simp
      | cons b p ih =>
        simp only [List.filter_cons, List.any_cons]
        cases h3 : decide (x.1.toNat = b) <;> cases h4 : (l.any fun x => decide (x.1.toNat = b)) <;> simp at ih ⊢ <;> omega
    have h3 : (p.filter fun b => decide (x.1.toNat = b)).length ≤ 1 := by
      clear h1 h2
      induction p with
      | nil => simp
      | cons b p ih =>
        have hn := List.nodup_cons.1 hp
        by_cases hb : x.1.toNat = b
        · have : (p.filter fun b => decide (x.1.toNat = b)) = [] := by
            rw [List.filter_eq_nil_iff]
            intro y hy h
            simp at h
            exact hn.1 (by rw [← hb, h]; exact hy)
          simp [hb]
          rw [hb] at this
          simpa using this
        · simp [hb]
          exact ih hn.2
    simp only [List.length_cons]
    omega
theorem filter_len {α : Type} {p q : α → Bool} : ∀ (l : List α), (∀ x ∈ l, p x = true → q x = true) → (l.filter p).length ≤ (l.filter q).length
  | [], _ => by simp
  | x :: l, h => by
    have h1 := filter_len l fun y hy => h y (by simp [hy])
    have h2 := h x (by simp)
    simp only [List.filter_cons]
    cases hp : p x
    · cases hq : q x <;> simp <;> omega
    · rw [h2 hp]
      simp
      omega
theorem Unl.one : ∀ {rs : List Rc}, Unl rs → ∀ {a b : Rc}, a ∈ rs → b ∈ rs → a.origin.toNat = b.origin.toNat → a = b
  | [], _, _, _, h, _, _ => by simp at h
  | r :: rs, hu, a, b, ha, hb, e => by
    have hp := List.pairwise_cons.1 hu.2
    rcases List.mem_cons.1 ha with h1 | h1
    · rcases List.mem_cons.1 hb with h2 | h2
      · rw [h1, h2]
      · rw [h1] at e; exact absurd e (hp.1 b h2)
    · rcases List.mem_cons.1 hb with h2 | h2
      · rw [h2] at e; exact absurd e.symm (hp.1 a h1)
      · exact Unl.one (rs := rs) ⟨fun x hx => hu.1 x (by simp [hx]), hp.2⟩ h1 h2 e
theorem rowE_len16 {rs : List Rc} {c : Nat → Nat → Int} (hu : Unl rs) (hc : IsCost rs c) (a : Nat) : (rowE c a (List.range 25)).length ≤ 16 ∧ (a = 0 → rowE c a (List.range 25) = []) := by
  refine ⟨?_, fun h0 => ?_⟩
  · by_cases h : ∃ r ∈ rs, r.origin.toNat = a
    · obtain ⟨r, hr, rfl⟩ := h
      have h1 := (recOk_parts (hu.1 r hr)).2.1
      have h2 := count_tos r.adjs (List.range 25) List.nodup_range
      have h3 : (rowE c r.origin.toNat (List.range 25)).length ≤ ((List.range 25).filter fun b => r.adjs.any fun x => decide (x.1.toNat = b)).length := by
        unfold rowE
        rw [List.length_map]
        refine filter_len _ fun b _ hb => ?_
        simp only [Bool.and_eq_true, decide_eq_true_eq] at hb
        obtain ⟨r', hr', x, hx, h4, h5⟩ := hc.from' r.origin.toNat b (by omega)
        have : r' = r := hu.one hr' hr h4
        rw [List.any_eq_true]
        exact ⟨x, by rw [← this]; exact hx, by simpa using h5⟩
      omega
    · have : rowE c a (List.range 25) = [] := by
        unfold rowE
        rw [List.map_eq_nil_iff, List.filter_eq_nil_iff]
        intro b _ hb
        simp only [Bool.and_eq_true, decide_eq_true_eq] at hb
        obtain ⟨r, hr, _, _, h1, _⟩ := hc.from' a b (by omega)
        exact h ⟨r, hr, h1⟩
      rw [this]; simp
  · subst h0
    unfold rowE
    rw [List.map_eq_nil_iff, List.filter_eq_nil_iff]
    intro b _ hb
    simp only [Bool.and_eq_true, decide_eq_true_eq] at hb
    rcases isCost_pos hc hu 0 b with h | h <;> omega
theorem sum16 (c : Nat → Nat → Int) (h0 : rowE c 0 (List.range 25) = []) (h : ∀ a, (rowE c a (List.range 25)).length ≤ 16) : ∀ a, ((List.range (a + 1)).flatMap fun a => rowE c a (List.range 25)).length ≤ 16 * a
  | 0 => by simp [h0]
  | a + 1 => by
    have h1 := sum16 c h0 h a
    have h2 := h (a + 1)
    rw [show List.range (a + 1 + 1) = List.range (a + 1) ++ [a + 1] from List.range_succ, List.flatMap_append, List.length_append]
    simp only [List.flatMap_cons, List.flatMap_nil, List.append_nil]
    omega
/-- What Both answers may be. -/
theorem both_may {rs : List Rc} (hu : Unl rs) : graphOk (bothN rs) (bothE rs) = true := by
  have hc := isCost_of hu
  simp only [graphOk, Bool.and_eq_true, decide_eq_true_eq]
  refine ⟨?_, ?_, ?_⟩
  · refine nodesOk_of _ 0 (List.pairwise_lt_range.filter _) fun x hx => ?_
    obtain ⟨_, h2⟩ := List.mem_filter.1 hx
    rcases (thereL_iff rs no1 x).1 h2 with h | ⟨r, hr, rfl⟩
    · simp [no1] at h
    · have := (recOk_parts (hu.1 r hr)).1
      omega
  · exact sum16 _ ((rowE_len16 hu hc 0).2 rfl) (fun a => (rowE_len16 hu hc a).1) 24
  · refine edgesOk_of _ _ (laidE_pairwise _) fun e he => ?_
    obtain ⟨a, b, ha, hb, h1, h2, rfl⟩ := mem_laidE.1 he
    have k1 := isCost_pos hc hu a b
    have k2 := isCost_pos hc hu b a
    have k3 : 1 ≤ costL no2 rs a b ∧ costL no2 rs a b ≤ 1000 ∧ 1 ≤ a ∧ a ≤ 24 ∧ 1 ≤ b ∧ b ≤ 24 ∧ a ≠ b ∧ thereL no1 rs a = true := by
      rcases k1 with h | h
      · omega
      · exact h
    have k4 : thereL no1 rs b = true := by
      rcases k2 with h | h
      · omega
      · exact h.2.2.2.2.2.2.2
    refine ⟨hasN_iff.2 (mem_markedL.2 ⟨a, ha, k3.2.2.2.2.2.2.2, rfl⟩), hasN_iff.2 (mem_markedL.2 ⟨b, hb, k4, rfl⟩), by simp; omega, isC_iff.2 ⟨k3.1, k3.2.1⟩, risesE_iff.2 (.inl ?_)⟩
    simp
    omega
def cnt (f : Nat → Bool) : Nat := ((List.range 25).filter f).length
theorem cnt_unm (f : Nat → Bool) : cnt f + unm f = 25 := by
  unfold cnt unm
  have : ∀ l : List Nat, (l.filter f).length + (l.filter fun i => !f i).length = l.length := by
    intro l
    induction l with
    | nil => rfl
    | cons x l ih =>
      simp only [List.filter_cons]
      cases f x <;> simp <;> omega
  simpa using this (List.range 25)
theorem cnt_there : ∀ (rs : List Rc) (f : Nat → Bool), Unl rs → (∀ r ∈ rs, f r.origin.toNat = false) → cnt (thereL f rs) = cnt f + rs.length
  | [], _, _, _ => rfl
  | r :: rs, f, hu, hf => by
    have hp := List.pairwise_cons.1 hu.2
    have h1 := hf r (by simp)
    have h2 := (recOk_parts (hu.1 r (by simp))).1
    have h3 := cnt_there rs (mk1 f r.origin.toNat) ⟨fun x hx => hu.1 x (by simp [hx]), hp.2⟩ fun x hx => by
      cases h4 : mk1 f r.origin.toNat x.origin.toNat with
      | false => rfl
      | true =>
        rcases mk1_iff.1 h4 with h | h
        · exact absurd h.symm (hp.1 x hx)
        · rw [hf x (by simp [hx])] at h; cases h
    have h5 := unm_mk1 h1 (show r.origin.toNat < 25 by omega)
    have h6 := cnt_unm f
    have h7 := cnt_unm (mk1 f r.origin.toNat)
    show cnt (thereL (mk1 f r.origin.toNat) rs) = _
    rw [h3, List.length_cons]
    omega
theorem bothN_len {rs : List Rc} (hu : Unl rs) : (bothN rs).length = rs.length := by
  have h := cnt_there rs no1 hu fun _ _ => rfl
  have h0 : cnt no1 = 0 := rfl
  unfold bothN markedL
  rw [List.length_map]
  unfold cnt at h h0
  omega
/-- Has a graph an edge? -/
def hasE (es : List Ed) (a b : Int) : Bool := es.any fun e => decide (e.1 = a) && decide (e.2.1 = b)
theorem hasE_iff {es : List Ed} {a b : Int} : hasE es a b = true ↔ ∃ e ∈ es, e.1 = a ∧ e.2.1 = b := by
  unfold hasE
  rw [List.any_eq_true]
  constructor
  · rintro ⟨e, he, h⟩
    simp at h
    exact ⟨e, he, h⟩
  · rintro ⟨e, he, h⟩
    exact ⟨e, he, by simp [h]⟩
theorem both_back {rs : List Rc} {e : Ed} (h : e ∈ bothE rs) : hasE (bothE rs) e.2.1 e.1 = true := hasE_iff.2 (laidE_sym h)
/-- A part is that of each of its nodes. -/
theorem part_one {es : List Ed} (hs : ∀ e ∈ es, ∃ e' ∈ es, e'.1 = e.2.1 ∧ e'.2.1 = e.1) {x y : Int} {f g : Nat → Bool} (hf : IsPart es x f) (hy : y ∈ markedL f) (hg : IsPart es y g) : markedL g = markedL f := by
  obtain ⟨i, hi, hfi, rfl⟩ := mem_markedL.1 hy
  have h1 := hf.sound i hfi
  have h2 := h1.symm hs
  refine markedL_congr fun j hj => ?_
  have h3 : g j = true ↔ f j = true := ⟨fun h => hf.full j hj (h1.trans (hg.sound j h)), fun h => hg.full j hj (h2.trans (hf.sound j h))⟩
  cases h4 : g j <;> cases h5 : f j <;> simp [h4, h5] at h3 <;> rfl
theorem part_self {es : List Ed} {x : Int} {f : Nat → Bool} (hb : 1 ≤ x ∧ x ≤ 24) (hf : IsPart es x f) : x ∈ markedL f := by
  refine mem_markedL.2 ⟨x.toNat, by omega, hf.full _ (by omega) ?_, by omega⟩
  rw [Int.toNat_of_nonneg (by omega)]
  exact Rch.refl _ _
theorem part_mem {es : List Ed} {ns : List Int} {x y : Int} {f : Nat → Bool} (hx : x ∈ ns) (he : ∀ e ∈ es, e.1 ∈ ns ∧ e.2.1 ∈ ns) (hf : IsPart es x f) (hy : y ∈ markedL f) : y ∈ ns := by
  obtain ⟨i, hi, hfi, rfl⟩ := mem_markedL.1 hy
  exact (hf.sound i hfi).mem hx he
theorem markedL_len (f : Nat → Bool) : (markedL f).length ≤ 25 := by
  unfold markedL
  rw [List.length_map]
  have := List.length_filter_le f (List.range 25)
  simpa using this
end Go.Proofs.Ytkhfpcnmnnboeaa
