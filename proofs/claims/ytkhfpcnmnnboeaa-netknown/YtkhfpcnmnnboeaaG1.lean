/- The graph of records, ad lists. -/
import Derived.Test.YtkhfpcnmnnboeaaG0
namespace Go.Proofs.Ytkhfpcnmnnboeaa

def adjOk (o last : Int) (a : Int × Int) : Bool := isR a.1 && (!decide (a.1 = o) && (decide (last < a.1) && isC a.2))
def adjsOk (o : Int) : Int → List (Int × Int) → Bool
  | _, [] => true
  | last, a :: ad => adjOk o last a && adjsOk o a.1 ad
def recOk (r : Rc) : Bool := isR r.origin && (decide (0 < r.epoch) && (decide (0 < r.seq) && (decide (0 ≤ r.claim) && (decide (r.claim ≤ 1024) && (decide (r.adjs.length ≤ 16) && adjsOk r.origin 0 r.adjs)))))
def bothOk : (Nat → Bool) → List Rc → Bool
  | _, [] => true
  | f, r :: rs => recOk r && (!f r.origin.toNat && bothOk (mk1 f r.origin.toNat) rs)
def thereL (f : Nat → Bool) (rs : List Rc) : Nat → Bool := rs.foldl (fun f r => mk1 f r.origin.toNat) f
/-- A cost put down. -/
def put2 (c : Nat → Nat → Int) (a b : Nat) (v : Int) : Nat → Nat → Int := fun i j => if i = a ∧ j = b then v else c i j
def putAdjs (c : Nat → Nat → Int) (o : Nat) (ad : List (Int × Int)) : Nat → Nat → Int := ad.foldl (fun c x => put2 c o x.1.toNat x.2) c
def costL (c : Nat → Nat → Int) (rs : List Rc) : Nat → Nat → Int := rs.foldl (fun c r => putAdjs c r.origin.toNat r.adjs) c
def no2 : Nat → Nat → Int := fun _ _ => 0
def rowE (c : Nat → Nat → Int) (a : Nat) (l : List Nat) : List Ed := (l.filter fun b => decide (0 < c a b) && decide (0 < c b a)).map fun (b : Nat) => ((a : Int), (b : Int), c a b)
def laidE (c : Nat → Nat → Int) : List Ed := (List.range 25).flatMap fun a => rowE c a (List.range 25)
/-- The graph of records: nodes, edges. -/
def bothN (rs : List Rc) : List Int := markedL (thereL no1 rs)
def bothE (rs : List Rc) : List Ed := laidE (costL no2 rs)

theorem adjsOk_all : ∀ (o : Int) (ad : List (Int × Int)) (last : Int), adjsOk o last ad = true → ∀ x ∈ ad, 1 ≤ x.1 ∧ x.1 ≤ 24 ∧ x.1 ≠ o ∧ last < x.1 ∧ 1 ≤ x.2 ∧ x.2 ≤ 1000
  | _, [], _, _, x, hx => by simp at hx
  | o, a :: ad, last, h, x, hx => by
    simp only [adjsOk, adjOk, Bool.and_eq_true, decide_eq_true_eq, isR_iff, isC_iff, Bool.not_eq_true', decide_eq_false_iff_not] at h
    rcases List.mem_cons.1 hx with rfl | hx
    · exact ⟨h.1.1.1, h.1.1.2, h.1.2.1, h.1.2.2.1, h.1.2.2.2⟩
    · have := adjsOk_all o ad a.1 h.2 x hx
      exact ⟨this.1, this.2.1, this.2.2.1, by omega, this.2.2.2.2⟩
theorem recOk_parts {r : Rc} (h : recOk r = true) : (1 ≤ r.origin ∧ r.origin ≤ 24) ∧ r.adjs.length ≤ 16 ∧ adjsOk r.origin 0 r.adjs = true := by
  simp only [recOk, Bool.and_eq_true, decide_eq_true_eq, isR_iff] at h
  exact ⟨h.1, h.2.2.2.2.2.1, h.2.2.2.2.2.2⟩
theorem recOk_adj {r : Rc} (h : recOk r = true) {x : Int × Int} (hx : x ∈ r.adjs) : 1 ≤ x.1 ∧ x.1 ≤ 24 ∧ x.1 ≠ r.origin ∧ 1 ≤ x.2 ∧ x.2 ≤ 1000 := by
  have := adjsOk_all _ _ _ (recOk_parts h).2.2 x hx
  exact ⟨this.1, this.2.1, this.2.2.1, this.2.2.2.2⟩
/-- All records may be, their origins unlike. -/
def Unl (rs : List Rc) : Prop := (∀ r ∈ rs, recOk r = true) ∧ rs.Pairwise fun a b => a.origin.toNat ≠ b.origin.toNat
theorem bothOk_iff : ∀ (rs : List Rc) (f : Nat → Bool), bothOk f rs = true ↔ Unl rs ∧ ∀ r ∈ rs, f r.origin.toNat = false
  | [], f => by simp [bothOk, Unl]
  | r :: rs, f => by
    simp only [bothOk, Bool.and_eq_true, Bool.not_eq_true', bothOk_iff rs, Unl, List.pairwise_cons]
    constructor
    · rintro ⟨h1, h2, ⟨h3, h4⟩, h5⟩
      refine ⟨⟨?_, fun x hx e => ?_, h4⟩, ?_⟩
      · intro x hx; rcases List.mem_cons.1 hx with rfl | hx
        · exact h1
        · exact h3 x hx
      · have := h5 x hx; rw [← e, mk1_same] at this; cases this
      · intro x hx; rcases List.mem_cons.1 hx with rfl | hx
        · exact h2
        · have := h5 x hx
          cases hf : f x.origin.toNat with
          | false => rfl
          | true => rw [mk1_iff.2 (.inr hf)] at this; cases this
    · rintro ⟨⟨h1, h2, h3⟩, h4⟩
      refine ⟨h1 r (by simp), h4 r (by simp), ⟨fun x hx => h1 x (by simp [hx]), h3⟩, fun x hx => ?_⟩
      cases hf : mk1 f r.origin.toNat x.origin.toNat with
      | false => rfl
      | true =>
        rcases mk1_iff.1 hf with h | h
        · exact absurd h.symm (h2 x hx)
        · rw [h4 x (by simp [hx])] at h; cases h
theorem both_unl {rs : List Rc} : bothOk no1 rs = true ↔ Unl rs := by
  rw [bothOk_iff]
  exact ⟨fun h => h.1, fun h => ⟨h, fun _ _ => rfl⟩⟩
theorem Unl.reverse {rs : List Rc} (h : Unl rs) : Unl rs.reverse := by
  refine ⟨fun r hr => h.1 r (List.mem_reverse.1 hr), ?_⟩
  rw [List.pairwise_reverse]
  exact h.2.imp fun hab e => hab e.symm
theorem both_reverse (rs : List Rc) : bothOk no1 rs.reverse = bothOk no1 rs := by
  have h : bothOk no1 rs.reverse = true ↔ bothOk no1 rs = true := by
    rw [both_unl, both_unl]
    exact ⟨fun h => by have := h.reverse; rwa [List.reverse_reverse] at this, Unl.reverse⟩
  cases h1 : bothOk no1 rs.reverse <;> cases h2 : bothOk no1 rs <;> simp [h1, h2] at h <;> rfl
theorem thereL_iff : ∀ (rs : List Rc) (f : Nat → Bool) (i : Nat), thereL f rs i = true ↔ f i = true ∨ ∃ r ∈ rs, r.origin.toNat = i
  | [], f, i => by simp [thereL]
  | r :: rs, f, i => by
    show thereL (mk1 f r.origin.toNat) rs i = true ↔ _
    rw [thereL_iff rs, mk1_iff]
    constructor
    · rintro ((h | h) | ⟨x, hx, h⟩)
      · exact .inr ⟨r, by simp, h.symm⟩
      · exact .inl h
      · exact .inr ⟨x, by simp [hx], h⟩
    · rintro (h | ⟨x, hx, h⟩)
      · exact .inl (.inr h)
      · rcases List.mem_cons.1 hx with rfl | hx
        · exact .inl (.inl h.symm)
        · exact .inr ⟨x, hx, h⟩
/-- Costs are those that the records tell. -/
structure IsCost (rs : List Rc) (c : Nat → Nat → Int) : Prop where
  at' : ∀ r ∈ rs, ∀ x ∈ r.adjs, c r.origin.toNat x.1.toNat = x.2
  from' : ∀ i j, c i j ≠ 0 → ∃ r ∈ rs, ∃ x ∈ r.adjs, r.origin.toNat = i ∧ x.1.toNat = j
theorem IsCost.same {rs rs' : List Rc} {c d : Nat → Nat → Int} (h : IsCost rs c) (k : IsCost rs' d) (hm : ∀ r, r ∈ rs ↔ r ∈ rs') (i j : Nat) : c i j = d i j := by
  by_cases h0 : c i j = 0
  · by_cases h1 : d i j = 0
    · rw [h0, h1]
    · obtain ⟨r, hr, x, hx, rfl, rfl⟩ := k.from' i j h1
      rw [h.at' r ((hm r).2 hr) x hx, k.at' r hr x hx]
  · obtain ⟨r, hr, x, hx, rfl, rfl⟩ := h.from' i j h0
    rw [h.at' r hr x hx, k.at' r ((hm r).1 hr) x hx]
theorem putAdjs_other : ∀ (ad : List (Int × Int)) (c : Nat → Nat → Int) (o i j : Nat), (i = o → ∀ x ∈ ad, x.1.toNat ≠ j) → putAdjs c o ad i j = c i j
  | [], _, _, _, _, _ => rfl
  | a :: ad, c, o, i, j, h => by
    show putAdjs (put2 c o a.1.toNat a.2) o ad i j = _
    rw [putAdjs_other ad _ o i j fun e x hx => h e x (by simp [hx])]
    unfold put2
    rw [if_neg]
    rintro ⟨e1, e2⟩
    exact h e1 a (by simp) e2.symm
theorem putAdjs_at : ∀ (ad : List (Int × Int)) (c : Nat → Nat → Int) (o : Nat) (p last : Int), 0 ≤ last → adjsOk p last ad = true → ∀ x ∈ ad, putAdjs c o ad o x.1.toNat = x.2
  | [], _, _, _, _, _, _, x, hx => by simp at hx
  | a :: ad, c, o, p, last, h0, h, x, hx => by
    have h2 := adjsOk_all p (a :: ad) last h a (by simp)
    simp only [adjsOk, Bool.and_eq_true] at h
    rcases List.mem_cons.1 hx with rfl | hx
    · show putAdjs (put2 c o x.1.toNat x.2) o ad o x.1.toNat = x.2
      rw [putAdjs_other ad _ o o _ fun _ y hy => by
        have := adjsOk_all p ad x.1 h.2 y hy
        omega]
      simp [put2]
    · exact putAdjs_at ad (put2 c o a.1.toNat a.2) o p a.1 (by omega) h.2 x hx
theorem costL_other : ∀ (rs : List Rc) (c : Nat → Nat → Int) (i j : Nat), (∀ r ∈ rs, r.origin.toNat = i → ∀ x ∈ r.adjs, x.1.toNat ≠ j) → costL c rs i j = c i j
  | [], _, _, _, _ => rfl
  | r :: rs, c, i, j, h => by
    show costL (putAdjs c r.origin.toNat r.adjs) rs i j = _
    rw [costL_other rs _ i j fun x hx => h x (by simp [hx]), putAdjs_other r.adjs c _ i j fun e => h r (by simp) e.symm]
theorem costL_at : ∀ (rs : List Rc) (c : Nat → Nat → Int), Unl rs → ∀ r ∈ rs, ∀ x ∈ r.adjs, costL c rs r.origin.toNat x.1.toNat = x.2
  | [], _, _, r, hr, _, _ => by simp at hr
  | q :: rs, c, h, r, hr, x, hx => by
    show costL (putAdjs c q.origin.toNat q.adjs) rs r.origin.toNat x.1.toNat = x.2
    have hp := List.pairwise_cons.1 h.2
    rcases List.mem_cons.1 hr with rfl | hr
    · rw [costL_other rs _ _ _ fun y hy e => absurd e.symm (hp.1 y hy)]
      exact putAdjs_at r.adjs c _ r.origin 0 (by omega) (recOk_parts (h.1 r (by simp))).2.2 x hx
    · exact costL_at rs _ ⟨fun y hy => h.1 y (by simp [hy]), hp.2⟩ r hr x hx
theorem isCost_of {rs : List Rc} (h : Unl rs) : IsCost rs (costL no2 rs) := by
  refine ⟨costL_at rs no2 h, fun i j hne => ?_⟩
  apply Classical.byContradiction
  intro hno
  apply hne
  rw [costL_other rs no2 i j]
  · rfl
  · intro r hr e x hx e2
    exact hno ⟨r, hr, x, hx, e, e2⟩
theorem isCost_pos {rs : List Rc} {c : Nat → Nat → Int} (h : IsCost rs c) (hu : Unl rs) (i j : Nat) : c i j = 0 ∨ (1 ≤ c i j ∧ c i j ≤ 1000 ∧ 1 ≤ i ∧ i ≤ 24 ∧ 1 ≤ j ∧ j ≤ 24 ∧ i ≠ j ∧ thereL no1 rs i = true) := by
  by_cases h0 : c i j = 0
  · exact .inl h0
  · obtain ⟨r, hr, x, hx, rfl, rfl⟩ := h.from' i j h0
    have h1 := h.at' r hr x hx
    have h2 := recOk_adj (hu.1 r hr) hx
    have h3 := (recOk_parts (hu.1 r hr)).1
    exact .inr ⟨by omega, by omega, by omega, by omega, by omega, by omega, by omega, (thereL_iff rs no1 _).2 (.inr ⟨r, hr, rfl⟩)⟩
theorem laidE_congr {c d : Nat → Nat → Int} (h : ∀ i j, c i j = d i j) : laidE c = laidE d := by
  have : c = d := funext fun i => funext fun j => h i j
  rw [this]
theorem bothE_reverse {rs : List Rc} (h : Unl rs) : bothE rs.reverse = bothE rs :=
  laidE_congr ((isCost_of h.reverse).same (isCost_of h) fun _ => List.mem_reverse)
theorem bothN_reverse (rs : List Rc) : bothN rs.reverse = bothN rs :=
  markedL_congr fun i _ => by
    have h1 : thereL no1 rs.reverse i = true ↔ thereL no1 rs i = true := by rw [thereL_iff, thereL_iff]; simp
    cases h2 : thereL no1 rs.reverse i <;> cases h3 : thereL no1 rs i <;> simp [h2, h3] at h1 <;> rfl
theorem mem_laidE {c : Nat → Nat → Int} {e : Ed} : e ∈ laidE c ↔ ∃ a b : Nat, a < 25 ∧ b < 25 ∧ 0 < c a b ∧ 0 < c b a ∧ e = ((a : Int), (b : Int), c a b) := by
  unfold laidE rowE
  simp only [List.mem_flatMap, List.mem_range, List.mem_map, List.mem_filter, Bool.and_eq_true, decide_eq_true_eq]
  constructor
  · rintro ⟨a, ha, b, ⟨hb, h1, h2⟩, rfl⟩
    exact ⟨a, b, ha, hb, h1, h2, rfl⟩
  · rintro ⟨a, b, ha, hb, h1, h2, rfl⟩
    exact ⟨a, ha, b, ⟨hb, h1, h2⟩, rfl⟩
theorem laidE_sym {c : Nat → Nat → Int} {e : Ed} (h : e ∈ laidE c) : ∃ e' ∈ laidE c, e'.1 = e.2.1 ∧ e'.2.1 = e.1 := by
  obtain ⟨a, b, ha, hb, h1, h2, rfl⟩ := mem_laidE.1 h
  exact ⟨_, mem_laidE.2 ⟨b, a, hb, ha, h2, h1, rfl⟩, rfl, rfl⟩
theorem mem_markedL {f : Nat → Bool} {x : Int} : x ∈ markedL f ↔ ∃ i : Nat, i < 25 ∧ f i = true ∧ x = (i : Int) := by
  unfold markedL
  simp only [List.mem_map, List.mem_filter, List.mem_range]
  constructor
  · rintro ⟨i, ⟨h1, h2⟩, rfl⟩; exact ⟨i, h1, h2, rfl⟩
  · rintro ⟨i, h1, h2, rfl⟩; exact ⟨i, ⟨h1, h2⟩, rfl⟩
end Go.Proofs.Ytkhfpcnmnnboeaa
