/- What From has of each node at its end. -/
import Derived.Test.YtabnecicidkmhaaVQ1
namespace Go.Proofs.Ytabnecicidkmhaa

theorem IsNear.at {es : List Ed} {r x d : Int} {P : List (Int × Int)} (h : IsNear es r P) (hd : Ds es r x d) : (x, d) ∈ P := by
  obtain ⟨hh, hw⟩ := hd.1
  obtain ⟨b, hb, h1, h2⟩ := h.mn _ _ _ hw
  have h3 := h.ds hb
  rw [h1] at h3
  have h4 := h3.uniq hd
  have : b = (x, d) := by obtain ⟨b1, b2⟩ := b; simp only at h1 h4; rw [h1, h4]
  rw [← this]
  exact hb
theorem IsNear.told_iff {es : List Ed} {r : Int} {P : List (Int × Int)} (h : IsNear es r P) (h0 : ∀ n ∈ P, 0 ≤ n.1) {e : Ed} : e ∈ told es P P ↔ e ∈ es ∧ ∃ d, Ds es r e.1 d ∧ Ds es r e.2.1 (d + e.2.2) := by
  rw [told_mem]
  constructor
  · rintro ⟨_, h2, h3⟩
    have h4 := h.tgt h0 h3
    exact ⟨h2, _, h4.2.1, by rw [Int.sub_add_cancel]; exact h4.2.2⟩
  · rintro ⟨h1, d, h2, h3⟩
    have h4 := h.at h2
    have h5 := h.at h3
    have h6 := h.cP h0 h5
    simp only at h6
    refine ⟨⟨_, h4, rfl⟩, h1, ?_⟩
    simp only [Proofs.Ytabnecicidkmhaa.tgt, Bool.and_eq_true, decide_eq_true_eq, List.any_eq_true]
    exact ⟨h1, _, h4, rfl, h6.symm⟩
/-- One edge more, at its end. -/
def rchG (r : Int) (C : Nat → Int) (acc was : Rr) (e : Ed) : Rr :=
  let nx := if e.1 = r then [e.2.1] else was.next
  let r1 := if acc.node = 0 then ⟨e.2.1, C e.2.1.toNat, was.least + 1, 0, []⟩ else acc
  ⟨r1.node, r1.cost, min r1.least (was.least + 1), max r1.most (was.most + 1), joinL r1.next nx⟩
theorem rchE_step (r : Int) (C : Nat → Int) : rchE r C = stepG (rchG r C) := by funext R e; rfl
def nxE (r : Int) (was : Rr) (e : Ed) : List Int := if e.1 = r then [e.2.1] else was.next
/-- What is gathered at a node out of the edges that lead there. -/
structure Gath (r : Int) (C : Nat → Int) (R : Nat → Rr) (x : Int) (L : List Ed) (A : Rr) : Prop where
  node : A.node = x
  cost : A.cost = C x.toNat
  l1 : ∀ e ∈ L, A.least ≤ (R e.1.toNat).least + 1
  l2 : ∃ e ∈ L, A.least = (R e.1.toNat).least + 1
  m1 : ∀ e ∈ L, (R e.1.toNat).most + 1 ≤ A.most
  m2 : ∃ e ∈ L, A.most = (R e.1.toNat).most + 1
  np : A.next.Pairwise fun a b => a < b
  nx : ∀ y, y ∈ A.next ↔ ∃ e ∈ L, y ∈ nxE r (R e.1.toNat) e
theorem gath_one {r : Int} {C : Nat → Int} {R : Nat → Rr} {x : Int} {e : Ed} {A : Rr} (hA : A.node = 0) (he : e.2.1 = x) (hm : 0 ≤ (R e.1.toNat).most) : Gath r C R x [e] (rchG r C A (R e.1.toNat) e) := by
  subst he
  unfold rchG
  simp only [hA, if_true]
  refine ⟨rfl, rfl, fun f hf => ?_, ⟨e, by simp, by simp⟩, fun f hf => ?_, ⟨e, by simp, ?_⟩, (joinL_ok _ _).1, fun y => ?_⟩
  · rw [List.mem_singleton.1 hf]; show min _ _ ≤ _; omega
  · rw [List.mem_singleton.1 hf]; show _ ≤ max _ _; omega
  · show max _ _ = _; omega
  · rw [(joinL_ok _ _).2]
    simp [nxE]
theorem Gath.more {r : Int} {C : Nat → Int} {R : Nat → Rr} {x : Int} {L : List Ed} {A : Rr} (h : Gath r C R x L A) (hx : x ≠ 0) (e : Ed) : Gath r C R x (L ++ [e]) (rchG r C A (R e.1.toNat) e) := by
  have hn : ¬ A.node = 0 := by rw [h.node]; exact hx
  unfold rchG
  simp only [hn, if_false]
  obtain ⟨a, ha, hl⟩ := h.l2
  obtain ⟨b, hb, hm⟩ := h.m2
  refine ⟨h.node, h.cost, fun f hf => ?_, ?_, fun f hf => ?_, ?_, (joinL_ok _ _).1, fun y => ?_⟩
  · rcases List.mem_append.1 hf with h1 | h1
    · have := h.l1 f h1; show min _ _ ≤ _; omega
    · rw [List.mem_singleton.1 h1]; show min _ _ ≤ _; omega
  · by_cases hc : A.least ≤ (R e.1.toNat).least + 1
    · exact ⟨a, by simp [ha], by show min _ _ = _; omega⟩
    · exact ⟨e, by simp, by show min _ _ = _; omega⟩
  · rcases List.mem_append.1 hf with h1 | h1
    · have := h.m1 f h1; show _ ≤ max _ _; omega
    · rw [List.mem_singleton.1 h1]; show _ ≤ max _ _; omega
  · by_cases hc : (R e.1.toNat).most + 1 ≤ A.most
    · exact ⟨b, by simp [hb], by show max _ _ = _; omega⟩
    · exact ⟨e, by simp, by show max _ _ = _; omega⟩
  · rw [(joinL_ok _ _).2, h.nx y]
    constructor
    · rintro (⟨f, hf, h1⟩ | h1)
      · exact ⟨f, by simp [hf], h1⟩
      · exact ⟨e, by simp, h1⟩
    · rintro ⟨f, hf, h1⟩
      rcases List.mem_append.1 hf with h2 | h2
      · exact .inl ⟨f, h2, h1⟩
      · rw [List.mem_singleton.1 h2] at h1
        exact .inr h1
theorem gath_all {r : Int} {C : Nat → Int} {R : Nat → Rr} {x : Int} (hx : x ≠ 0) : ∀ (L : List Ed), L ≠ [] → (∀ e ∈ L, e.2.1 = x) → (∀ i, 0 ≤ (R i).most) → Gath r C R x L (L.foldl (fun acc e => rchG r C acc (R e.1.toNat) e) noR) := by
  intro L
  have key : ∀ (n : Nat) (L : List Ed), L.length = n → L ≠ [] → (∀ e ∈ L, e.2.1 = x) → (∀ i, 0 ≤ (R i).most) → Gath r C R x L (L.foldl (fun acc e => rchG r C acc (R e.1.toNat) e) noR) := by
    intro n
    induction n with
    | zero => intro L hl h0; exact absurd (List.length_eq_zero_iff.1 hl) h0
    | succ n ih =>
      intro L hl h0 he hm
      obtain ⟨U, e, rfl⟩ : ∃ U e, L = U ++ [e] := by
        rcases List.eq_nil_or_concat L with h | ⟨U, e, h⟩
        · exact absurd h h0
        · exact ⟨U, e, by simpa using h⟩
      rw [List.foldl_append, List.foldl_cons, List.foldl_nil]
      by_cases hU : U = []
      · subst hU
        exact gath_one rfl (he e (by simp)) (hm _)
      · exact (ih U (by simpa using hl) hU (fun f hf => he f (by simp [hf])) hm).more hx e
  exact key L.length L rfl
/-- The edges on least-cost ways that lead to a node. -/
def Into (es : List Ed) (r x : Int) (e : Ed) : Prop := e ∈ es ∧ e.2.1 = x ∧ ∃ d, Ds es r e.1 d ∧ Ds es r x (d + e.2.2)
theorem Ds.nonneg {es : List Ed} {r x d : Int} (hp : PosE es) (h : Ds es r x d) : 0 ≤ d := by
  obtain ⟨hh, hw⟩ := h.1
  have := (hw.pos hp).1
  omega
theorem ds_root {es : List Ed} {r : Int} (hp : PosE es) : Ds es r r 0 := ⟨⟨0, Wy.refl _ _⟩, fun c h hw => by have := (hw.pos hp).1; omega⟩
theorem into_root {es : List Ed} {r : Int} (hp : PosE es) {e : Ed} : ¬ Into es r r e := by
  rintro ⟨he, _, d, h1, h2⟩
  have h3 := h2.uniq (ds_root hp)
  have h4 := h1.nonneg hp
  have h5 := hp e he
  omega
theorem into_some {es : List Ed} {r x d : Int} (_hp : PosE es) (h : Ds es r x d) (hx : x ≠ r) : ∃ e, Into es r x e := by
  obtain ⟨hh, hw⟩ := h.1
  rcases hw.last with ⟨h1, _⟩ | ⟨e, he, c, h', hw', h1, h2, _⟩
  · exact absurd h1 hx
  · refine ⟨e, he, h1.symm, c, ⟨⟨h', hw'⟩, fun c2 h2' hw2 => ?_⟩, by rw [← h2]; exact h⟩
    have := h.2 _ _ (by rw [h1]; exact hw2.step he)
    omega
/-- What stands at the end: the root alone; a node that is come to by the edges that lead there; nothing of others. -/
theorem fin_all {ns : List Int} {es : List Ed} {r : Int} {P : List (Int × Int)} {C : Nat → Int} (hok : graphOk ns es = true) (hr : r ∈ ns) (h : IsNear es r P) (hn : NdOk P) :
    (rchT r C (told es P P) r.toNat = ⟨r, 0, 0, 0, []⟩) ∧
    (∀ x, x ∈ ns → x ≠ r → (∃ d, Ds es r x d) → ∃ L, L ≠ [] ∧ (∀ e, e ∈ L ↔ Into es r x e) ∧ Gath r C (rchT r C (told es P P)) x L (rchT r C (told es P P) x.toNat)) ∧
    (∀ i : Nat, i < 25 → (∀ d, ¬ Ds es r (i : Int) d) → rchT r C (told es P P) i = noR) := by
  have hp := graphOk_pos hok
  have hbd := graphOk_bd hok
  have h0 : ∀ n ∈ P, 0 ≤ n.1 := fun n h1 => by have := (hn.2 n h1).1; omega
  have htopo := h.topo h0 hp
  have hfold := topo_fold (rchG r C) (putV (fun _ => noR) r.toNat ⟨r, 0, 0, 0, []⟩) _ _ rfl htopo
  rw [← rchE_step] at hfold
  have hfold' : ∀ x, rchT r C (told es P P) x = ((told es P P).filter fun e => decide (e.2.1.toNat = x)).foldl (fun acc e => rchG r C acc (rchT r C (told es P P) e.1.toNat) e) (putV (fun _ => noR) r.toNat ⟨r, 0, 0, 0, []⟩ x) := hfold
  have hmem : ∀ x, x ∈ ns → ∀ e, e ∈ ((told es P P).filter fun e => decide (e.2.1.toNat = x.toNat)) ↔ Into es r x e := fun x hx e => by
    rw [List.mem_filter, h.told_iff h0, decide_eq_true_eq]
    have h2 := hbd.1 x hx
    constructor
    · rintro ⟨⟨h1, d, hd1, hd2⟩, h3⟩
      have h4 := hbd.1 _ (hbd.2.1 e h1).2
      have h5 : e.2.1 = x := by omega
      exact ⟨h1, h5, d, hd1, by rw [← h5]; exact hd2⟩
    · rintro ⟨h1, h3, d, hd1, hd2⟩
      exact ⟨⟨h1, d, hd1, by rw [h3]; exact hd2⟩, by rw [h3]⟩
  have hmost : ∀ i, 0 ≤ (rchT r C (told es P P) i).most := fun i => (rchT_ok r C (told es P P) (fun e he => hbd.1 _ (hbd.2.1 e ((h.told_iff h0).1 he).1).2) i).m0
  refine ⟨?_, fun x hx hxr hd => ?_, fun i hi hno => ?_⟩
  · rw [hfold']
    have : ((told es P P).filter fun e => decide (e.2.1.toNat = r.toNat)) = [] := by
      apply List.eq_nil_iff_forall_not_mem.2
      intro e he
      exact into_root hp ((hmem r hr e).1 he)
    rw [this, List.foldl_nil, putV_same]
  · have hx1 := hbd.1 x hx
    have hr1 := hbd.1 r hr
    obtain ⟨d, hd⟩ := hd
    obtain ⟨e0, he0⟩ := into_some hp hd hxr
    refine ⟨_, fun hnil => ?_, hmem x hx, ?_⟩
    · have := (hmem x hx e0).2 he0
      rw [hnil] at this
      simp at this
    · have h1 := gath_all (r := r) (C := C) (R := rchT r C (told es P P)) (x := x) (by omega) ((told es P P).filter fun e => decide (e.2.1.toNat = x.toNat)) (fun hnil => by
        have := (hmem x hx e0).2 he0
        rw [hnil] at this
        simp at this) (fun e he => ((hmem x hx e).1 he).2.1) hmost
      have h2 := hfold' x.toNat
      rw [putV_other _ _ (show x.toNat ≠ r.toNat by omega)] at h2
      rw [← h2] at h1
      exact h1
  · rw [hfold']
    have h1 : ((told es P P).filter fun e => decide (e.2.1.toNat = i)) = [] := by
      apply List.eq_nil_iff_forall_not_mem.2
      intro e he
      rw [List.mem_filter, h.told_iff h0, decide_eq_true_eq] at he
      obtain ⟨⟨h1, d, _, hd2⟩, h3⟩ := he
      have h4 := hbd.1 _ (hbd.2.1 e h1).2
      have h5 : e.2.1 = (i : Int) := by omega
      rw [h5] at hd2
      exact hno _ hd2
    have h2 : i ≠ r.toNat := fun e => hno 0 (by rw [e]; have := hbd.1 r hr; rw [show ((r.toNat : Nat) : Int) = r by omega]; exact ds_root hp)
    rw [h1, List.foldl_nil, putV_other _ _ h2]
end Go.Proofs.Ytabnecicidkmhaa
