/- What is told in an order: no edge leads back to where one ahead of it began; so what is gathered at a node is made of what stands at the end. -/
import Derived.Test.YtabnecicidkmhaaV13
namespace Go.Proofs.Ytabnecicidkmhaa

/-- No edge leads to where one ahead of it, or itself, begins. -/
def Topo (T : List Ed) : Prop := ∀ T1 e T2, T = T1 ++ e :: T2 → ∀ f ∈ e :: T2, f.2.1.toNat ≠ e.1.toNat
theorem Topo.init {T : List Ed} {e : Ed} (h : Topo (T ++ [e])) : Topo T := fun T1 x T2 he f hf => h T1 x (T2 ++ [e]) (by rw [he]; simp) f (by
  rcases List.mem_cons.1 hf with h1 | h1
  · rw [h1]; simp
  · simp [h1])
theorem Topo.last {T : List Ed} {e x : Ed} (h : Topo (T ++ [e])) (hx : x ∈ T ++ [e]) : e.2.1.toNat ≠ x.1.toNat := by
  obtain ⟨T1, T2, he⟩ := List.append_of_mem hx
  refine h T1 x T2 he e ?_
  have h1 : (T ++ [e]).getLast? = some e := by simp
  rw [he, List.getLast?_append] at h1
  have h2 : (x :: T2).getLast? = some e := by
    cases hh : (x :: T2).getLast? with
    | none => simp at hh
    | some y => rw [hh] at h1; simpa using h1
  exact List.mem_of_getLast? h2
/-- One step of such a gathering. -/
def stepG {β : Type} (g : β → β → Ed → β) (R : Nat → β) (e : Ed) : Nat → β := putV R e.2.1.toNat (g (R e.2.1.toNat) (R e.1.toNat) e)
theorem topo_fold {β : Type} (g : β → β → Ed → β) (R0 : Nat → β) : ∀ (n : Nat) (T : List Ed), T.length = n → Topo T → ∀ x, (T.foldl (stepG g) R0) x = (T.filter fun e => decide (e.2.1.toNat = x)).foldl (fun acc e => g acc ((T.foldl (stepG g) R0) e.1.toNat) e) (R0 x) := by
  intro n
  induction n with
  | zero => intro T hT _ x; rw [List.length_eq_zero_iff.1 hT]; rfl
  | succ n ih =>
    intro T hT hp x
    obtain ⟨U, e, rfl⟩ : ∃ U e, T = U ++ [e] := by
      rcases List.eq_nil_or_concat T with h | ⟨U, e, h⟩
      · rw [h] at hT; simp at hT
      · exact ⟨U, e, by simpa using h⟩
    have hU : U.length = n := by simpa using hT
    have ihU := ih U hU hp.init
    rw [List.foldl_append, List.foldl_cons, List.foldl_nil]
    have hsame : ∀ y ∈ U ++ [e], stepG g (U.foldl (stepG g) R0) e y.1.toNat = (U.foldl (stepG g) R0) y.1.toNat := fun y hy => by
      unfold stepG
      exact putV_other _ _ (fun h => hp.last hy h.symm)
    have hcongr : ∀ (L : List Ed) (b : β), (∀ y ∈ L, y ∈ U ++ [e]) → L.foldl (fun acc y => g acc (stepG g (U.foldl (stepG g) R0) e y.1.toNat) y) b = L.foldl (fun acc y => g acc ((U.foldl (stepG g) R0) y.1.toNat) y) b := by
      intro L
      induction L with
      | nil => intro b _; rfl
      | cons y L ihL =>
        intro b hL
        rw [List.foldl_cons, List.foldl_cons, hsame y (hL y (by simp))]
        exact ihL _ (fun z hz => hL z (by simp [hz]))
    rw [hcongr _ _ (fun y hy => (List.mem_filter.1 hy).1), List.filter_append]
    by_cases hx : e.2.1.toNat = x
    · subst hx
      rw [show ([e].filter fun f => decide (f.2.1.toNat = e.2.1.toNat)) = [e] from by simp, List.foldl_append, ← ihU]
      show putV _ _ _ _ = _
      rw [putV_same]
      rfl
    · rw [show ([e].filter fun f => decide (f.2.1.toNat = x)) = [] from by simp [hx], List.append_nil, ← ihU]
      show putV _ _ _ _ = _
      rw [putV_other _ _ (fun h => hx h.symm)]
theorem told_mem {es : List Ed} {P : List (Int × Int)} {e : Ed} : ∀ {Q : List (Int × Int)}, e ∈ told es P Q ↔ (∃ n ∈ Q, e.1 = n.1) ∧ e ∈ es ∧ tgt es (cP P) P e = true
  | [] => by simp [told]
  | n :: Q => by
    rw [told, List.mem_append, told_mem (Q := Q), List.mem_filter]
    simp only [Bool.and_eq_true, decide_eq_true_eq, List.mem_cons]
    constructor
    · rintro (⟨h1, h2, h3⟩ | ⟨⟨m, hm, h1⟩, h2⟩)
      · exact ⟨⟨n, .inl rfl, h2⟩, h1, h3⟩
      · exact ⟨⟨m, .inr hm, h1⟩, h2⟩
    · rintro ⟨⟨m, rfl | hm, h1⟩, h2, h3⟩
      · exact .inl ⟨h2, h1, h3⟩
      · exact .inr ⟨⟨m, hm, h1⟩, h2, h3⟩
theorem IsNear.told_sorted {es : List Ed} {r : Int} {P : List (Int × Int)} (h : IsNear es r P) (h0 : ∀ n ∈ P, 0 ≤ n.1) : ∀ Q : List (Int × Int), (∀ n ∈ Q, n ∈ P) → (Q.Pairwise fun a b => a.2 ≤ b.2) → (told es P Q).Pairwise fun e f => Proofs.Ytabnecicidkmhaa.cP P e.1.toNat ≤ Proofs.Ytabnecicidkmhaa.cP P f.1.toNat
  | [], _, _ => by simp [told]
  | n :: Q, hQ, hs => by
    rw [List.pairwise_cons] at hs
    have ih := h.told_sorted h0 Q (fun m hm => hQ m (by simp [hm])) hs.2
    have hn := hQ n (by simp)
    rw [told, List.pairwise_append]
    refine ⟨?_, ih, fun e he f hf => ?_⟩
    · rw [List.pairwise_iff_forall_sublist]
      intro a b hab
      have ha : a ∈ es.filter fun e => decide (e.1 = n.1) && Proofs.Ytabnecicidkmhaa.tgt es (Proofs.Ytabnecicidkmhaa.cP P) P e := hab.subset (by simp)
      have hb : b ∈ es.filter fun e => decide (e.1 = n.1) && Proofs.Ytabnecicidkmhaa.tgt es (Proofs.Ytabnecicidkmhaa.cP P) P e := hab.subset (by simp)
      simp only [List.mem_filter, Bool.and_eq_true, decide_eq_true_eq] at ha hb
      rw [ha.2.1, hb.2.1]
      exact Int.le_refl _
    · simp only [List.mem_filter, Bool.and_eq_true, decide_eq_true_eq] at he
      obtain ⟨⟨m, hm, h1⟩, _⟩ := told_mem.1 hf
      rw [he.2.1, h1, h.cP h0 hn, h.cP h0 (hQ m (by simp [hm]))]
      exact hs.1 m hm
theorem IsNear.topo {es : List Ed} {r : Int} {P : List (Int × Int)} (h : IsNear es r P) (h0 : ∀ n ∈ P, 0 ≤ n.1) (hp : PosE es) : Topo (told es P P) := by
  intro T1 e T2 he f hf
  have hs := h.told_sorted h0 P (fun _ hn => hn) h.ord
  have hle : Proofs.Ytabnecicidkmhaa.cP P e.1.toNat ≤ Proofs.Ytabnecicidkmhaa.cP P f.1.toNat := by
    rcases List.mem_cons.1 hf with h1 | h1
    · rw [h1]; exact Int.le_refl _
    · rw [he, List.pairwise_append, List.pairwise_cons] at hs
      exact hs.2.1.1 f h1
  have hfm : f ∈ told es P P := by rw [he]; simp only [List.mem_append]; exact .inr hf
  obtain ⟨_, hfe, ht⟩ := told_mem.1 hfm
  simp only [Proofs.Ytabnecicidkmhaa.tgt, Bool.and_eq_true, decide_eq_true_eq, List.any_eq_true] at ht
  obtain ⟨_, n, hn, h1, h2⟩ := ht
  have h3 := h.cP h0 hn
  rw [← h1] at h3
  have h4 := hp f hfe
  intro heq
  rw [heq] at h2
  omega
end Go.Proofs.Ytabnecicidkmhaa
