/- Ways turned round; ways where edges are fewer. -/
import Derived.Test.YtabnecicidkmhaaVQ3
namespace Go.Proofs.Ytabnecicidkmhaa

def BothW (es : List Ed) : Prop := ∀ e ∈ es, (e.2.1, e.1, e.2.2) ∈ es
theorem Wy.turn {es : List Ed} (hs : BothW es) {a x c : Int} {h : Nat} (k : Wy es a x c h) : Wy es x a c h :=
  k (fun x c h => Wy es x a c h) (Wy.refl _ _) (fun e he c h hw => by
    have h1 : Wy es e.2.1 e.1 e.2.2 1 := Wy.one (hs e he)
    have h2 := h1.trans hw
    rwa [Int.add_comm, Nat.add_comm] at h2)
theorem Ds.turn {es : List Ed} (hs : BothW es) {a x d : Int} (h : Ds es a x d) : Ds es x a d := by
  obtain ⟨⟨k, hw⟩, h1⟩ := h
  exact ⟨⟨k, hw.turn hs⟩, fun c' h' hw' => h1 _ _ (hw'.turn hs)⟩
theorem Right.turn {es : List Ed} (hs : BothW es) {a b d d' : Int} {A B : Rr} (h1 : Ds es a b d) (h2 : Ds es b a d') (hA : Right es a b d A) (hB : Right es b a d' B) : A.cost = B.cost ∧ A.least = B.least ∧ A.most = B.most := by
  have hd := (h1.turn hs).uniq h2
  subst hd
  have l1 := (hA.hops _ (hB.lw.turn hs)).1
  have l2 := (hB.hops _ (hA.lw.turn hs)).1
  have m1 := (hA.hops _ (hB.mw.turn hs)).2
  have m2 := (hB.hops _ (hA.mw.turn hs)).2
  have := hA.l0
  have := hB.l0
  have := hA.m0
  have := hB.m0
  exact ⟨by rw [hA.cost, hB.cost], by omega, by omega⟩
theorem Wy.mono {es fs : List Ed} (hs : ∀ e ∈ fs, e ∈ es) {a x c : Int} {h : Nat} (k : Wy fs a x c h) : Wy es a x c h :=
  k (fun x c h => Wy es a x c h) (Wy.refl _ _) (fun e he _ _ hw => hw.step (hs e he))
/-- Among ways there is a cheapest one. -/
theorem ds_of {es : List Ed} (hp : PosE es) {r x c : Int} {h : Nat} (k : Wy es r x c h) : ∃ d, Ds es r x d ∧ d ≤ c := by
  have key : ∀ (n : Nat) (c : Int) (h : Nat), c.toNat = n → Wy es r x c h → ∃ d, Ds es r x d ∧ d ≤ c := by
    intro n
    induction n using Nat.strongRecOn with
    | _ n ih =>
    intro c h hc hw
    by_cases hm : ∀ c' h', Wy es r x c' h' → c ≤ c'
    · exact ⟨c, ⟨⟨h, hw⟩, hm⟩, Int.le_refl _⟩
    · have : ∃ c' h', Wy es r x c' h' ∧ c' < c := Classical.byContradiction fun hno => hm fun c' h' hw' => by
        by_cases hlt : c' < c
        · exact absurd ⟨c', h', hw', hlt⟩ hno
        · omega
      obtain ⟨c', h', hw', hlt⟩ := this
      have h1 := (hw'.pos hp).1
      obtain ⟨d, hd, hle⟩ := ih c'.toNat (by omega) c' h' rfl hw'
      exact ⟨d, hd, by omega⟩
  exact key _ c h rfl k
/-- Edges of the same pairs: who is come to stays so. -/
theorem wy_pairs {es fs : List Ed} (hs : ∀ e ∈ fs, ∃ c, (e.1, e.2.1, c) ∈ es) {a x c : Int} {h : Nat} (k : Wy fs a x c h) : ∃ c', Wy es a x c' h :=
  k (fun x _ h => ∃ c', Wy es a x c' h) ⟨0, Wy.refl _ _⟩ (fun e he _ _ ⟨c', hw⟩ => by
    obtain ⟨c2, h2⟩ := hs e he
    exact ⟨_, hw.step (e := (e.1, e.2.1, c2)) h2⟩)
end Go.Proofs.Ytabnecicidkmhaa
