/- What From has of each node at its end, in ways: the cost, the fewest and the most hops, the first steps. -/
import Derived.Test.YtabnecicidkmhaaVQ2
namespace Go.Proofs.Ytabnecicidkmhaa

/-- A last step of a least-cost way is among the edges that lead there. -/
theorem into_last {es : List Ed} {r x d c : Int} {h : Nat} {e : Ed} (hd : Ds es r x d) (he : e ∈ es) (hw : Wy es r e.1 c h) (hx : x = e.2.1) (hc : d = c + e.2.2) : Into es r x e ∧ Ds es r e.1 c := by
  have h1 : Ds es r e.1 c := ⟨⟨h, hw⟩, fun c2 h2 hw2 => by
    have := hd.2 _ _ (by rw [hx]; exact hw2.step he)
    omega⟩
  exact ⟨⟨he, hx.symm, c, h1, by rw [← hc]; exact hd⟩, h1⟩
/-- A first step n of a way to x that costs d. -/
def Fs (es : List Ed) (r n x d : Int) : Prop := ∃ e ∈ es, e.1 = r ∧ e.2.1 = n ∧ ∃ h, Wy es n x (d - e.2.2) h
/-- What is right of a node. -/
structure Right (es : List Ed) (r x d : Int) (A : Rr) : Prop where
  node : A.node = x
  cost : A.cost = d
  l0 : 0 ≤ A.least
  m0 : 0 ≤ A.most
  hops : ∀ h, Wy es r x d h → A.least ≤ h ∧ (h : Int) ≤ A.most
  lw : Wy es r x d A.least.toNat
  mw : Wy es r x d A.most.toNat
  np : A.next.Pairwise fun a b => a < b
  root : x = r → A = ⟨r, 0, 0, 0, []⟩
  nx : x ≠ r → ∀ y, y ∈ A.next ↔ Fs es r y x d
theorem fin_right {ns : List Int} {es : List Ed} {r : Int} {P : List (Int × Int)} {C : Nat → Int} (hok : graphOk ns es = true) (hr : r ∈ ns) (h : IsNear es r P) (hn : NdOk P) (hC : ∀ e ∈ told es P P, e ∈ es ∧ Ds es r e.2.1 (C e.2.1.toNat)) :
    ∀ (n : Nat) (x d : Int), d.toNat = n → x ∈ ns → Ds es r x d → Right es r x d (rchT r C (told es P P) x.toNat) := by
  have hp := graphOk_pos hok
  have hbd := graphOk_bd hok
  have h0 : ∀ n ∈ P, 0 ≤ n.1 := fun n h1 => by have := (hn.2 n h1).1; omega
  obtain ⟨hroot, hfin, _⟩ := fin_all (C := C) hok hr h hn
  intro n
  induction n using Nat.strongRecOn with
  | _ n ih =>
  intro x d hdn hx hd
  have hd0 := hd.nonneg hp
  by_cases hxr : x = r
  · subst hxr
    have h1 : d = 0 := hd.uniq (ds_root hp)
    subst h1
    rw [hroot]
    exact ⟨rfl, rfl, Int.le_refl 0, Int.le_refl 0, fun k hw => by have := (hw.pos hp).1; show (0 : Int) ≤ k ∧ (k : Int) ≤ 0; omega, Wy.refl _ _, Wy.refl _ _, by simp, fun _ => rfl, fun hne => absurd rfl hne⟩
  · obtain ⟨L, hL0, hL, hG⟩ := hfin x hx hxr ⟨d, hd⟩
    have hin : ∀ e ∈ L, ∃ d', e ∈ es ∧ e.2.1 = x ∧ Ds es r e.1 d' ∧ d = d' + e.2.2 ∧ Right es r e.1 d' (rchT r C (told es P P) e.1.toNat) := fun e he => by
      obtain ⟨h1, h2, d', h3, h4⟩ := (hL e).1 he
      have h5 := hd.uniq h4
      have h6 := hp e h1
      have h7 := h3.nonneg hp
      exact ⟨d', h1, h2, h3, h5, ih d'.toNat (by omega) e.1 d' rfl (hbd.2.1 e h1).1 h3⟩
    refine ⟨hG.node, ?_, ?_, ?_, fun k hw => ?_, ?_, ?_, hG.np, fun e => absurd e hxr, fun _ y => ?_⟩
    · rw [hG.cost]
      obtain ⟨e, he⟩ := List.exists_mem_of_ne_nil L hL0
      obtain ⟨h1, h2, d', h3, h4⟩ := (hL e).1 he
      have h5 := (hC e ((h.told_iff h0).2 ⟨h1, d', h3, by rw [h2]; exact h4⟩)).2
      rw [h2] at h5
      exact h5.uniq hd
    · obtain ⟨e, he, h1⟩ := hG.l2
      obtain ⟨d', _, _, _, _, hR⟩ := hin e he
      have := hR.l0
      omega
    · obtain ⟨e, he, h1⟩ := hG.m2
      obtain ⟨d', _, _, _, _, hR⟩ := hin e he
      have := hR.m0
      omega
    · rcases hw.last with ⟨h1, _⟩ | ⟨e, he, c', h', hw', h1, h2, h3⟩
      · exact absurd h1 hxr
      · obtain ⟨h4, h5⟩ := into_last hd he hw' h1 h2
        have h6 := (hL e).2 h4
        obtain ⟨d', _, _, h7, _, hR⟩ := hin e h6
        have h8 := h7.uniq h5
        rw [h8] at hR
        have h9 := hR.hops _ hw'
        have := hG.l1 e h6
        have := hG.m1 e h6
        omega
    · obtain ⟨e, he, h1⟩ := hG.l2
      obtain ⟨d', h2, h3, _, h5, hR⟩ := hin e he
      have h6 := hR.lw.step h2
      have := hR.l0
      rw [h3, ← h5, show (rchT r C (told es P P) e.1.toNat).least.toNat + 1 = (rchT r C (told es P P) x.toNat).least.toNat by omega] at h6
      exact h6
    · obtain ⟨e, he, h1⟩ := hG.m2
      obtain ⟨d', h2, h3, _, h5, hR⟩ := hin e he
      have h6 := hR.mw.step h2
      have := hR.m0
      rw [h3, ← h5, show (rchT r C (told es P P) e.1.toNat).most.toNat + 1 = (rchT r C (told es P P) x.toNat).most.toNat by omega] at h6
      exact h6
    · rw [hG.nx y]
      constructor
      · rintro ⟨e, he, hy⟩
        obtain ⟨d', h2, h3, h4, h5, hR⟩ := hin e he
        unfold nxE at hy
        by_cases her : e.1 = r
        · rw [if_pos her, List.mem_singleton] at hy
          have h6 : d' = 0 := by rw [her] at h4; exact h4.uniq (ds_root hp)
          refine ⟨e, h2, her, hy.symm, 0, ?_⟩
          rw [hy, h3, show d - e.2.2 = 0 by omega]
          exact Wy.refl _ _
        · rw [if_neg her] at hy
          obtain ⟨e1, g1, g2, g3, k, g4⟩ := (hR.nx her y).1 hy
          refine ⟨e1, g1, g2, g3, k + 1, ?_⟩
          have g5 := g4.step h2
          rw [h3, show d' - e1.2.2 + e.2.2 = d - e1.2.2 by omega] at g5
          exact g5
      · rintro ⟨e1, g1, g2, g3, k, g4⟩
        have hfirst : Wy es r y e1.2.2 1 := by
          have := Wy.one g1
          rw [g2, g3] at this
          exact this
        have hpe := hp e1 g1
        rcases g4.last with ⟨h1, h2, _⟩ | ⟨e, he, c', h', hw', h1, h2, h3⟩
        · have hI : Into es r x e1 := ⟨g1, by rw [g3, h1], 0, by rw [g2]; exact ds_root hp, by rw [show (0 : Int) + e1.2.2 = d by omega]; exact hd⟩
          refine ⟨e1, (hL e1).2 hI, ?_⟩
          unfold nxE
          rw [if_pos g2, List.mem_singleton, g3]
        · have hw2 := hfirst.trans hw'
          obtain ⟨hI, hDe⟩ := into_last hd he hw2 h1 (by omega)
          have h6 := (hL e).2 hI
          obtain ⟨d', _, _, h7, _, hR⟩ := hin e h6
          have h8 := h7.uniq hDe
          have hc' := (hw'.pos hp).1
          have her : e.1 ≠ r := fun e' => by
            rw [e'] at hDe
            have := hDe.uniq (ds_root hp)
            omega
          refine ⟨e, h6, ?_⟩
          unfold nxE
          rw [if_neg her]
          refine (hR.nx her y).2 ⟨e1, g1, g2, g3, h', ?_⟩
          rw [h8, show e1.2.2 + c' - e1.2.2 = c' by omega]
          exact hw'
end Go.Proofs.Ytabnecicidkmhaa
