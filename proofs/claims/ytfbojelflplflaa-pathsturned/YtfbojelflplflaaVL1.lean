/- The chapter's example, as lists. -/
import Derived.Test.YtfbojelflplflaaVL0
namespace Go.Proofs.Ytfbojelflplflaa
open Go.RowKit

/-- Lists that rise and have the same numbers are one. -/
theorem rise_ext : ∀ {l m : List Int}, l.Pairwise (fun a b => a < b) → m.Pairwise (fun a b => a < b) → (∀ x, x ∈ l ↔ x ∈ m) → l = m
  | [], [], _, _, _ => rfl
  | [], b :: m, _, _, h => absurd ((h b).2 (by simp)) (by simp)
  | a :: l, [], _, _, h => absurd ((h a).1 (by simp)) (by simp)
  | a :: l, b :: m, hl, hm, h => by
    rw [List.pairwise_cons] at hl hm
    have h1 : a = b := by
      rcases List.mem_cons.1 ((h a).1 (by simp)) with h2 | h2
      · exact h2
      · rcases List.mem_cons.1 ((h b).2 (by simp)) with h3 | h3
        · exact h3.symm
        · have := hl.1 b h3; have := hm.1 a h2; omega
    subst h1
    rw [rise_ext hl.2 hm.2 (fun x => ?_)]
    constructor
    · intro hx
      rcases List.mem_cons.1 ((h x).1 (by simp [hx])) with h2 | h2
      · have := hl.1 x hx; omega
      · exact h2
    · intro hx
      rcases List.mem_cons.1 ((h x).2 (by simp [hx])) with h2 | h2
      · have := hm.1 x hx; omega
      · exact h2
/-- The example's links and edges. -/
def exL : List Ed := [(0, 1, 0), (0, 2, 0), (1, 3, 0), (2, 3, 0), (0, 3, 1)]
def exE : List Ed := [(1, 2, 1), (1, 3, 1), (1, 4, 2), (2, 1, 1), (2, 4, 1), (3, 1, 1), (3, 4, 1), (4, 1, 2), (4, 2, 1), (4, 3, 1)]
theorem ex_tab : tabE (tabT 4 exL) 4 4 = exE := by decide
theorem ex_ok : graphOk (tabN 4) exE = true := by decide
def exF (x : Int) : Int := if x = 1 then 0 else if x = 4 then 2 else 1
theorem ex_low {x c : Int} {h : Nat} (k : Wy exE 1 x c h) : exF x ≤ c :=
  k (fun x c _ => exF x ≤ c) (by decide) (fun e he c h hs => by
    simp only [exE, List.mem_cons, List.not_mem_nil, or_false] at he
    rcases he with rfl | rfl | rfl | rfl | rfl | rfl | rfl | rfl | rfl | rfl <;> simp [exF] at hs ⊢ <;> omega)
theorem ex_w2 : Wy exE 1 2 1 1 := Wy.one (e := (1, 2, 1)) (by decide)
theorem ex_w3 : Wy exE 1 3 1 1 := Wy.one (e := (1, 3, 1)) (by decide)
theorem ex_w4 : Wy exE 1 4 2 1 := Wy.one (e := (1, 4, 2)) (by decide)
theorem ex_w4' : Wy exE 1 4 2 2 := ex_w2.step (e := (2, 4, 1)) (by decide)
theorem ex_ds : Ds exE 1 1 0 ∧ Ds exE 1 2 1 ∧ Ds exE 1 3 1 ∧ Ds exE 1 4 2 :=
  ⟨⟨⟨_, Wy.refl _ _⟩, fun _ _ h => ex_low h⟩, ⟨⟨_, ex_w2⟩, fun _ _ h => ex_low h⟩, ⟨⟨_, ex_w3⟩, fun _ _ h => ex_low h⟩, ⟨⟨_, ex_w4⟩, fun _ _ h => ex_low h⟩⟩
theorem ex_from {l : List Rr} (h : IsFrom (tabN 4) exE 1 l) : ∃ a b c d, l = [a, b, c, d] ∧ d.cost = 2 ∧ d.least = 1 ∧ d.most = 2 ∧ d.next = [2, 3, 4] := by
  have hm : l.map (·.node) = [1, 2, 3, 4] := by
    refine rise_ext (List.pairwise_map.2 h.rise) (by decide) (fun x => ?_)
    constructor
    · intro hx
      obtain ⟨p, hp, rfl⟩ := List.mem_map.1 hx
      have h1 := tabN_mem.1 (h.right p hp).1
      have h2 : p.node = 1 ∨ p.node = 2 ∨ p.node = 3 ∨ p.node = 4 := by omega
      rcases h2 with h2 | h2 | h2 | h2 <;> rw [h2] <;> decide
    · intro hx
      have key : ∀ d, x ∈ tabN 4 → Ds exE 1 x d → x ∈ l.map (·.node) := fun d h1 h2 => by
        obtain ⟨p, hp, rfl⟩ := h.all x d h1 h2
        exact List.mem_map.2 ⟨p, hp, rfl⟩
      simp only [List.mem_cons, List.not_mem_nil, or_false] at hx
      rcases hx with rfl | rfl | rfl | rfl
      · exact key _ (by decide) ex_ds.1
      · exact key _ (by decide) ex_ds.2.1
      · exact key _ (by decide) ex_ds.2.2.1
      · exact key _ (by decide) ex_ds.2.2.2
  have hlen : l.length = 4 := by have := congrArg List.length hm; simpa using this
  obtain ⟨a, b, c, d, rfl⟩ : ∃ a b c d, l = [a, b, c, d] := by
    match l, hlen with
    | [a, b, c, d], _ => exact ⟨a, b, c, d, rfl⟩
  · simp only [List.map_cons, List.map_nil, List.cons.injEq, and_true] at hm
    obtain ⟨_, _, _, h4⟩ := hm
    obtain ⟨_, e, he, hR⟩ := h.right d (by simp)
    rw [h4] at he hR
    have h5 := he.uniq ex_ds.2.2.2
    subst h5
    have l1 := (hR.hops _ ex_w4).1
    have m1 := (hR.hops _ ex_w4').2
    have l0 := hR.l0
    have m0 := hR.m0
    have l2 : d.least.toNat ≠ 0 := fun e => by have := (hR.lw.zero e).1; omega
    have m2 := (hR.mw.pos (graphOk_pos ex_ok)).1
    refine ⟨a, b, c, d, rfl, hR.cost, by omega, by omega, rise_ext hR.np (by decide) (fun y => ?_)⟩
    rw [hR.nx (by omega) y]
    constructor
    · rintro ⟨e, he, h6, h7, _⟩
      simp only [exE, List.mem_cons, List.not_mem_nil, or_false] at he
      rcases he with rfl | rfl | rfl | rfl | rfl | rfl | rfl | rfl | rfl | rfl <;> simp at h6 h7 <;> subst h7 <;> simp
    · intro hy
      simp only [List.mem_cons, List.not_mem_nil, or_false] at hy
      rcases hy with rfl | rfl | rfl
      · exact ⟨(1, 2, 1), by decide, rfl, rfl, 1, Wy.one (e := (2, 4, 1)) (by decide)⟩
      · exact ⟨(1, 3, 1), by decide, rfl, rfl, 1, Wy.one (e := (3, 4, 1)) (by decide)⟩
      · exact ⟨(1, 4, 2), by decide, rfl, rfl, 0, Wy.refl _ _⟩
end Go.Proofs.Ytfbojelflplflaa
