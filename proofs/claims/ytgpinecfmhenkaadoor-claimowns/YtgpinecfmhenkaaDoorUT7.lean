/- What the program and the document tell of an owner, beside each other. -/
import Derived.Test.YtgpinecfmhenkaaDoorUT6
import Derived.Test.YtgpinecfmhenkaaDoorUM
namespace Go.Proofs.YtgpinecfmhenkaaDoor
open Go.RowKit

theorem tOf_none {L : List Cl} {id : Int} (h : tOf (cls L) id = none) : clOf L id = none := by
  have := clOf_cls L id
  rw [h] at this
  simpa using this
theorem tOf_some {L : List Cl} {id : Int} {p : Int × List Int} (h : tOf (cls L) id = some p) : ∃ x, clOf L id = some x ∧ x.1 = p.1 ∧ x.2.1 = p.2 ∧ x ∈ L ∧ x.1 = id := by
  have := clOf_cls L id
  rw [h] at this
  obtain ⟨x, hx, he⟩ := Option.map_eq_some_iff.1 this
  exact ⟨x, hx, by rw [← he], by rw [← he], List.mem_of_find?_eq_some hx, by simpa using List.find?_some hx⟩
theorem ClsAt.shapes {w : World} {u : Value} {L : List Cl} (h : ClsAt w u L) : ∀ x ∈ L, ∃ a n c, x.2.2 = .slice a n c := fun x hx => by
  obtain ⟨a, c, h1, _⟩ := (h.a x hx).1
  exact ⟨a, _, c, h1⟩
/-- Both answers of Owner. -/
def OwnB (w w' : World) (L : List Cl) (id : Int) (e : Ending) : Prop :=
  (∃ b k, e = .returned (.tuple #[.int .i64 0, rfs (pfa b)]) ∧ (k = 2 ∨ k = 6) ∧ w'.heap[b]? = some (.cells #[.int .i64 k, .int .i64 0] 62) ∧ dOw L id = (0, k, 0, nilS)) ∨
  (∃ (y x : Int) (a : Option Addr) (n c : Nat), e = .returned (.tuple #[.int .i64 y, .nilIface]) ∧ dOw L id = (y, 0, x, .slice a n c)) ∨
  (∃ (c : Nat) (u v : Value) (xs : List Int), e = .returned (.tuple #[.int .i64 0, rfs (pcf c)]) ∧ w'.heap[c]? = some (.cells #[.int .i64 id, u] 54) ∧ w'.ownsRow w.heap.size 3 1 u xs.length (fl ic xs) ∧ dOw L id = (0, 11, id, v) ∧ (id, xs, v) ∈ L)
theorem OwnrT.both {w w' : World} {L : List Cl} {T : List (Int × List Int)} {id : Int} {e : Ending} (hL : ∀ x ∈ L, ∃ a n c, x.2.2 = .slice a n c) (hT : cls L = T) (h : OwnrT w w' T id e) : OwnB w w' L id e := by
  subst hT
  rcases h with ⟨h1, b, h2, _, h3⟩ | ⟨h1, h2, b, h3, _, h4⟩ | ⟨h1, p, h2, h3⟩
  · exact .inl ⟨b, 2, h2, .inl rfl, h3, dOw_no h1⟩
  · exact .inl ⟨b, 6, h3, .inr rfl, h4, dOw_none h1 (tOf_none h2)⟩
  · obtain ⟨⟨xi, xl, xv⟩, hx, hx1, hx2, hxm, hxi⟩ := tOf_some h2
    simp only at hx1 hx2 hxi
    subst hxi hx2
    rcases h3 with ⟨h0, b, h4, _, h5⟩ | ⟨y, h0, h4⟩ | ⟨h0, c, u, h4, _, h5, h6⟩
    · exact .inl ⟨b, 6, h4, .inr rfl, h5, dOw_nil h1 hx (by rw [h0]; rfl)⟩
    · obtain ⟨a, n, c, hv⟩ := hL _ hxm
      simp only at hv
      subst hv
      exact .inr (.inl ⟨y, _, a, n, c, h4, dOw_one h1 hx h0⟩)
    · exact .inr (.inr ⟨c, u, xv, _, h4, h5, h6, dOw_two h1 hx h0, hxm⟩)
/-- Both answers of Mine. -/
def MinB (w w' : World) (L : List Cl) (self : Int) (e : Ending) : Prop :=
  (∃ (y x : Int) (a : Option Addr) (n c : Nat), e = .returned (.tuple #[.int .i64 y, .nilIface]) ∧ dMn L self = (y, false, x, .slice a n c)) ∨
  (∃ (c : Nat) (id : Int) (u v : Value) (xs : List Int), e = .returned (.tuple #[.int .i64 0, rfs (pcf c)]) ∧ w'.heap[c]? = some (.cells #[.int .i64 id, u] 54) ∧ w'.ownsRow w.heap.size 3 1 u xs.length (fl ic xs) ∧ dMn L self = (0, true, id, v) ∧ (id, xs, v) ∈ L)
theorem MineT.both {w w' : World} {L : List Cl} {T : List (Int × List Int)} {self : Int} {e : Ending} (hL : ∀ x ∈ L, ∃ a n c, x.2.2 = .slice a n c) (hT : cls L = T) (h : MineT w w' T self e) : MinB w w' L self e := by
  have hl := lstT_of hT self
  unfold MinB dMn
  rcases h with ⟨h1, h2⟩ | ⟨p, y, h1, h2, h3⟩ | ⟨p, h1, h2, c, u, h3, _, h4, h5⟩
  · rw [h1] at hl
    have : lstO L self = none := by simpa using hl.symm
    rw [this]
    exact .inl ⟨0, 0, none, 0, 0, h2, rfl⟩
  · rw [h1] at hl
    obtain ⟨⟨xi, xl, xv⟩, hx, he⟩ := Option.map_eq_some_iff.1 hl.symm
    rw [hx]
    rw [← he] at h2 h3
    simp only at h2 h3
    obtain ⟨a, n, c, hv⟩ := hL _ (lstO_has hx).1
    simp only at hv
    subst hv
    refine .inl ⟨xi, xi, a, n, c, h3, ?_⟩
    simp only
    rw [if_neg (by rw [h2]; simp)]
  · rw [h1] at hl
    obtain ⟨⟨xi, xl, xv⟩, hx, he⟩ := Option.map_eq_some_iff.1 hl.symm
    rw [hx]
    rw [← he] at h2 h4 h5
    simp only at h2 h4 h5
    refine .inr ⟨c, xi, u, xv, xl, h3, h4, h5, ?_, (lstO_has hx).1⟩
    simp only
    rw [if_pos h2]
end Go.Proofs.YtgpinecfmhenkaaDoor
