/- The heap and the list beside it, as dandelionlaw05.HeapPlays keeps them. -/
import Derived.Test.YtndiafbldgbplaaJU
namespace Go.Proofs.Ytndiafbldgbplaa
open Go.RowKit

theorem row_less5 {w : World} {b b' : Nat} {e : TypeId} {size k : Nat} {v : Value} {xs : List Value} (hr : w.ownsRow b e size v k xs) (h : b' ≤ b) : w.ownsRow b' e size v k xs := by
  refine ⟨hr.1, ?_⟩
  rcases hr.2 with ⟨rfl, rfl⟩ | ⟨g', cap', cur, rfl, hb, hh⟩
  · exact .inl ⟨rfl, rfl⟩
  · exact .inr ⟨g', cap', cur, rfl, by omega, hh⟩
/-- A heap at s, and a list of what was pushed and not yet popped, in the order of the pushes. (The heap may be one ahead: it has l, the list q.) -/
def Half (s : Nat) (w wr : World) (x4 : Value) (q l : List Th) (p : Nat) : Prop :=
  ∃ vt es, HpM wr s s vt es (p : Int) ∧ Sim es l (p : Int) ∧ wr.ownsRow s 26 2 x4 q.length (tcs q) ∧ (∀ j, x4.ownBlock = some j → ¬ own s vt j) ∧ Below s w wr
theorem Half.below {s : Nat} {w wr w1 : World} {x4 : Value} {q l : List Th} {p : Nat} (h : Half s w wr x4 q l p) (hb : Below wr.heap.size wr w1) : Half s w w1 x4 q l p := by
  obtain ⟨vt, es, h1, h2, h3, h4, h5⟩ := h
  exact ⟨vt, es, h1.below hb (Nat.le_refl _), h2, row_fr (S := fun _ => False) h3 (Fr.of_below hb) (fun _ _ h => h), h4, h5.trans (hb.mono (by have := h1.lt; omega))⟩
theorem Half.alloc {s : Nat} {w wr : World} {x4 : Value} {q l : List Th} {p : Nat} (h : Half s w wr x4 q l p) (o : Obj) : Half s w (wr.alloc o) x4 q l p := h.below ((Below.refl _ wr).alloc (Nat.le_refl _) o)
theorem Half.drewN {s : Nat} {w wr : World} {x4 : Value} {q l : List Th} {p : Nat} (h : Half s w wr x4 q l p) (n : Nat) : Half s w (wr.drewN n) x4 q l p := h.below (below_drewN (Below.refl _ wr) n)
theorem Half.lenq {s : Nat} {w wr : World} {x4 : Value} {q l : List Th} {p : Nat} (h : Half s w wr x4 q l p) : Calls Try.prog 15 #[.pointer (some ⟨s, 0, none⟩)] wr fun e w' => e = .returned (.int .i64 l.length) ∧ w' = wr := by
  obtain ⟨vt, es, h1, h2, h3, h4, h5⟩ := h
  have := len_ok h1
  rw [h2.length] at this
  exact this
theorem Half.push {s : Nat} {w wr : World} {x4 : Value} {q : List Th} {p : Nat} (h : Half s w wr x4 q q p) (x : Th) (hq : q.length ≤ p) (hp : p < 900) :
    Calls Try.prog 11 #[.pointer (some ⟨s, 0, none⟩), thV x] wr fun e w2 => e = .returned (.bool true) ∧ Below s w w2 ∧ ∃ g cap6 w6, (Builtin.append_ #[28, 28] 28 #[x4, .slice (some ⟨w2.heap.size, 0, none⟩) 1 1]).run Try.prog (w2.alloc (.cells #[.int .i64 x.1, .int .i64 x.2] 26)) = .ok (.slice (some ⟨g, 0, none⟩) (q.length + 1) cap6) w6 ∧
      Half s w w6 (.slice (some ⟨g, 0, none⟩) (q.length + 1) cap6) (q ++ [x]) (q ++ [x]) (p + 1) := by
  obtain ⟨vt, es, h1, h2, h3, h4, h5⟩ := h
  have hlen := h2.length
  refine (push_ok x h1 (by omega) (by omega) (by omega)).mono ?_
  rintro e w2 ⟨he, ⟨v2, k1, k2⟩, hF⟩
  have hs : ∀ j, x4.ownBlock = some j → ¬ own s v2 j := fun j hj h => by
    rcases k2 with k2 | k2
    · exact h4 j hj ((own_eq k2).1 h)
    · rcases h with h | h
      · exact h4 j hj (.inl h)
      · have := k2 j h; have := (h3.lt j hj).2; omega
  have hrow := row_fr h3 hF h4
  have hb2 := h5.trans (hF.below (B := s) (Nat.le_of_lt h1.lt) (fun j hj => (h1.own_ge hj).1))
  obtain ⟨g, cap6, w6, hrun, hown, hlie, hgrow⟩ := append_thing hrow x (by omega) (Nat.le_trans (by have := h1.lt; omega) hF.size)
  refine ⟨he, hb2, g, cap6, w6, hrun, v2, _, ?_, h2.push x, ?_, fun j hj h => ?_, hb2.grown hgrow (Nat.le_trans (by have := h1.lt; omega) hF.size) (fun j hj => (h3.lt j hj).1)⟩
  · have := k1.grown hgrow hs
    rw [show ((p + 1 : Nat) : Int) = (p : Int) + 1 from by omega]
    exact this
  · rw [List.length_append, List.length_singleton, tcs_snoc]
    exact hown
  · simp [Value.ownBlock] at hj
    subst hj
    rcases hlie with h6 | h6
    · exact hs _ h6 h
    · have := (k1.own_ge h).2; omega
theorem Half.pop {s : Nat} {w wr : World} {x4 : Value} {q : List Th} {p m : Nat} (h : Half s w wr x4 q q p) (hq : q.length ≤ 900) (hm : IsLeast q m) :
    ∃ y, q[m]? = some y ∧ Calls Try.prog 12 #[.pointer (some ⟨s, 0, none⟩)] wr fun e w2 => e = .returned (.tuple #[thV y, .bool true]) ∧ Half s w w2 x4 q (q.eraseIdx m) p := by
  obtain ⟨vt, es, h1, h2, h3, h4, h5⟩ := h
  have hlen := h2.length
  obtain ⟨_, hy, _⟩ := hm
  have hml := (List.getElem?_eq_some_iff.1 hy).1
  obtain ⟨a, ha⟩ : ∃ a, es[0]? = some a := ⟨es[0]'(by omega), List.getElem?_eq_getElem _⟩
  obtain ⟨hy2, hsim⟩ := h2.pop ha ⟨_, hy, by assumption⟩
  refine ⟨a.1, hy2, (pop_ok h1 (by omega) ha).mono ?_⟩
  rintro e w2 ⟨he, ⟨v2, k1, k2⟩, hF⟩
  refine ⟨he, v2, _, k1, hsim, row_fr h3 hF h4, fun j hj h => h4 j hj ((own_eq k2).1 h), h5.trans (hF.below (B := s) (Nat.le_of_lt h1.lt) (fun j hj => (h1.own_ge hj).1))⟩
theorem Half.peek {s : Nat} {w wr : World} {x4 : Value} {q : List Th} {p m : Nat} (h : Half s w wr x4 q q p) (hm : IsLeast q m) :
    ∃ y, q[m]? = some y ∧ Calls Try.prog 14 #[.pointer (some ⟨s, 0, none⟩)] wr fun e w2 => e = .returned (.tuple #[thV y, .bool true]) ∧ Half s w w2 x4 q q p := by
  have hh := h
  obtain ⟨vt, es, h1, h2, h3, h4, h5⟩ := h
  have hlen := h2.length
  obtain ⟨_, hy, _⟩ := hm
  have hml := (List.getElem?_eq_some_iff.1 hy).1
  obtain ⟨a, ha⟩ : ∃ a, es[0]? = some a := ⟨es[0]'(by omega), List.getElem?_eq_getElem _⟩
  obtain ⟨hy2, _⟩ := h2.pop ha ⟨_, hy, by assumption⟩
  refine ⟨a.1, hy2, (peek_ok h1 ha).mono ?_⟩
  rintro e w2 ⟨he, hb⟩
  exact ⟨he, hh.below hb⟩
theorem Half.none {s : Nat} {w wr : World} {x4 : Value} {p : Nat} (h : Half s w wr x4 [] [] p) :
    (Calls Try.prog 14 #[.pointer (some ⟨s, 0, none⟩)] wr fun e w2 => e = .returned (.tuple #[thV (0, 0), .bool false]) ∧ Half s w w2 x4 [] [] p) ∧
    (Calls Try.prog 12 #[.pointer (some ⟨s, 0, none⟩)] wr fun e w2 => e = .returned (.tuple #[thV (0, 0), .bool false]) ∧ Half s w w2 x4 [] [] p) := by
  have hh := h
  obtain ⟨vt, es, h1, h2, h3, h4, h5⟩ := h
  obtain rfl := List.length_eq_zero_iff.1 h2.length
  exact ⟨(peek_none h1).mono fun e w2 ⟨he, hb⟩ => ⟨he, hh.below hb⟩, (pop_none h1).mono fun e w2 ⟨he, hb⟩ => ⟨he, hh.below hb⟩⟩
theorem Half.without {s : Nat} {w wr : World} {x4 : Value} {q : List Th} {p m : Nat} (h : Half s w wr x4 q (q.eraseIdx m) p) (hm : m < q.length) (hq : q.length ≤ 900) :
    Calls Try.prog 13 #[x4, .int .i64 m] wr fun e w2 => ∃ ua ucap, e = .returned (.slice ua (q.eraseIdx m).length ucap) ∧ Half s w w2 (.slice ua (q.eraseIdx m).length ucap) (q.eraseIdx m) (q.eraseIdx m) p := by
  obtain ⟨vt, es, h1, h2, h3, h4, h5⟩ := h
  have hlen := h2.length
  have hel : (q.eraseIdx m).length = q.length - 1 := by rw [List.length_eraseIdx]; simp [hm]
  refine (without_ok (thsAt_of_row h3 rfl) hm (by omega) (row_cap h3)).mono ?_
  rintro e w2 ⟨⟨u, rfl, hr⟩, hb⟩
  rw [← hel] at hr
  obtain ⟨ua, ucap, rfl⟩ := row_shape5 hr
  refine ⟨ua, ucap, rfl, vt, es, h1.below hb (Nat.le_refl _), h2, row_less5 hr (by have := h1.lt; omega), fun j hj h => ?_, h5.trans (hb.mono (by have := h1.lt; omega))⟩
  have := (hr.lt j hj).1
  have := (h1.own_ge h).2
  omega
end Go.Proofs.Ytndiafbldgbplaa
