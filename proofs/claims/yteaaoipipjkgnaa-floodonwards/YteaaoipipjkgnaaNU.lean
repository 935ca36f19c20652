/- Which blocks a store's records use. -/
import Derived.Test.YteaaoipipjkgnaaN0
namespace Go.Proofs.Yteaaoipipjkgnaa
open Go.RowKit Go.Maps

/-- A block of a slice that is not empty. -/
def UsB (u : Value) (b : Nat) : Prop := ∃ n c o, u = .slice (some ⟨b, o, none⟩) n c ∧ 0 < n
theorem SlAt.usB {α : Type} {cs : α → List Value} {sz : Nat} {w : World} {u : Value} {l : List α} {b : Nat} (h : SlAt cs sz w u l) (hu : UsB u b) : b < w.heap.size := by
  obtain ⟨n, c, o, rfl, hn⟩ := hu
  obtain ⟨a', cap', he, _, _, h6⟩ := h
  simp only [Value.slice.injEq] at he
  obtain ⟨rfl, rfl, rfl⟩ := he
  obtain ⟨bk, o', h7, h8, _⟩ := h6 hn
  cases h7
  exact h8
theorem SlAt.keepU {α : Type} {cs : α → List Value} {sz : Nat} {w w' : World} {u : Value} {l : List α} {T : Nat → Prop} (h : SlAt cs sz w u l) (hF : Fr T w w') (hT : ∀ b, UsB u b → ¬ T b) : SlAt cs sz w' u l := by
  obtain ⟨a, cap, rfl, h1, h2, h3⟩ := h
  refine ⟨_, _, rfl, h1, h2, fun hp => ?_⟩
  obtain ⟨bk, o, rfl, h4, h5⟩ := h3 hp
  exact ⟨bk, o, rfl, Nat.lt_of_lt_of_le h4 hF.size, fun j x hx i u hu => (World.cell?_of_block (a := ⟨bk, o + j * sz + i, none⟩) (hF.block bk h4 (hT bk ⟨_, _, _, rfl, hp⟩))).trans (h5 j x hx i u hu)⟩
theorem StAt.fr {w w' : World} {S M n : Nat} {f : Sf} {T : Nat → Prop} (h : StAt w S M n f) (hF : Fr T w w') (hS : ¬ T S) (hM : ¬ T M) (hT : ∀ k r u b, f k = some (r, u) → UsB u b → ¬ T b) : StAt w' S M n f :=
  ⟨(hF.block S (block_lt h.p) hS).trans h.p, h.m.keep hF hM, fun k r u hk => by
    obtain ⟨g1, g2, g3, g4⟩ := h.v k r u hk
    exact ⟨g1, g2, g3.keepU hF (fun b hb => hT k r u b hk hb), g4⟩⟩
/-- The block of neighbours holds two numbers beside each other. -/
theorem SlAt.adj2 {w : World} {u : Value} {l : List (Int × Int)} {b : Nat} (h : SlAt ac 2 w u l) (hu : UsB u b) : ∃ (o : Nat) (x y : Int), w.cell? ⟨b, o, none⟩ = some (.int .i64 x) ∧ w.cell? ⟨b, o + 1, none⟩ = some (.int .i64 y) := by
  obtain ⟨n, c, o, rfl, hn⟩ := hu
  obtain ⟨a', cap', he, _, _, h6⟩ := h.ads
  simp only [Value.slice.injEq] at he
  obtain ⟨rfl, rfl, rfl⟩ := he
  obtain ⟨bk, o', h7, _, h9⟩ := h6 hn
  cases h7
  obtain ⟨e, he⟩ : ∃ e, l[0]? = some e := ⟨l[0]'(by omega), List.getElem?_eq_getElem _⟩
  obtain ⟨g1, g2⟩ := h9 0 e he
  rw [Nat.zero_mul, Nat.add_zero] at g1 g2
  exact ⟨o, _, _, g1, g2⟩
theorem SlAt.noMap {w : World} {u : Value} {l : List (Int × Int)} {b M : Nat} (h : SlAt ac 2 w u l) (hu : UsB u b) (hM : ∃ es cl, w.heap[M]? = some (.map es cl)) : b ≠ M := fun e => by
  obtain ⟨o, x, y, h1, _⟩ := h.adj2 hu
  obtain ⟨es, cl, hm⟩ := hM
  subst e
  simp [World.cell?, hm] at h1
theorem rowTy {w : World} {base k size : Nat} {e : TypeId} {u : Value} {xs : List Value} (h : w.ownsRow base e size u k xs) {j : Nat} (hj : u.ownBlock = some j) : ∃ cur, w.heap[j]? = some (Obj.cells cur e) := by
  rcases h.2 with ⟨rfl, _⟩ | ⟨g, cap, cur, rfl, _, hh, _⟩
  · simp [Value.ownBlock] at hj
  · simp [Value.ownBlock] at hj
    subst hj
    exact ⟨cur, hh⟩
end Go.Proofs.Yteaaoipipjkgnaa
