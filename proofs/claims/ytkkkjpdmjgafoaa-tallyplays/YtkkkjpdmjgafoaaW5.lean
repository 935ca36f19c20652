/- A bit string in a block; bits.Of. -/
import Derived.Test.YtkkkjpdmjgafoaaC1
import Derived.Deep.RegionHeld3
import Derived.Deep.LoopGhost
namespace Go.Proofs.Ytkkkjpdmjgafoaa.Bi
open Go.RowKit

/-- The block b holds N's four words, and may be written. -/
structure HasBs (W : World) (b N : Nat) : Prop where
  c0 : W.cell? ⟨b, 0, none⟩ = some (.int .u64 (wd N 0))
  c1 : W.cell? ⟨b, 1, none⟩ = some (.int .u64 (wd N 1))
  c2 : W.cell? ⟨b, 2, none⟩ = some (.int .u64 (wd N 2))
  c3 : W.cell? ⟨b, 3, none⟩ = some (.int .u64 (wd N 3))
  f0 : W.frozen? ⟨b, 0, none⟩ = false
  f1 : W.frozen? ⟨b, 1, none⟩ = false
  f2 : W.frozen? ⟨b, 2, none⟩ = false
  f3 : W.frozen? ⟨b, 3, none⟩ = false
  lt : b < W.heap.size

theorem HasBs.keep {W W' : World} {b N B : Nat} (h : HasBs W b N) (hb : Below B W W') (hB : b < B) : HasBs W' b N :=
  ⟨(hb.cell (p := ⟨b, 0, none⟩) hB).trans h.c0, (hb.cell (p := ⟨b, 1, none⟩) hB).trans h.c1, (hb.cell (p := ⟨b, 2, none⟩) hB).trans h.c2, (hb.cell (p := ⟨b, 3, none⟩) hB).trans h.c3,
    (hb.frozen (p := ⟨b, 0, none⟩) hB).trans h.f0, (hb.frozen (p := ⟨b, 1, none⟩) hB).trans h.f1, (hb.frozen (p := ⟨b, 2, none⟩) hB).trans h.f2, (hb.frozen (p := ⟨b, 3, none⟩) hB).trans h.f3, Nat.lt_of_lt_of_le h.lt hb.size⟩

/-- The four stores of a whole bit string. -/
abbrev World.putBs (W : World) (b N : Nat) : World :=
  (((W.setCell ⟨b, 0, none⟩ (.int .u64 (wd N 0))).setCell ⟨b, 1, none⟩ (.int .u64 (wd N 1))).setCell ⟨b, 2, none⟩ (.int .u64 (wd N 2))).setCell ⟨b, 3, none⟩ (.int .u64 (wd N 3))

theorem HasBs.put {W : World} {b M : Nat} (h : HasBs W b M) (N : Nat) : HasBs (World.putBs W b N) b N := by
  obtain ⟨c0, c1, c2, c3, f0, f1, f2, f3, lt⟩ := h
  refine ⟨?_, ?_, ?_, ?_, ?_, ?_, ?_, ?_, ?_⟩
  all_goals simp [*, go_sem]
theorem below_put {B b N : Nat} {W0 W : World} (h : Below B W0 W) (hB : B ≤ b) : Below B W0 (World.putBs W b N) :=
  (((h.setCell (p := ⟨b, 0, none⟩) hB _).setCell (p := ⟨b, 1, none⟩) hB _).setCell (p := ⟨b, 2, none⟩) hB _).setCell (p := ⟨b, 3, none⟩) hB _
theorem hasBs_new (W : World) (N : Nat) : HasBs (W.alloc (.cells #[.int .u64 (wd N 0), .int .u64 (wd N 1), .int .u64 (wd N 2), .int .u64 (wd N 3)] 30)) W.heap.size N := by
  refine ⟨?_, ?_, ?_, ?_, ?_, ?_, ?_, ?_, ?_⟩
  all_goals simp [go_sem]

/-- What stands while a statement that reads the block b goes on: its words, and all that lay below b. -/
abbrev Held (W0 : World) (b X : Nat) (w : World) : Prop :=
  w.cell? ⟨b, 0, none⟩ = some (.int .u64 (wd X 0)) ∧ w.cell? ⟨b, 1, none⟩ = some (.int .u64 (wd X 1)) ∧ w.cell? ⟨b, 2, none⟩ = some (.int .u64 (wd X 2)) ∧ w.cell? ⟨b, 3, none⟩ = some (.int .u64 (wd X 3)) ∧
  w.frozen? ⟨b, 0, none⟩ = false ∧ w.frozen? ⟨b, 1, none⟩ = false ∧ w.frozen? ⟨b, 2, none⟩ = false ∧ w.frozen? ⟨b, 3, none⟩ = false ∧ b < w.heap.size ∧ Below b W0 w
theorem Held.of {W0 W : World} {b X : Nat} (h : HasBs W b X) (hb : Below b W0 W) : Held W0 b X W := ⟨h.c0, h.c1, h.c2, h.c3, h.f0, h.f1, h.f2, h.f3, h.lt, hb⟩
theorem Held.has {W0 W : World} {b X : Nat} (h : Held W0 b X W) : HasBs W b X ∧ Below b W0 W := by
  obtain ⟨c0, c1, c2, c3, f0, f1, f2, f3, lt, hb⟩ := h
  exact ⟨⟨c0, c1, c2, c3, f0, f1, f2, f3, lt⟩, hb⟩
theorem Held.keep {W0 W W' : World} {b X : Nat} (h : Held W0 b X W) (hb : Below W.heap.size W W') : Held W0 b X W' := by
  obtain ⟨h1, h2⟩ := h.has
  exact Held.of (h1.keep hb h1.lt) (h2.trans (hb.mono (Nat.le_of_lt h1.lt)))
theorem Held.drew {W0 W : World} {b X : Nat} (h : Held W0 b X W) : Held W0 b X W.drew := h.keep (Below.refl _ W).drew

theorem hidIn {p : Prop} (h : p) : Hid p := h

/-- The number of a list of bits. -/
def ofl (zs : List Int) : Nat := zs.foldl (fun a z => a ||| 2 ^ (z - 1).toNat) 0
/-- Are all bits? -/
def allBits (zs : List Int) : Prop := ∀ z ∈ zs, 1 ≤ z ∧ z ≤ 256
theorem ofl_snoc (zs : List Int) (z : Int) : ofl (zs ++ [z]) = ofl zs ||| 2 ^ (z - 1).toNat := by simp [ofl]

end Go.Proofs.Ytkkkjpdmjgafoaa.Bi
