/- header.Check. -/
import Derived.Test.YtjcbbifjhoemaaaDoorH3
import Derived.Lib.QuietBelow
import Derived.BigQuiet
import Derived.Deep.QuietTactic
namespace Go.Proofs.YtjcbbifjhoemaaaDoor
open Go.RowKit

/-- A header may be. -/
def OkH (W S H O G : Int) (N : Nat) : Prop := IsW W ∧ (bl N : Int) ≤ W ∧ (0 ≤ S ∧ S ≤ 127) ∧ (0 ≤ H ∧ H ≤ 15) ∧ (1 ≤ O ∧ O ≤ 24) ∧ (0 ≤ G ∧ G ≤ 7)

theorem wide_no_b (W : Int) (h : ¬ IsW W) (w : World) (ht : Wid w) : Calls Tryd.prog 20 #[.int .i64 W] w fun e w' => e = .returned (.bool false) ∧ Below w.heap.size w w' :=
  (wide_no W h w ht).mono fun _ _ ⟨he, hw⟩ => ⟨he, by rw [hw]; exact Below.refl _ _⟩
theorem wide_yes_b (W : Int) (h : IsW W) (w : World) (ht : Wid w) : Calls Tryd.prog 20 #[.int .i64 W] w fun e w' => e = .returned (.bool true) ∧ Below w.heap.size w w' :=
  (wide_yes W h w ht).mono fun _ _ ⟨he, hw⟩ => ⟨he, by rw [hw]; exact Below.refl _ _⟩
/-- The eleven cells of a header in a block. -/
structure HasHd (w : World) (b : Nat) (W S E H O G I : Int) (N : Nat) : Prop where
  c0 : w.cell? ⟨b, 0, none⟩ = some (.int .i64 W)
  c1 : w.cell? ⟨b, 1, none⟩ = some (.int .i64 S)
  c2 : w.cell? ⟨b, 2, none⟩ = some (.int .u32 E)
  c3 : w.cell? ⟨b, 3, none⟩ = some (.int .i64 H)
  c4 : w.cell? ⟨b, 4, none⟩ = some (.int .i64 O)
  c5 : w.cell? ⟨b, 5, none⟩ = some (.int .i64 G)
  c6 : w.cell? ⟨b, 6, none⟩ = some (.int .u32 I)
  c7 : w.cell? ⟨b, 7, none⟩ = some (.int .u64 (wd N 0))
  c8 : w.cell? ⟨b, 8, none⟩ = some (.int .u64 (wd N 1))
  c9 : w.cell? ⟨b, 9, none⟩ = some (.int .u64 (wd N 2))
  ca : w.cell? ⟨b, 10, none⟩ = some (.int .u64 (wd N 3))
  f0 : w.frozen? ⟨b, 0, none⟩ = false
  f1 : w.frozen? ⟨b, 1, none⟩ = false
  f2 : w.frozen? ⟨b, 2, none⟩ = false
  f3 : w.frozen? ⟨b, 3, none⟩ = false
  f4 : w.frozen? ⟨b, 4, none⟩ = false
  f5 : w.frozen? ⟨b, 5, none⟩ = false
  f6 : w.frozen? ⟨b, 6, none⟩ = false
  f7 : w.frozen? ⟨b, 7, none⟩ = false
  f8 : w.frozen? ⟨b, 8, none⟩ = false
  f9 : w.frozen? ⟨b, 9, none⟩ = false
  fa : w.frozen? ⟨b, 10, none⟩ = false
  lt : b < w.heap.size
theorem HasHd.keep {w w' : World} {b B : Nat} {W S E H O G I : Int} {N : Nat} (h : HasHd w b W S E H O G I N) (hb : Below B w w') (hB : b < B) : HasHd w' b W S E H O G I N :=
  ⟨(hb.cell (p := ⟨b, 0, none⟩) hB).trans h.c0, (hb.cell (p := ⟨b, 1, none⟩) hB).trans h.c1, (hb.cell (p := ⟨b, 2, none⟩) hB).trans h.c2, (hb.cell (p := ⟨b, 3, none⟩) hB).trans h.c3, (hb.cell (p := ⟨b, 4, none⟩) hB).trans h.c4, (hb.cell (p := ⟨b, 5, none⟩) hB).trans h.c5,
   (hb.cell (p := ⟨b, 6, none⟩) hB).trans h.c6, (hb.cell (p := ⟨b, 7, none⟩) hB).trans h.c7, (hb.cell (p := ⟨b, 8, none⟩) hB).trans h.c8, (hb.cell (p := ⟨b, 9, none⟩) hB).trans h.c9, (hb.cell (p := ⟨b, 10, none⟩) hB).trans h.ca,
   (hb.frozen (p := ⟨b, 0, none⟩) hB).trans h.f0, (hb.frozen (p := ⟨b, 1, none⟩) hB).trans h.f1, (hb.frozen (p := ⟨b, 2, none⟩) hB).trans h.f2, (hb.frozen (p := ⟨b, 3, none⟩) hB).trans h.f3, (hb.frozen (p := ⟨b, 4, none⟩) hB).trans h.f4, (hb.frozen (p := ⟨b, 5, none⟩) hB).trans h.f5, (hb.frozen (p := ⟨b, 6, none⟩) hB).trans h.f6, (hb.frozen (p := ⟨b, 7, none⟩) hB).trans h.f7, (hb.frozen (p := ⟨b, 8, none⟩) hB).trans h.f8, (hb.frozen (p := ⟨b, 9, none⟩) hB).trans h.f9, (hb.frozen (p := ⟨b, 10, none⟩) hB).trans h.fa, Nat.lt_of_lt_of_le h.lt hb.size⟩
theorem within_in {n a b : Int} (h1 : a ≤ n) (h2 : n ≤ b) : within n a b = n := by unfold within; omega
theorem within_out {n a b : Int} (hab : a ≤ b) (h : ¬ (a ≤ n ∧ n ≤ b)) : (n == within n a b) = false := by
  refine beq_eq_false_iff_ne.2 ?_
  unfold within
  omega
end Go.Proofs.YtjcbbifjhoemaaaDoor
