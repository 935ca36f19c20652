/- bits.Each: the iterator tells the bits, rising. -/
import Derived.Test.YtmdpbohepdblcaaDoorE1
import Derived.Test.YtmdpbohepdblcaaDoorQ1
import Derived.Test.YtmdpbohepdblcaaDoorW5
namespace Go.Proofs.YtmdpbohepdblcaaDoor
open Go.RowKit Go.Shelf

attribute [local go_sem] Oper.semAt_some

/-- The number that four cells of a block hold, read off the world. -/
def cellNat (w : World) (b o : Nat) : Nat := match w.cell? ⟨b, o, none⟩ with | some (.int _ z) => z.toNat | _ => 0
def restOf (b : Nat) (w : World) : Nat := ofw (cellNat w b 0) (cellNat w b 1) (cellNat w b 2) (cellNat w b 3)
theorem restOf_eq {w : World} {b X : Nat} (hX : X < 2 ^ 256) (h : HasBs w b X) : restOf b w = X := by
  have e : restOf b w = ofw (wd X 0) (wd X 1) (wd X 2) (wd X 3) := by
    unfold restOf cellNat
    simp only [h.c0, h.c1, h.c2, h.c3, Int.toNat_natCast]
  rw [e]
  have b0 := wd_lt X 0
  have b1 := wd_lt X 1
  have b2 := wd_lt X 2
  have b3 := wd_lt X 3
  exact ext_wd (ofw_lt _ _ _ _ b0 b1 b2 b3) hX (wd_ofw0 _ _ _ _ b0) (wd_ofw1 _ _ _ _ b0 b1) (wd_ofw2 _ _ _ _ b0 b1 b2) (wd_ofw3 _ _ _ _ b0 b1 b2 b3)

theorem grown_below {w w' : World} (h : Below w.heap.size w w') (q : Nat) : w.grownBy w' (some q) := ⟨h.os, h.tape, h.output, h.size, fun k hk _ => h.block k hk⟩
theorem grown_put (w : World) (b N : Nat) : w.grownBy (World.putBs w b N) (some b) := by
  have h : ∀ (W : World) (o : Nat) (v : Value), W.grownBy (W.setCell ⟨b, o, none⟩ v) (some b) := fun W o v =>
    ⟨rfl, rfl, rfl, by simp, fun k _ hk => Below.heap_setCell W ⟨b, o, none⟩ v k (fun e => hk (by rw [e]))⟩
  have t : ∀ {A B C : World}, A.grownBy B (some b) → B.grownBy C (some b) → A.grownBy C (some b) := fun h1 h2 =>
    ⟨h2.os.trans h1.os, h2.tape.trans h1.tape, h2.output.trans h1.output, Nat.le_trans h1.size h2.size, fun k hk hn => (h2.block k (Nat.lt_of_lt_of_le hk h1.size) hn).trans (h1.block k hk hn)⟩
  exact t (t (t (h _ 0 _) (h _ 1 _)) (h _ 2 _)) (h _ 3 _)
theorem HasBs.at {w w' : World} {b N : Nat} (h : HasBs w b N) (hk : KeepsAt b w w') : HasBs w' b N :=
  ⟨(World.cell?_of_block (a := ⟨b, 0, none⟩) hk.1).trans h.c0, (World.cell?_of_block (a := ⟨b, 1, none⟩) hk.1).trans h.c1, (World.cell?_of_block (a := ⟨b, 2, none⟩) hk.1).trans h.c2, (World.cell?_of_block (a := ⟨b, 3, none⟩) hk.1).trans h.c3,
   (World.frozen?_of_block (a := ⟨b, 0, none⟩) hk.1).trans h.f0, (World.frozen?_of_block (a := ⟨b, 1, none⟩) hk.1).trans h.f1, (World.frozen?_of_block (a := ⟨b, 2, none⟩) hk.1).trans h.f2, (World.frozen?_of_block (a := ⟨b, 3, none⟩) hk.1).trans h.f3, Nat.lt_of_lt_of_le h.lt hk.2⟩

end Go.Proofs.YtmdpbohepdblcaaDoor
