/- Get, All, Stamps of a store. -/
import Derived.Test.YteaaoipipjkgnaaN2
namespace Go.Proofs.Yteaaoipipjkgnaa
open Go.RowKit Go.Maps

/-- New memory, or none. -/
def Fresh (w w' : World) (a : Option Addr) : Prop := ∀ p, a = some p → ∃ g, p = ⟨g, 0, none⟩ ∧ w.heap.size ≤ g ∧ ∃ cur, w'.heap[g]? = some (.cells cur 98)
theorem Fresh.keep {w w' w'' : World} {a : Option Addr} (h : Fresh w w' a) (hb : Below w'.heap.size w' w'') : Fresh w w'' a := fun p hp => by
  obtain ⟨g, h1, h2, cur, h3⟩ := h p hp
  exact ⟨g, h1, h2, cur, (hb.block _ (block_lt h3)).trans h3⟩
theorem Fresh.old {w0 w w' : World} {a : Option Addr} (h : Fresh w w' a) (hs : w0.heap.size ≤ w.heap.size) : Fresh w0 w' a := fun p hp => by
  obtain ⟨g, h1, h2, h3⟩ := h p hp
  exact ⟨g, h1, Nat.le_trans hs h2, h3⟩
theorem SlAt.fr {α : Type} {cs : α → List Value} {sz : Nat} {w w' : World} {a : Option Addr} {n cap : Nat} {l : List α} {T : Nat → Prop} (h : SlAt cs sz w (.slice a n cap) l) (hF : Fr T w w') (hT : ∀ p, a = some p → ¬ T p.block) : SlAt cs sz w' (.slice a n cap) l := by
  obtain ⟨a', cap', he, h1, h2, h3⟩ := h
  simp only [Value.slice.injEq] at he
  obtain ⟨rfl, rfl, rfl⟩ := he
  refine ⟨_, _, rfl, h1, h2, fun hp => ?_⟩
  obtain ⟨bk, o, rfl, h4, h5⟩ := h3 hp
  exact ⟨bk, o, rfl, Nat.lt_of_lt_of_le h4 hF.size, fun j x hx i u hu => (World.cell?_of_block (a := ⟨bk, o + j * sz + i, none⟩) (hF.block bk h4 (hT _ rfl))).trans (h5 j x hx i u hu)⟩
def GtAns (w w' : World) (o : Option (Rc × Value)) (e : Ending) : Prop := ∃ a c, e = .returned (.tuple #[recV (rOf o) (.slice a (rOf o).adjs.length c), .bool o.isSome]) ∧ SlAt ac 2 w' (.slice a (rOf o).adjs.length c) (rOf o).adjs ∧ NilOk (.slice a (rOf o).adjs.length c) ∧ Fresh w w' a
set_option maxRecDepth 100000 in
set_option maxHeartbeats 2000000 in
theorem sget_any {S M n : Nat} {f : Sf} {w : World} (h : StAt w S M n f) {k : Int} (hk : (Lit.int .i64 k).wf = true) :
    Calls Try.prog 46 #[ptr S, .int .i64 k] w fun e w' => GtAns w w' (f k) e ∧ Below w.heap.size w w' := by
  have h0 := h.slot
  have hS := h.lts.1
  have HT : Hid (∀ wq, Below w.heap.size w wq → Calls Try.prog 76 #[ptr S] wq fun e w' => e = .returned (.bool true) ∧ w' = wq) := hidIn fun wq hq => there_any (h.keep hq)
  have HL : Hid (∀ wq, Below w.heap.size w wq → (Instr.lookup 123 (.map (some M)) (.int .i64 k) true).run Try.prog wq = .ok (.tuple #[recV (rOf (f k)) (uOf (f k)), .bool (f k).isSome]) wq) := hidIn fun wq hq => by
    have := (h.keep hq).m.look hk
    rw [sV_get, sV_some] at this
    exact this
  obtain ⟨hu, hu16, _⟩ := h.u k
  obtain ⟨o, ho⟩ : ∃ o, f k = o := ⟨_, rfl⟩
  rw [ho] at hu hu16 HL ⊢
  have HC : Hid (∀ wq, Below w.heap.size w wq → Calls Try.prog 77 #[recV (rOf o) (uOf o)] wq fun e w' => CpAns wq w' (rOf o) e ∧ Below wq.heap.size wq w') := hidIn fun wq hq => copied_any (hu.keep hq (Nat.le_refl _)) (by omega)
  obtain ⟨ua, ucap, hue, hq⟩ := hu
  rw [hue] at HL HC
  obtain ⟨b, hb⟩ : ∃ b, o.isSome = b := ⟨_, rfl⟩
  obtain ⟨r, hr⟩ : ∃ r, rOf o = r := ⟨_, rfl⟩
  rw [hb, hr] at HL
  rw [hr] at HC
  have HE : Hid (∀ w' e, GtAns w w' o e ↔ ∃ a c, e = .returned (.tuple #[recV r (.slice a r.adjs.length c), .bool b]) ∧ SlAt ac 2 w' (.slice a r.adjs.length c) r.adjs ∧ NilOk (.slice a r.adjs.length c) ∧ Fresh w w' a) := hidIn fun w' e => by unfold GtAns; rw [hb, hr]
  clear h hk ho hue hq hu16 hb hr
  obtain ⟨ro, re, rs, rc, ri, l⟩ := r
  simp only at HL HC HE
  go_enter Try.func46, Try.ntmps46
  go_wp2_with fail
  refine (HT.out _ (by go_grown)).mono ?_
  rintro e w2 ⟨rfl, rfl⟩
  clear HT
  obtain ⟨nl, hnl⟩ : ∃ nl, l.length = nl := ⟨_, rfl⟩
  rw [hnl] at HL HC HE
  have Hnl := hidIn hnl
  clear hnl
  go_wp2_with (refine l_look rfl _ _ 123 true rfl (HL.out _ (by go_grown)) ?_)
  refine (HC.out _ (by go_grown)).mono ?_
  rintro e w2 ⟨⟨a, c, rfl, hs, hn, hf⟩, hb2⟩
  simp only at hs hn ⊢
  rw [Hnl.out] at hs hn ⊢
  have hz := (hb2.block w.heap.size (by simp; omega)).trans ((Below.heap_alloc _ _ _ (by simp)).trans (heap_alloc_last w _))
  have HB := hidIn ((((Below.refl _ w).alloc (Nat.le_refl _) _).alloc (by simp) _).trans (hb2.mono (by simp; omega)))
  have Hf : Hid (∀ p, a = some p → ∃ g, p = ⟨g, 0, none⟩ ∧ w.heap.size + 1 + 1 ≤ g ∧ ∃ cur, w2.heap[g]? = some (.cells cur 98)) := hidIn fun p hp => by
    obtain ⟨g, h1, h2, h3⟩ := hf p hp
    rw [World.size_alloc, World.size_alloc] at h2
    exact ⟨g, h1, h2, h3⟩
  have Hs := hidIn hs
  have Hn := hidIn hn
  have z0 := cell_of_row _ _ 0 _ _ _ hz
  have z1 := cell_of_row _ _ 1 _ _ _ hz
  have z2 := cell_of_row _ _ 2 _ _ _ hz
  have z3 := cell_of_row _ _ 3 _ _ _ hz
  have z4 := cell_of_row _ _ 4 _ _ _ hz
  have z5 := cell_of_row _ _ 5 _ _ _ hz
  have y0 := frozen_new hz 0
  have y1 := frozen_new hz 1
  have y2 := frozen_new hz 2
  have y3 := frozen_new hz 3
  have y4 := frozen_new hz 4
  have y5 := frozen_new hz 5
  simp at z0 z1 z2 z3 z4 z5
  clear hb2 h0 hs hn hf hz HC HL
  go_wp2_with fail
  refine bodyPost_ret (v := .tuple #[recV ⟨ro, re, rs, rc, ri, l⟩ (.slice a nl c), .bool b]) (by simp [results, Try.results46, asAddr, Result.andThen, go_sem, z0, z1, z2, z3, z4, z5]) rfl ⟨(HE.out _ _).2 ⟨a, c, rfl, ?_, Hn.out, ?_⟩, ?_⟩
  · have hF : Fr (fun k => k = w.heap.size) w2 (((((( w2.setCell ⟨w.heap.size, 0, none⟩ (.int .i64 ro)).setCell ⟨w.heap.size, 1, none⟩ (.int .u32 re)).setCell ⟨w.heap.size, 2, none⟩ (.int .u32 rs)).setCell ⟨w.heap.size, 3, none⟩ (.int .i64 rc)).setCell ⟨w.heap.size, 4, none⟩ (.bool ri)).setCell ⟨w.heap.size, 5, none⟩ (.slice a nl c)) := ((((((Fr.refl (fun k => k = w.heap.size) w2).set (p := ⟨w.heap.size, 0, none⟩) rfl _).set (p := ⟨w.heap.size, 1, none⟩) rfl _).set (p := ⟨w.heap.size, 2, none⟩) rfl _).set (p := ⟨w.heap.size, 3, none⟩) rfl _).set (p := ⟨w.heap.size, 4, none⟩) rfl _).set (p := ⟨w.heap.size, 5, none⟩) rfl _
    exact Hs.out.fr hF (fun p hp => by
      obtain ⟨g, rfl, h2, _⟩ := Hf.out p hp
      show ¬ g = w.heap.size
      omega)
  · intro p hp
    obtain ⟨g, rfl, h2, cur, h3⟩ := Hf.out p hp
    refine ⟨g, rfl, by omega, cur, ?_⟩
    rw [Below.heap_setCell _ _ _ _ (by show g ≠ w.heap.size; omega), Below.heap_setCell _ _ _ _ (by show g ≠ w.heap.size; omega), Below.heap_setCell _ _ _ _ (by show g ≠ w.heap.size; omega), Below.heap_setCell _ _ _ _ (by show g ≠ w.heap.size; omega), Below.heap_setCell _ _ _ _ (by show g ≠ w.heap.size; omega), Below.heap_setCell _ _ _ _ (by show g ≠ w.heap.size; omega)]
    exact h3
  · exact (((((HB.out.setCell (p := ⟨w.heap.size, 0, none⟩) (Nat.le_refl _) _).setCell (p := ⟨w.heap.size, 1, none⟩) (Nat.le_refl _) _).setCell (p := ⟨w.heap.size, 2, none⟩) (Nat.le_refl _) _).setCell (p := ⟨w.heap.size, 3, none⟩) (Nat.le_refl _) _).setCell (p := ⟨w.heap.size, 4, none⟩) (Nat.le_refl _) _).setCell (p := ⟨w.heap.size, 5, none⟩) (Nat.le_refl _) _
end Go.Proofs.Yteaaoipipjkgnaa
