/- A store made, asked for a record. -/
import Derived.Test.YteaaoipipjkgnaaN1
namespace Go.Proofs.Yteaaoipipjkgnaa
open Go.RowKit Go.Maps

abbrev ptr (S : Nat) : Value := .pointer (some ⟨S, 0, none⟩)
def rc0 : Rc := ⟨0, 0, 0, 0, false, []⟩
def rOf (o : Option (Rc × Value)) : Rc := (o.map (·.1)).getD rc0
def uOf (o : Option (Rc × Value)) : Value := (o.map (·.2)).getD (.slice none 0 0)
theorem sV_get (f : Sf) (k : Int) : (sV f k).getD noRec = recV (rOf (f k)) (uOf (f k)) := by
  unfold sV rOf uOf
  cases f k <;> rfl
theorem sV_some (f : Sf) (k : Int) : (sV f k).isSome = (f k).isSome := by
  unfold sV
  cases f k <;> rfl
theorem StAt.u {w : World} {S M n : Nat} {f : Sf} (h : StAt w S M n f) (k : Int) : SlAt ac 2 w (uOf (f k)) (rOf (f k)).adjs ∧ (rOf (f k)).adjs.length ≤ 16 ∧ NilOk (uOf (f k)) ∧ 0 ≤ (rOf (f k)).epoch ∧ 0 ≤ (rOf (f k)).seq := by
  cases hk : f k with
  | none => exact ⟨⟨none, 0, rfl, by simp [rOf, rc0], by simp [rOf, rc0], fun h => by simp [rOf, rc0] at h⟩, by simp [rOf, rc0], .inr rfl, by simp [rOf, rc0], by simp [rOf, rc0]⟩
  | some p =>
    obtain ⟨r, u⟩ := p
    obtain ⟨h1, _, h3, h4, h5, h6⟩ := h.v k r u hk
    exact ⟨h3, (recOk_parts h1).2.1, h4, h5, h6⟩
theorem StAt.slot {w : World} {S M n : Nat} {f : Sf} (h : StAt w S M n f) : w.cell? ⟨S, 0, none⟩ = some (.map (some M)) := cell_of_row _ _ 0 _ _ _ h.p
theorem l_look {P : Program} {ops : Array Oper} {rest : List Oper} {o : Oper} {a : Act} {w : World} {v : Value} {Q : Exit → Act → World → Prop}
    (hg : o.guard = none) (m x : Operand) (t : TypeId) (c : Bool) (hop : o.op = Op.lookup t m x c)
    (hrun : (Instr.lookup t (a.eval m) (a.eval x) c).run P w = .ok v w) (h : wpList P ops Q rest (a.put o.dst v) w) : wpList P ops Q (o :: rest) a w := by
  refine wpList_plain hg fun K hK => ?_
  unfold Oper.wp
  simp [execOp, hop, hrun, Result.andThen]
  exact hK _ _ h
theorem neqM (M : Nat) (w : World) : (binOp BinOp.neq 123 (.map (some M)) (.map none)).run Try.prog w = .ok (.bool true) w := by kernel_rfl
theorem makeM (w : World) : (Instr.makeMap 123 none).run Try.prog w = .ok (.map (some w.heap.size)) (w.alloc (.map #[] 0)) := by kernel_rfl
set_option maxRecDepth 100000 in
theorem snew_any (w : World) : Calls Try.prog 32 #[] w fun e w' => (∃ S M, e = .returned (ptr S) ∧ StAt w' S M 0 (fun _ => none) ∧ w.heap.size ≤ S ∧ w.heap.size ≤ M) ∧ Below w.heap.size w w' := by
  have hm := makeM
  go_enter Try.func32, Try.ntmps32
  go_wp2_with fail
  go_ret
  have h1 := heap_alloc_last (w.alloc (.map #[] 0)) (.cells #[.map (some w.heap.size)] 125)
  rw [World.size_alloc] at h1
  exact ⟨⟨_, w.heap.size, rfl, ⟨h1, (mpAt_new w).keep (T := fun _ => False) (Fr.of_below ((Below.refl _ _).alloc (Nat.le_refl _) _)) (fun h => h), fun k r u h => by cases h⟩, by omega, Nat.le_refl _⟩, ((Below.refl _ w).alloc (Nat.le_refl _) _).alloc (by simp) _⟩
set_option maxRecDepth 100000 in
theorem there_any {S M n : Nat} {f : Sf} {w : World} (h : StAt w S M n f) : Calls Try.prog 76 #[ptr S] w fun e w' => e = .returned (.bool true) ∧ w' = w := by
  have h0 := h.slot
  have hn := neqM M
  clear h
  go_enter Try.func76, Try.ntmps76
  go_wp2_with fail
  go_ret
  exact ⟨rfl, rfl⟩
set_option maxRecDepth 100000 in
set_option maxHeartbeats 1000000 in
theorem sstamp_any {S M n : Nat} {f : Sf} {w : World} (h : StAt w S M n f) {k : Int} (hk : (Lit.int .i64 k).wf = true) :
    Calls Try.prog 78 #[ptr S, .int .i64 k] w fun e w' => e = .returned (stV (rOf (f k)).origin (rOf (f k)).epoch (rOf (f k)).seq) ∧ Below w.heap.size w w' := by
  have h0 := h.slot
  have hS := h.lts.1
  have HL : Hid (∀ wq, Below w.heap.size w wq → (Instr.lookup 123 (.map (some M)) (.int .i64 k) false).run Try.prog wq = .ok (recV (rOf (f k)) (uOf (f k))) wq) := hidIn fun wq hq => by
    have := (h.keep hq).m.look1 hk
    rw [sV_get] at this
    exact this
  have hu := (h.u k).1
  obtain ⟨r, hr⟩ : ∃ r, rOf (f k) = r := ⟨_, rfl⟩
  rw [hr] at hu HL ⊢
  obtain ⟨ua, ucap, hue, hq⟩ := hu
  rw [hue] at HL
  clear hq
  clear h hk hr hue
  go_enter Try.func78, Try.ntmps78
  go_wp2_with (refine l_look rfl _ _ 123 false rfl (HL.out _ (by go_grown)) ?_)
  refine (stamp_any _ _ _ _ _).mono ?_
  rintro e w2 ⟨rfl, hb2⟩
  have hz := (hb2.block w.heap.size (by simp)).trans (heap_alloc_last w _)
  have HB := hidIn (((Below.refl _ w).alloc (Nat.le_refl _) _).trans (hb2.mono (by simp)))
  have z0 := cell_of_row _ _ 0 _ _ _ hz
  have z1 := cell_of_row _ _ 1 _ _ _ hz
  have z2 := cell_of_row _ _ 2 _ _ _ hz
  have y0 := frozen_new hz 0
  have y1 := frozen_new hz 1
  have y2 := frozen_new hz 2
  simp at z0 z1 z2
  clear hb2 h0
  go_wp2_with fail
  refine bodyPost_ret (v := stV r.origin r.epoch r.seq) (by simp [results, Try.results78, asAddr, Result.andThen, go_sem, z0, z1, z2]) rfl ⟨rfl, ?_⟩
  exact ((HB.out.setCell (p := ⟨w.heap.size, 0, none⟩) (Nat.le_refl _) _).setCell (p := ⟨w.heap.size, 1, none⟩) (Nat.le_refl _) _).setCell (p := ⟨w.heap.size, 2, none⟩) (Nat.le_refl _) _
end Go.Proofs.Yteaaoipipjkgnaa
