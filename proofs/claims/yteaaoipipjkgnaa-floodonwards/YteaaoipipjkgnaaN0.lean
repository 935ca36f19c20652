/- Records by their origins in a map, as a function; one store's memory. -/
import Derived.Test.YteaaoipipjkgnaaGH
import Derived.Test.YteaaoipipjkgnaaX1
import Derived.Test.YteaaoipipjkgnaaGR
import Derived.Maps.Own
import Derived.Maps.OwnSet
import Derived.Deep.RegionHeld3
namespace Go.Proofs.Yteaaoipipjkgnaa
open Go.RowKit Go.Maps

/-- An element reads as itself. -/
def selfR (v : Value) : Option (DataW Value × List MemPlace) := some (.held v, [])
theorem keyI9 : Keyed Try.prog 3 := int_keyed Try.underlying3
theorem key_int {k : Int} (hk : (Lit.int .i64 k).wf = true) : keyOf Try.prog 3 (.int .i64 k) = some (.int .i64 k) := keyOf_int_mk Try.underlying3 hk
theorem wf9 {k : Int} (h : 0 ≤ k ∧ k ≤ 1000000) : (Lit.int .i64 k).wf = true := WalkArith.wf_i64 (by omega)
theorem key_lit (k : Int) : WideAt.IsKeyLit (Lit.int .i64 k) := by first | trivial | simp [WideAt.IsKeyLit]
abbrev noRec : Value := .agg #[.int .i64 0, .int .u32 0, .int .u32 0, .int .i64 0, .bool false, .slice none 0 0]
theorem zeroRec (w : World) : (zeroValue 38).run Try.prog w = .ok noRec w := by kernel_rfl
/-- What a map has, by keys. -/
def MpAt (w : World) (B n : Nat) (f : Int → Option Value) : Prop :=
  ∃ D : DataW Value, w.ownsMap Try.prog 3 selfR B n D ∧ ∀ k, (Lit.int .i64 k).wf = true → Maps.has D (.int .i64 k) = (f k).isSome ∧ D.atKey (.int .i64 k) (.held noRec) = .held ((f k).getD noRec)
theorem mpAt_new (w : World) : MpAt (w.alloc (.map #[] 0)) w.heap.size 0 (fun _ => none) :=
  ⟨.map [], World.ownsMap_made _ _ _ _, fun _ _ => ⟨rfl, rfl⟩⟩
theorem MpAt.lt {w : World} {B n : Nat} {f : Int → Option Value} (h : MpAt w B n f) : B < w.heap.size := by
  obtain ⟨D, h1, _⟩ := h
  exact h1.lt
theorem MpAt.keep {w w' : World} {B n : Nat} {f : Int → Option Value} {T : Nat → Prop} (h : MpAt w B n f) (hF : Fr T w w') (hT : ¬ T B) : MpAt w' B n f := by
  obtain ⟨D, ⟨es, clock, hb, r⟩, h2⟩ := h
  exact ⟨D, ⟨es, clock, (hF.block B (Array.getElem?_eq_some_iff.1 hb).1 hT).trans hb, r⟩, h2⟩
theorem MpAt.mono {w : World} {B n m : Nat} {f : Int → Option Value} (h : MpAt w B n f) (hn : n ≤ m) : MpAt w B m f := by
  obtain ⟨D, h1, h2⟩ := h
  exact ⟨D, h1.mono hn, h2⟩
def putO {β : Type} (f : Int → Option β) (k : Int) (v : β) : Int → Option β := fun j => if j = k then some v else f j
theorem putO_same {β : Type} (f : Int → Option β) (k : Int) (v : β) : putO f k v k = some v := by simp [putO]
theorem putO_other {β : Type} (f : Int → Option β) {j k : Int} (v : β) (h : j ≠ k) : putO f k v j = f j := by simp [putO, h]
theorem MpAt.put {w : World} {B n : Nat} {f : Int → Option Value} (h : MpAt w B n f) (hn : n < 1000000) {x : Int} (hx : (Lit.int .i64 x).wf = true) (v : Value) :
    ∃ w', (Instr.mapUpdate 123 (.map (some B)) (.int .i64 x) v).run Try.prog w = .ok () w' ∧ MpAt w' B (n + 1) (putO f x v) ∧ Fr (fun k => k = B) w w' := by
  obtain ⟨D, h1, h2⟩ := h
  obtain ⟨w', hrun, ho, hg⟩ := h1.update (t := 123) keyI9 Try.underlying123 (by unfold maxLen; omega) (key_int hx) (d := .held v) (ps := []) rfl
  refine ⟨w', hrun, ⟨_, ho, fun k hk => ?_⟩, ⟨hg.os, hg.tape, hg.output, hg.size, fun k hk hs => hg.block k hk (fun e => hs (Option.some.inj e))⟩⟩
  by_cases hkx : k = x
  · subst hkx
    rw [has_put_same h1.isMap (key_lit k), atKey_put_same h1.isMap (key_lit k), putO_same]
    exact ⟨rfl, rfl⟩
  · have hne : (Lit.int .i64 k) ≠ .int .i64 x := fun h => hkx (by injection h)
    rw [has_put_other hne, atKey_put_other hne, putO_other f v hkx]
    exact h2 k hk
theorem held_inj {v u : Value} {ps : List MemPlace} (h : selfR v = some (.held u, ps)) : v = u := by
  simp [selfR] at h
  exact h.1
/-- 'r, ok := m[k]'. -/
theorem MpAt.look {w : World} {B n : Nat} {f : Int → Option Value} (h : MpAt w B n f) {x : Int} (hx : (Lit.int .i64 x).wf = true) :
    (Instr.lookup 123 (.map (some B)) (.int .i64 x) true).run Try.prog w = .ok (.tuple #[(f x).getD noRec, .bool (f x).isSome]) w := by
  obtain ⟨D, h1, h2⟩ := h
  obtain ⟨v, ps, hrun, hv⟩ := h1.look_ok (t := 123) keyI9 Try.underlying123 (zeroRec w) (zd := .held noRec) (zp := []) rfl (key_int hx)
  rw [(h2 x hx).2] at hv
  rw [held_inj hv, (h2 x hx).1] at hrun
  exact hrun
/-- 'm[k]'. -/
theorem MpAt.look1 {w : World} {B n : Nat} {f : Int → Option Value} (h : MpAt w B n f) {x : Int} (hx : (Lit.int .i64 x).wf = true) :
    (Instr.lookup 123 (.map (some B)) (.int .i64 x) false).run Try.prog w = .ok ((f x).getD noRec) w := by
  obtain ⟨D, h1, h2⟩ := h
  obtain ⟨v, ps, hrun, hv⟩ := h1.lookup (t := 123) keyI9 Try.underlying123 (zeroRec w) (zd := .held noRec) (zp := []) rfl (key_int hx)
  rw [(h2 x hx).2] at hv
  rw [held_inj hv] at hrun
  exact hrun
/-- What a store has, by origins: the record, and where its neighbours lie. -/
abbrev Sf : Type := Int → Option (Rc × Value)
def sV (f : Sf) : Int → Option Value := fun k => (f k).map fun p => recV p.1 p.2
structure StAt (w : World) (S M n : Nat) (f : Sf) : Prop where
  p : w.heap[S]? = some (.cells #[.map (some M)] 125)
  m : MpAt w M n (sV f)
  v : ∀ k r u, f k = some (r, u) → recOk r = true ∧ r.origin = k ∧ SlAt ac 2 w u r.adjs ∧ NilOk u ∧ 0 ≤ r.epoch ∧ 0 ≤ r.seq
theorem StAt.keep {w w' : World} {S M n : Nat} {f : Sf} (h : StAt w S M n f) (hb : Below w.heap.size w w') : StAt w' S M n f :=
  ⟨(hb.block _ (block_lt h.p)).trans h.p, h.m.keep (Fr.of_below (S := fun _ => False) hb) (fun h => h), fun k r u hk => by
    obtain ⟨h1, h2, h3, h4⟩ := h.v k r u hk
    exact ⟨h1, h2, h3.keep hb (Nat.le_refl _), h4⟩⟩
theorem StAt.mono {w : World} {S M n m : Nat} {f : Sf} (h : StAt w S M n f) (hn : n ≤ m) : StAt w S M m f := ⟨h.p, h.m.mono hn, h.v⟩
theorem StAt.lts {w : World} {S M n : Nat} {f : Sf} (h : StAt w S M n f) : S < w.heap.size ∧ M < w.heap.size := ⟨block_lt h.p, h.m.lt⟩
end Go.Proofs.Yteaaoipipjkgnaa
