/- Records by their origins in a map, as a function; one store's memory. -/
import Derived.Test.YtgpinecfmhenkaaDoorGH
import Derived.Test.YtgpinecfmhenkaaDoorX1
import Derived.Test.YtgpinecfmhenkaaDoorGR
import Derived.Maps.Own
import Derived.Maps.OwnSet
import Derived.Deep.RegionHeld3
namespace Go.Proofs.YtgpinecfmhenkaaDoor
open Go.RowKit Go.Maps

/-- An element reads as itself. -/
def selfR (v : Value) : Option (DataW Value × List MemPlace) := some (.held v, [])
theorem keyI9 : Keyed Tryd.prog 3 := int_keyed Tryd.underlying3
theorem key_int {k : Int} (hk : (Lit.int .i64 k).wf = true) : keyOf Tryd.prog 3 (.int .i64 k) = some (.int .i64 k) := keyOf_int_mk Tryd.underlying3 hk
theorem wf9 {k : Int} (h : 0 ≤ k ∧ k ≤ 1000000) : (Lit.int .i64 k).wf = true := WalkArith.wf_i64 (by omega)
theorem key_lit (k : Int) : WideAt.IsKeyLit (Lit.int .i64 k) := by first | trivial | simp [WideAt.IsKeyLit]
abbrev noRec : Value := .agg #[.int .i64 0, .int .u32 0, .int .u32 0, .int .i64 0, .bool false, .slice none 0 0]
theorem zeroRec (w : World) : (zeroValue 49).run Tryd.prog w = .ok noRec w := by kernel_rfl
/-- What a map has, by keys. -/
def MpAt (w : World) (B n : Nat) (f : Int → Option Value) : Prop :=
  ∃ D : DataW Value, w.ownsMap Tryd.prog 3 selfR B n D ∧ ∀ k, (Lit.int .i64 k).wf = true → Maps.has D (.int .i64 k) = (f k).isSome ∧ D.atKey (.int .i64 k) (.held noRec) = .held ((f k).getD noRec)
theorem mpAt_new (w : World) : MpAt (w.alloc (.map #[] 0)) w.heap.size 0 (fun _ => none) :=
  ⟨.map [], World.ownsMap_made _ _ _ _, fun _ _ => ⟨rfl, rfl⟩⟩
theorem MpAt.lt {w : World} {B n : Nat} {f : Int → Option Value} (h : MpAt w B n f) : B < w.heap.size := by
  obtain ⟨D, h1, _⟩ := h
  exact h1.lt
theorem MpAt.keep {w w' : World} {B n : Nat} {f : Int → Option Value} {T : Nat → Prop} (h : MpAt w B n f) (hF : Fr T w w') (hT : ¬ T B) : MpAt w' B n f := by
  obtain ⟨D, ⟨es, clock, hb, r⟩, h2⟩ := h
  exact ⟨D, ⟨es, clock, (hF.block B (Array.getElem?_eq_some_iff.1 hb).1 hT).trans hb, r⟩, h2⟩
theorem MpAt.mono {w : World} {B n m : Nat} {f : Int → Option Value} (h : MpAt w B n f) (hn : n ≤ m) : MpAt w B m f := by
  obtain ⟨D, h1, h2⟩ := h
  exact ⟨D, h1.mono hn, h2⟩
def putO {β : Type} (f : Int → Option β) (k : Int) (v : β) : Int → Option β := fun j => if j = k then some v else f j
theorem putO_same {β : Type} (f : Int → Option β) (k : Int) (v : β) : putO f k v k = some v := by simp [putO]
theorem putO_other {β : Type} (f : Int → Option β) {j k : Int} (v : β) (h : j ≠ k) : putO f k v j = f j := by simp [putO, h]
theorem held_inj {v u : Value} {ps : List MemPlace} (h : selfR v = some (.held u, ps)) : v = u := by
  simp [selfR] at h
  exact h.1
/-- What a store has, by origins: the record, and where its neighbours lie. -/
abbrev Sf : Type := Int → Option (Rc × Value)
def sV (f : Sf) : Int → Option Value := fun k => (f k).map fun p => recV p.1 p.2
end Go.Proofs.YtgpinecfmhenkaaDoor
