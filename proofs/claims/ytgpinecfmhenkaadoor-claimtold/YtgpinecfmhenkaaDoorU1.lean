/- Slices of numbers by numbers, in a map: as a function. -/
import Derived.Test.YtgpinecfmhenkaaDoorU0
import Derived.Lib.SlKeysI
namespace Go.Proofs.YtgpinecfmhenkaaDoor
open Go.RowKit Go.Maps

abbrev nilS : Value := .slice none 0 0
theorem zeroSl (w : World) : (zeroValue 29).run Tryd.prog w = .ok nilS w := by kernel_rfl
/-- What a map has, by keys. -/
def MpZ (w : World) (B n : Nat) (f : Int → Option Value) : Prop :=
  ∃ D : DataW Value, w.ownsMap Tryd.prog 3 selfR B n D ∧ ∀ k, (Lit.int .i64 k).wf = true → Maps.has D (.int .i64 k) = (f k).isSome ∧ D.atKey (.int .i64 k) (.held nilS) = .held ((f k).getD nilS)
theorem mpZ_new (w : World) : MpZ (w.alloc (.map #[] 0)) w.heap.size 0 (fun _ => none) :=
  ⟨.map [], World.ownsMap_made _ _ _ _, fun _ _ => ⟨rfl, rfl⟩⟩
theorem MpZ.lt {w : World} {B n : Nat} {f : Int → Option Value} (h : MpZ w B n f) : B < w.heap.size := by
  obtain ⟨D, h1, _⟩ := h
  exact h1.lt
theorem MpZ.isMap {w : World} {B n : Nat} {f : Int → Option Value} (h : MpZ w B n f) : ∃ es cl, w.heap[B]? = some (.map es cl) := by
  obtain ⟨D, ⟨es, clock, hb, _⟩, _⟩ := h
  exact ⟨es, clock, hb⟩
theorem MpZ.keep {w w' : World} {B n : Nat} {f : Int → Option Value} {T : Nat → Prop} (h : MpZ w B n f) (hF : Fr T w w') (hT : ¬ T B) : MpZ w' B n f := by
  obtain ⟨D, ⟨es, clock, hb, r⟩, h2⟩ := h
  exact ⟨D, ⟨es, clock, (hF.block B (Array.getElem?_eq_some_iff.1 hb).1 hT).trans hb, r⟩, h2⟩
theorem MpZ.mono {w : World} {B n m : Nat} {f : Int → Option Value} (h : MpZ w B n f) (hn : n ≤ m) : MpZ w B m f := by
  obtain ⟨D, h1, h2⟩ := h
  exact ⟨D, h1.mono hn, h2⟩
theorem MpZ.put {w : World} {B n : Nat} {f : Int → Option Value} (h : MpZ w B n f) (hn : n < 1000000) {x : Int} (hx : (Lit.int .i64 x).wf = true) (v : Value) :
    ∃ w', (Instr.mapUpdate 68 (.map (some B)) (.int .i64 x) v).run Tryd.prog w = .ok () w' ∧ MpZ w' B (n + 1) (putO f x v) ∧ Fr (fun k => k = B) w w' := by
  obtain ⟨D, h1, h2⟩ := h
  obtain ⟨w', hrun, ho, hg⟩ := h1.update (t := 68) keyI9 Tryd.underlying68 (by unfold maxLen; omega) (key_int hx) (d := .held v) (ps := []) rfl
  refine ⟨w', hrun, ⟨_, ho, fun k hk => ?_⟩, ⟨hg.os, hg.tape, hg.output, hg.size, fun k hk hs => hg.block k hk (fun e => hs (Option.some.inj e))⟩⟩
  by_cases hkx : k = x
  · subst hkx
    rw [has_put_same h1.isMap (key_lit k), atKey_put_same h1.isMap (key_lit k), putO_same]
    exact ⟨rfl, rfl⟩
  · have hne : (Lit.int .i64 k) ≠ .int .i64 x := fun h => hkx (by injection h)
    rw [has_put_other hne, atKey_put_other hne, putO_other f v hkx]
    exact h2 k hk
/-- 'm[k]'. -/
theorem MpZ.look1 {w : World} {B n : Nat} {f : Int → Option Value} (h : MpZ w B n f) {x : Int} (hx : (Lit.int .i64 x).wf = true) :
    (Instr.lookup 68 (.map (some B)) (.int .i64 x) false).run Tryd.prog w = .ok ((f x).getD nilS) w := by
  obtain ⟨D, h1, h2⟩ := h
  obtain ⟨v, ps, hrun, hv⟩ := h1.lookup (t := 68) keyI9 Tryd.underlying68 (zeroSl w) (zd := .held nilS) (zp := []) rfl (key_int hx)
  rw [(h2 x hx).2] at hv
  rw [held_inj hv] at hrun
  exact hrun
/-- The keys, sorted. -/
theorem MpZ.keys {w : World} {B n : Nat} {f : Int → Option Value} (h : MpZ w B n f) (ks : List Int) (hr : ks.Pairwise fun x y => x < y) (hk : ∀ x, x ∈ ks ↔ (Lit.int .i64 x).wf = true ∧ (f x).isSome = true) :
    ∃ D : DataW Value, w.ownsMap Tryd.prog 3 selfR B n D ∧ ∀ ss : List Int, ss.Perm (intKeys D) → ss.length = ks.length ∧ (ss.mergeSort fun x y => decide (x ≤ y)) = ks := by
  obtain ⟨D, h1, h2⟩ := h
  have hc : CollectedI D (fun _ => false) ks := ⟨hr.imp (fun h => by omega), fun x => by
    rw [hk x]
    by_cases hw : (Lit.int .i64 x).wf = true
    · rw [(h2 x hw).1]
      simp [hw]
    · simp only [hw]
      constructor
      · rintro ⟨h, _⟩
        cases h
      · rintro ⟨hh, _⟩
        exfalso
        refine hw ?_
        obtain ⟨es, rfl, hko⟩ := h1.keysOf
        rw [has_eq, List.any_eq_true] at hh
        obtain ⟨p, hp, hs⟩ := hh
        obtain ⟨v, hv⟩ := hko p hp
        obtain ⟨y, _, hy, hl⟩ := Maps.keyOf_i64 Tryd.underlying3 hv
        rw [hy] at hs
        have : x = y := by simpa [Lit.sameKey, eq_comm] using hs
        rw [this]
        exact hl⟩
  have hp := hc.perm h1 keyI9 Tryd.underlying3 (fun _ => rfl)
  refine ⟨D, h1, fun ss hss => ?_⟩
  have hps := hss.trans hp.symm
  refine ⟨hps.length_eq, ?_⟩
  have h3 := mergeSort_of_perm_i hps
  have h4 : ks.mergeSort leI = ks := List.mergeSort_of_pairwise (hr.imp fun h => by simp [leI]; omega)
  exact h3.trans h4
end Go.Proofs.YtgpinecfmhenkaaDoor
