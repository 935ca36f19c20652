/- Maps by routers as functions, with how many they have. -/
import Derived.Test.YteaaoipipjkgnaaNP
import Derived.Maps.OwnSet
namespace Go.Proofs.Yteaaoipipjkgnaa
open Go.RowKit Go.Maps

def cn {β : Type} (f : Int → Option β) : Nat := ((List.range 24).filter fun (i : Nat) => (f ((i : Int) + 1)).isSome).length
def delO {β : Type} (f : Int → Option β) (k : Int) : Int → Option β := fun j => if j = k then none else f j
theorem delO_same {β : Type} (f : Int → Option β) (k : Int) : delO f k k = none := by simp [delO]
theorem delO_other {β : Type} (f : Int → Option β) {j k : Int} (h : j ≠ k) : delO f k j = f j := by simp [delO, h]
theorem fil_len (p q : Nat → Bool) (i0 : Nat) (h : ∀ i, i ≠ i0 → p i = q i) : ∀ n, (n ≤ i0 → ((List.range n).filter q).length = ((List.range n).filter p).length) ∧ (i0 < n → ((List.range n).filter q).length + (if p i0 = true then 1 else 0) = ((List.range n).filter p).length + (if q i0 = true then 1 else 0))
  | 0 => ⟨fun _ => rfl, fun h => by omega⟩
  | n + 1 => by
    have ih := fil_len p q i0 h n
    rw [List.range_succ, List.filter_append, List.filter_append, List.length_append, List.length_append]
    by_cases hn : n = i0
    · subst hn
      refine ⟨fun h => by omega, fun _ => ?_⟩
      have := ih.1 (Nat.le_refl _)
      cases hp : p n <;> cases hq : q n <;> simp [hp, hq] <;> omega
    · have he := h n hn
      refine ⟨fun h1 => ?_, fun h1 => ?_⟩
      · have := ih.1 (by omega)
        cases hp : p n <;> simp [hp, ← he] <;> omega
      · have := ih.2 (by omega)
        cases hp : p n <;> simp [hp, ← he] <;> omega
theorem cn_le {β : Type} (f : Int → Option β) : cn f ≤ 24 := by
  unfold cn
  exact Nat.le_trans (List.length_filter_le _ _) (by simp)
theorem cn_put {β : Type} (f : Int → Option β) {k : Int} (h1 : 1 ≤ k) (h2 : k ≤ 24) (v : β) : cn (putO f k v) = if (f k).isSome = true then cn f else cn f + 1 := by
  have h := (fil_len (fun i => (f ((i : Int) + 1)).isSome) (fun i => (putO f k v ((i : Int) + 1)).isSome) (k.toNat - 1) (fun i hi => by
    show (f ((i : Int) + 1)).isSome = (putO f k v ((i : Int) + 1)).isSome
    rw [putO_other f v (by omega)]) 24).2 (by omega)
  rw [show (((k.toNat - 1 : Nat) : Int) + 1) = k by omega, putO_same] at h
  unfold cn
  cases hk : (f k).isSome <;> simp [hk] at h ⊢ <;> omega
theorem cn_del {β : Type} (f : Int → Option β) {k : Int} (h1 : 1 ≤ k) (h2 : k ≤ 24) : cn (delO f k) + (if (f k).isSome = true then 1 else 0) = cn f := by
  have h := (fil_len (fun i => (f ((i : Int) + 1)).isSome) (fun i => (delO f k ((i : Int) + 1)).isSome) (k.toNat - 1) (fun i hi => by
    show (f ((i : Int) + 1)).isSome = (delO f k ((i : Int) + 1)).isSome
    rw [delO_other f (by omega)]) 24).2 (by omega)
  rw [show (((k.toNat - 1 : Nat) : Int) + 1) = k by omega, delO_same] at h
  unfold cn
  cases hk : (f k).isSome <;> simp [hk] at h ⊢ <;> omega
theorem cn_none {β : Type} : cn (fun _ => (none : Option β)) = 0 := by rfl
theorem cn_map {β γ : Type} (f : Int → Option β) (g : β → γ) : cn (fun k => (f k).map g) = cn f := by
  unfold cn
  congr 2
  funext i
  exact Option.isSome_map
/-- What a map has, by routers. -/
def MpG (z : Value) (w : World) (B : Nat) (f : Int → Option Value) : Prop :=
  ∃ D : DataW Value, w.ownsMap Try.prog 3 selfR B 24 D ∧ (∀ k, (Lit.int .i64 k).wf = true → Maps.has D (.int .i64 k) = (f k).isSome ∧ D.atKey (.int .i64 k) (.held z) = .held ((f k).getD z)) ∧ Maps.size D = cn f ∧ ∀ k, (f k).isSome = true → 1 ≤ k ∧ k ≤ 24
theorem mpG_new (z : Value) (w : World) : MpG z (w.alloc (.map #[] 0)) w.heap.size (fun _ => none) :=
  ⟨.map [], (World.ownsMap_made _ _ _ _).mono (Nat.zero_le _), fun _ _ => ⟨rfl, rfl⟩, rfl, fun _ h => by cases h⟩
theorem MpG.lt {z : Value} {w : World} {B : Nat} {f : Int → Option Value} (h : MpG z w B f) : B < w.heap.size := by
  obtain ⟨D, h1, _⟩ := h
  exact h1.lt
theorem MpG.isMap {z : Value} {w : World} {B : Nat} {f : Int → Option Value} (h : MpG z w B f) : ∃ es cl, w.heap[B]? = some (.map es cl) := by
  obtain ⟨D, ⟨es, clock, hb, _⟩, _⟩ := h
  exact ⟨es, clock, hb⟩
theorem MpG.sup {z : Value} {w : World} {B : Nat} {f : Int → Option Value} (h : MpG z w B f) {k : Int} (hk : (f k).isSome = true) : 1 ≤ k ∧ k ≤ 24 := by
  obtain ⟨D, _, _, _, h4⟩ := h
  exact h4 k hk
theorem MpG.keep {z : Value} {w w' : World} {B : Nat} {f : Int → Option Value} {T : Nat → Prop} (h : MpG z w B f) (hF : Fr T w w') (hT : ¬ T B) : MpG z w' B f := by
  obtain ⟨D, ⟨es, clock, hb, r⟩, h2⟩ := h
  exact ⟨D, ⟨es, clock, (hF.block B (Array.getElem?_eq_some_iff.1 hb).1 hT).trans hb, r⟩, h2⟩
theorem own_tight {w : World} {B n : Nat} {D : DataW Value} (h : w.ownsMap Try.prog 3 selfR B n D) {m : Nat} (hm : Maps.size D ≤ m) : w.ownsMap Try.prog 3 selfR B m D := by
  obtain ⟨es, clock, hb, F, _, rfl⟩ := h
  refine ⟨es, clock, hb, F, ?_, rfl⟩
  simpa [Maps.size, length_sorted] using hm
theorem MpG.put {z : Value} {w : World} {B : Nat} {f : Int → Option Value} {T E : TypeId} (hT : Try.prog.underlying T = some (.map 3 E)) (h : MpG z w B f) {x : Int} (h1 : 1 ≤ x) (h2 : x ≤ 24) (v : Value) :
    ∃ w', (Instr.mapUpdate T (.map (some B)) (.int .i64 x) v).run Try.prog w = .ok () w' ∧ MpG z w' B (putO f x v) ∧ Fr (fun k => k = B) w w' := by
  obtain ⟨D, g1, g2, g3, g4⟩ := h
  have hx : (Lit.int .i64 x).wf = true := wf9 (by omega)
  obtain ⟨w', hrun, ho, hg⟩ := g1.store (t := T) keyI9 hT (by unfold maxLen; omega) (key_int hx) (d := .held v) (ps := []) rfl
  have hsz : Maps.size (D.put (.int .i64 x) (.held v)) = cn (putO f x v) := by rw [size_put (g1.tidy keyI9), (g2 x hx).1, cn_put f h1 h2, g3]
  have hgr := hg.grown
  refine ⟨w', hrun, ⟨_, own_tight ho (by rw [hsz]; exact cn_le _), fun k hk => ?_, hsz, fun k hk => ?_⟩, ⟨hgr.os, hgr.tape, hgr.output, hgr.size, fun k hk hs => hgr.block k hk (fun e => hs (Option.some.inj e))⟩⟩
  · by_cases hkx : k = x
    · subst hkx
      rw [has_put_same g1.isMap (key_lit k), atKey_put_same g1.isMap (key_lit k), putO_same]
      exact ⟨rfl, rfl⟩
    · have hne : (Lit.int .i64 k) ≠ .int .i64 x := fun h => hkx (by injection h)
      rw [has_put_other hne, atKey_put_other hne, putO_other f v hkx]
      exact g2 k hk
  · by_cases hkx : k = x
    · omega
    · rw [putO_other f v hkx] at hk
      exact g4 k hk
theorem MpG.drop {z : Value} {w : World} {B : Nat} {f : Int → Option Value} {T E : TypeId} (hT : Try.prog.underlying T = some (.map 3 E)) (h : MpG z w B f) {x : Int} (h1 : 1 ≤ x) (h2 : x ≤ 24) (ty : TypeId) :
    ∃ w', (Builtin.delete_ #[T, 3] ty #[.map (some B), .int .i64 x]).run Try.prog w = .ok (.tuple #[]) w' ∧ MpG z w' B (delO f x) ∧ Fr (fun k => k = B) w w' := by
  obtain ⟨D, g1, g2, g3, g4⟩ := h
  have hx : (Lit.int .i64 x).wf = true := wf9 (by omega)
  obtain ⟨w', hrun, ho, hg⟩ := g1.drop (t := T) keyI9 hT (key_int hx) ty
  have hsz : Maps.size (D.del (.int .i64 x)) = cn (delO f x) := by
    have e1 := size_del (k := Lit.int .i64 x) (g1.tidy keyI9)
    have e2 := cn_del f h1 h2
    rw [(g2 x hx).1] at e1
    omega
  have hgr := hg.grown
  refine ⟨w', hrun, ⟨_, own_tight ho (by rw [hsz]; exact cn_le _), fun k hk => ?_, hsz, fun k hk => ?_⟩, ⟨hgr.os, hgr.tape, hgr.output, hgr.size, fun k hk hs => hgr.block k hk (fun e => hs (Option.some.inj e))⟩⟩
  · by_cases hkx : k = x
    · subst hkx
      rw [has_del_same, atKey_del_same, delO_same]
      exact ⟨rfl, rfl⟩
    · have hne : (Lit.int .i64 k) ≠ .int .i64 x := fun h => hkx (by injection h)
      rw [has_del_other hne, atKey_del_other hne, delO_other f hkx]
      exact g2 k hk
  · by_cases hkx : k = x
    · omega
    · rw [delO_other f hkx] at hk
      exact g4 k hk
theorem MpG.look {z : Value} {w : World} {B : Nat} {f : Int → Option Value} {T E : TypeId} (hT : Try.prog.underlying T = some (.map 3 E)) (hz : ∀ w, (zeroValue E).run Try.prog w = .ok z w) (h : MpG z w B f) {x : Int} (hx : (Lit.int .i64 x).wf = true) :
    (Instr.lookup T (.map (some B)) (.int .i64 x) true).run Try.prog w = .ok (.tuple #[(f x).getD z, .bool (f x).isSome]) w := by
  obtain ⟨D, h1, h2, _⟩ := h
  obtain ⟨v, ps, hrun, hv⟩ := h1.look_ok (t := T) keyI9 hT (hz w) (zd := .held z) (zp := []) rfl (key_int hx)
  rw [(h2 x hx).2] at hv
  rw [held_inj hv, (h2 x hx).1] at hrun
  exact hrun
theorem MpG.look1 {z : Value} {w : World} {B : Nat} {f : Int → Option Value} {T E : TypeId} (hT : Try.prog.underlying T = some (.map 3 E)) (hz : ∀ w, (zeroValue E).run Try.prog w = .ok z w) (h : MpG z w B f) {x : Int} (hx : (Lit.int .i64 x).wf = true) :
    (Instr.lookup T (.map (some B)) (.int .i64 x) false).run Try.prog w = .ok ((f x).getD z) w := by
  obtain ⟨D, h1, h2, _⟩ := h
  obtain ⟨v, ps, hrun, hv⟩ := h1.lookup (t := T) keyI9 hT (hz w) (zd := .held z) (zp := []) rfl (key_int hx)
  rw [(h2 x hx).2] at hv
  rw [held_inj hv] at hrun
  exact hrun
theorem MpG.len {z : Value} {w : World} {B : Nat} {f : Int → Option Value} {T E : TypeId} (hT : Try.prog.underlying T = some (.map 3 E)) (h : MpG z w B f) (ty : TypeId) : (Builtin.len_ #[T] ty #[.map (some B)]).run Try.prog w = .ok (.int .i64 (cn f)) w := by
  obtain ⟨D, h1, _, h3, _⟩ := h
  rw [← h3]
  exact h1.len hT ty
end Go.Proofs.Yteaaoipipjkgnaa
