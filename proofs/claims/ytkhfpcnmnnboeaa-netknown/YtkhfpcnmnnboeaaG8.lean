/- Both. -/
import Derived.Test.YtkhfpcnmnnboeaaG7
namespace Go.Proofs.Ytkhfpcnmnnboeaa
open Go.RowKit

/-- Records handed in. -/
structure RecsAt (w : World) (v : Value) (l : List (Rc × Value)) : Prop where
  r : SlAt rcc 6 w v l
  a : ∀ x ∈ l, SlAt ac 2 w x.2 x.1.adjs
theorem RecsAt.keep {w w' : World} {v : Value} {l : List (Rc × Value)} {B : Nat} (h : RecsAt w v l) (hb : Below B w w') (hB : w.heap.size ≤ B) : RecsAt w' v l := ⟨h.r.keep hb hB, fun x hx => (h.a x hx).keep hb hB⟩
abbrev rcs (l : List (Rc × Value)) : List Rc := l.map (·.1)
theorem SlAt.recs {w : World} {v : Value} {l : List (Rc × Value)} (h : SlAt rcc 6 w v l) : ∃ a cap, v = .slice a l.length cap ∧ l.length ≤ 9223372036854775807 ∧ l.length ≤ cap ∧ (0 < l.length → ∃ bk o, a = some ⟨bk, o, none⟩ ∧ bk < w.heap.size ∧ ∀ j x, l[j]? = some x → w.cell? ⟨bk, o + j * 6, none⟩ = some (.int .i64 x.1.origin) ∧ w.cell? ⟨bk, o + j * 6 + 1, none⟩ = some (.int .u32 x.1.epoch) ∧ w.cell? ⟨bk, o + j * 6 + 2, none⟩ = some (.int .u32 x.1.seq) ∧ w.cell? ⟨bk, o + j * 6 + 3, none⟩ = some (.int .i64 x.1.claim) ∧ w.cell? ⟨bk, o + j * 6 + 4, none⟩ = some (.bool x.1.ing) ∧ w.cell? ⟨bk, o + j * 6 + 5, none⟩ = some x.2) := by
  obtain ⟨a, cap, rfl, h0, h1, h2⟩ := h
  refine ⟨a, cap, rfl, h0, h1, fun hp => ?_⟩
  obtain ⟨bk, o, rfl, h3, h4⟩ := h2 hp
  exact ⟨bk, o, rfl, h3, fun j z hz => ⟨h4 j z hz 0 _ rfl, h4 j z hz 1 _ rfl, h4 j z hz 2 _ rfl, h4 j z hz 3 _ rfl, h4 j z hz 4 _ rfl, h4 j z hz 5 _ rfl⟩⟩
abbrev nilG : Obj := .cells #[.slice none 0 0, .slice none 0 0] 57
/-- Both's blocks: the answer's, marks, costs. -/
structure BoM (w wr : World) (f : Nat → Bool) (c : Nat → Nat → Int) : Prop where
  g : wr.heap[w.heap.size]? = some nilG
  m : Arr wr (w.heap.size + 1) 118 (mcl f)
  k : Arr wr (w.heap.size + 2) 120 (ccl c)
  b : Below w.heap.size w wr
theorem BoM.keep {w wr w' : World} {f : Nat → Bool} {c : Nat → Nat → Int} {B : Nat} (h : BoM w wr f c) (hb : Below B wr w') (hB : wr.heap.size ≤ B) : BoM w w' f c := by
  have h1 := block_lt h.g
  have h2 := h.m.lt
  have h3 := h.k.lt
  exact ⟨(hb.block _ (by omega)).trans h.g, h.m.keep hb (by omega), h.k.keep hb (by omega), h.b.trans (hb.mono (by omega))⟩
theorem BoM.mark {w wr : World} {f : Nat → Bool} {c : Nat → Nat → Int} (h : BoM w wr f c) {n : Nat} (hn : n < 25) : BoM w (wr.setCell ⟨w.heap.size + 1, n, none⟩ (.bool true)) (mk1 f n) c :=
  ⟨(Below.heap_setCell _ _ _ _ (by show w.heap.size ≠ w.heap.size + 1; omega)).trans h.g, by rw [← mcl_set f hn]; exact h.m.set n _, h.k.other (by show w.heap.size + 2 ≠ w.heap.size + 1; omega) _, h.b.setCell (p := ⟨w.heap.size + 1, n, none⟩) (Nat.le_succ _) _⟩
theorem BoM.put {w wr : World} {f : Nat → Bool} {c : Nat → Nat → Int} (h : BoM w wr f c) {a b : Nat} (ha : a < 25) (hb : b < 25) (v : Int) : BoM w (wr.setCell ⟨w.heap.size + 2, a * 25 + b, none⟩ (.int .i64 v)) f (put2 c a b v) :=
  ⟨(Below.heap_setCell _ _ _ _ (by show w.heap.size ≠ w.heap.size + 2; omega)).trans h.g, h.m.other (by show w.heap.size + 1 ≠ w.heap.size + 2; omega) _, by rw [← ccl_set c ha hb v]; exact h.k.set _ _, h.b.setCell (p := ⟨w.heap.size + 2, a * 25 + b, none⟩) (by show w.heap.size ≤ w.heap.size + 2; omega) _⟩
theorem BoM.drew {w wr : World} {f : Nat → Bool} {c : Nat → Nat → Int} (h : BoM w wr f c) : BoM w wr.drew f c := ⟨h.g, h.m, h.k, ⟨h.b.os, h.b.tape, h.b.output, h.b.size, h.b.block⟩⟩
theorem putAdjs_snoc (c : Nat → Nat → Int) (o : Nat) (l : List (Int × Int)) (x : Int × Int) : putAdjs c o (l ++ [x]) = put2 (putAdjs c o l) o x.1.toNat x.2 := by simp [putAdjs, List.foldl_append]
theorem costL_snoc (c : Nat → Nat → Int) (rs : List Rc) (r : Rc) : costL c (rs ++ [r]) = putAdjs (costL c rs) r.origin.toNat r.adjs := by simp [costL, List.foldl_append]
theorem thereL_snoc (f : Nat → Bool) (rs : List Rc) (r : Rc) : thereL f (rs ++ [r]) = mk1 (thereL f rs) r.origin.toNat := by simp [thereL, List.foldl_append]
/-- What Both answers. -/
def BothAns (w : World) (l : List (Rc × Value)) (e : Ending) (w' : World) : Prop :=
  (bothOk no1 (rcs l) = true ∧ ∃ u v, e = .returned (.tuple #[grV u v, .int .i64 0]) ∧ w'.ownsRow w.heap.size 3 1 u (bothN (rcs l)).length (fl ic (bothN (rcs l))) ∧ w'.ownsRow w.heap.size 64 3 v (bothE (rcs l)).length (fl ec (bothE (rcs l)))) ∨
    (bothOk no1 (rcs l) = false ∧ e = .returned (.tuple #[grV (.slice none 0 0) (.slice none 0 0), .int .i64 2]))

end Go.Proofs.Ytkhfpcnmnnboeaa
