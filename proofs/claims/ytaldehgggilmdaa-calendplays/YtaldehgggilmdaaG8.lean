/- Both. -/
import Derived.Test.YtaldehgggilmdaaG7
namespace Go.Proofs.Ytaldehgggilmdaa
open Go.RowKit

/-- Records handed in. -/
structure RecsAt (w : World) (v : Value) (l : List (Rc × Value)) : Prop where
  r : SlAt rcc 6 w v l
  a : ∀ x ∈ l, SlAt ac 2 w x.2 x.1.adjs
theorem RecsAt.keep {w w' : World} {v : Value} {l : List (Rc × Value)} {B : Nat} (h : RecsAt w v l) (hb : Below B w w') (hB : w.heap.size ≤ B) : RecsAt w' v l := ⟨h.r.keep hb hB, fun x hx => (h.a x hx).keep hb hB⟩
abbrev rcs (l : List (Rc × Value)) : List Rc := l.map (·.1)
theorem SlAt.recs {w : World} {v : Value} {l : List (Rc × Value)} (h : SlAt rcc 6 w v l) : ∃ a cap, v = .slice a l.length cap ∧ l.length ≤ 9223372036854775807 ∧ l.length ≤ cap ∧ (0 < l.length → ∃ bk o, a = some ⟨bk, o, none⟩ ∧ bk < w.heap.size ∧ ∀ j x, l[j]? = some x → w.cell? ⟨bk, o + j * 6, none⟩ = some (.int .i64 x.1.origin) ∧ w.cell? ⟨bk, o + j * 6 + 1, none⟩ = some (.int .u32 x.1.epoch) ∧ w.cell? ⟨bk, o + j * 6 + 2, none⟩ = some (.int .u32 x.1.seq) ∧ w.cell? ⟨bk, o + j * 6 + 3, none⟩ = some (.int .i64 x.1.claim) ∧ w.cell? ⟨bk, o + j * 6 + 4, none⟩ = some (.bool x.1.ing) ∧ w.cell? ⟨bk, o + j * 6 + 5, none⟩ = some x.2) := by
  obtain ⟨a, cap, rfl, h0, h1, h2⟩ := h
  refine ⟨a, cap, rfl, h0, h1, fun hp => ?_⟩
  obtain ⟨bk, o, rfl, h3, h4⟩ := h2 hp
  exact ⟨bk, o, rfl, h3, fun j z hz => ⟨h4 j z hz 0 _ rfl, h4 j z hz 1 _ rfl, h4 j z hz 2 _ rfl, h4 j z hz 3 _ rfl, h4 j z hz 4 _ rfl, h4 j z hz 5 _ rfl⟩⟩
theorem putAdjs_snoc (c : Nat → Nat → Int) (o : Nat) (l : List (Int × Int)) (x : Int × Int) : putAdjs c o (l ++ [x]) = put2 (putAdjs c o l) o x.1.toNat x.2 := by simp [putAdjs, List.foldl_append]
theorem costL_snoc (c : Nat → Nat → Int) (rs : List Rc) (r : Rc) : costL c (rs ++ [r]) = putAdjs (costL c rs) r.origin.toNat r.adjs := by simp [costL, List.foldl_append]
theorem thereL_snoc (f : Nat → Bool) (rs : List Rc) (r : Rc) : thereL f (rs ++ [r]) = mk1 (thereL f rs) r.origin.toNat := by simp [thereL, List.foldl_append]
end Go.Proofs.Ytaldehgggilmdaa
