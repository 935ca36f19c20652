/- record.Encode. -/
import Derived.Test.YteaaoipipjkgnaaX2
namespace Go.Proofs.Yteaaoipipjkgnaa
open Go.RowKit

/-- What Encode answers. -/
def enA (r : Rc) : ByteArray × Int := if recOk r then (encS r, 0) else (⟨#[]⟩, 2)
/-- While Encode lays: what is laid, the record's own block, what was there. -/
structure EnM (w V : World) (B : Nat) (r : Rc) (va : Value) (s : ByteArray) : Prop where
  l : LyM V B s
  x : V.heap[w.heap.size]? = some (recO r va)
  b : Below w.heap.size w V
theorem EnM.keep {w V V' : World} {B : Nat} {r : Rc} {va : Value} {s : ByteArray} (h : EnM w V B r va s) (hb : Below V.heap.size V V') : EnM w V' B r va s :=
  ⟨h.l.keep hb, (hb.block _ (block_lt h.x)).trans h.x, h.b.trans (hb.mono h.b.size)⟩
theorem EnM.fr {w V V' : World} {B : Nat} {r : Rc} {va : Value} {s t : ByteArray} (h : EnM w V B r va s) (hB : w.heap.size < B) (hl : LyM V' B t) (hf : Fr (LyS B) V V') : EnM w V' B r va t :=
  ⟨hl, (hf.block _ (block_lt h.x) (by unfold LyS; omega)).trans h.x, h.b.trans (hf.below h.b.size (fun k hk => by rcases hk with rfl | rfl <;> omega))⟩
theorem EnM.put {w V : World} {B : Nat} {r : Rc} {va : Value} {s : ByteArray} (h : EnM w V B r va s) (hB : w.heap.size < B) (v n : Nat) (hs : s.size ≤ 1000000) (hn : NumB v n) :
    Calls Try.prog 89 #[.int .u64 v, .int .i64 n, .pointer (some ⟨B + 1, 0, none⟩), .pointer (some ⟨B, 0, none⟩)] V fun e V' => (∃ r, e = .returned r) ∧ EnM w V' B r va (s ++ ly v n) ∧ Fr (LyS B) V V' := by
  refine (put_any h.l v n hs hn).mono ?_
  rintro e V' ⟨h1, h2, h3⟩
  exact ⟨h1, h.fr hB h2 h3, h3⟩
end Go.Proofs.Yteaaoipipjkgnaa
