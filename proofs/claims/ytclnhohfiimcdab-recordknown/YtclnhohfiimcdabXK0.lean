/- What RecordKnown asks, call by call. -/
import Derived.Test.YtclnhohfiimcdabX7
import Derived.Test.YtclnhohfiimcdabXE
import Derived.Test.YtclnhohfiimcdabXO
namespace Go.Proofs.Ytclnhohfiimcdab
open Go.RowKit

/-- Bytes that are no record's. -/
theorem decode_no (b : ByteArray) (hb : b.size ≤ maxLen) (h : rdOk b = false) (w : World) : Calls Try.prog 7 #[.string b] w fun e w' => (∃ a cap, e = .returned (.tuple #[.agg #[.int .i64 0, .int .u32 0, .int .u32 0, .int .i64 0, .bool false, .slice a 0 cap], .int .i64 4])) ∧ Below w.heap.size w w' := by
  have hd := decode_any b hb w
  rw [deA_no h] at hd
  refine hd.mono ?_
  rintro e w' ⟨⟨v, rfl, hrow⟩, hb'⟩
  obtain ⟨a, cap, rfl⟩ := row_shape hrow
  exact ⟨⟨a, cap, rfl⟩, hb'⟩
theorem known_a : rdOk ⟨#[1, 0, 0, 0, 1, 0, 0, 0, 2, 1, 2, 1, 1, 2, 0]⟩ = false := by decide
theorem known_b : rdOk ⟨#[1, 0, 0, 0, 1, 0, 0, 0, 2, 1, 2, 1, 1, 2, 0, 5, 0]⟩ = false := by decide
theorem known_c : rdOk ⟨#[1, 0, 0, 0, 1, 0, 0, 0, 2, 1, 2, 2, 1, 2, 0, 5]⟩ = false := by decide
theorem known_d : rdOk ⟨#[]⟩ = false := by decide
/-- The nine records that are none. -/
def wrongL : List Rc := [⟨0, 0, 0, 0, false, []⟩, ⟨1, 0, 1, 0, false, []⟩, ⟨1, 1, 0, 0, false, []⟩, ⟨25, 1, 1, 0, false, []⟩, ⟨1, 1, 1, 1025, false, []⟩, ⟨1, 1, 1, -1, false, []⟩, ⟨1, 1, 1, 0, false, [(3, 1), (2, 1)]⟩, ⟨1, 1, 1, 0, false, [(1, 1)]⟩, ⟨1, 1, 1, 0, false, List.replicate 17 (0, 0)⟩]
theorem wrong_ck : ∀ r ∈ wrongL, ckN r = 2 := by decide
theorem one_ck : ckN ⟨1, 1, 1, 0, false, []⟩ = 0 := by decide
theorem known_es : (esA 3 1 1).2 = 0 := by decide
theorem known_es0 : (esA 0 1 1).2 = 2 := by decide
theorem known_ds : dsA ⟨#[3, 0, 0, 0, 1, 0, 0, 0, 1]⟩ = ((3, 1, 1), 0) := by decide
theorem known_ds0 : (dsA ⟨#[3, 0, 0, 0, 0, 0, 0, 0, 1]⟩).2 = 4 := by decide
theorem known_n : newI 1 9 2 1 = -1 ∧ newI 0 0 0 0 = 0 ∧ newI 2 3 2 2 = 1 := by decide
end Go.Proofs.Ytclnhohfiimcdab
