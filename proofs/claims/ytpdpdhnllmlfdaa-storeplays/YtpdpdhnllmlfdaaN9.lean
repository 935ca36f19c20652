/- StoreNewest. -/
import Derived.Test.YtpdpdhnllmlfdaaN8
import Derived.Test.YtpdpdhnllmlfdaaXE
namespace Go.Proofs.Ytpdpdhnllmlfdaa
open Go.RowKit Go.Maps

theorem nwst_of {O : List Rc} {i : Nat} {r : Rc} (hr : O[i]? = some r) (hok : recOk r = true) : ∃ g, runR O r.origin = some g ∧ Nwst O r.origin g := by
  cases h : runR O r.origin with
  | none => exact absurd rfl ((runR_is O r.origin).2 h r (List.mem_of_getElem? hr) hok)
  | some g => exact ⟨g, rfl, (runR_is O r.origin).1 g h⟩
theorem fR_some {f : Sf} {k : Int} {g : Rc} (h : fR f k = some g) : rOf (f k) = g ∧ (f k).isSome = true := by
  unfold fR at h
  cases h1 : f k with
  | none => rw [h1] at h; cases h
  | some p => rw [h1] at h; exact ⟨by simpa [rOf] using h, rfl⟩
theorem SlAt.sts {w : World} {a : Option Addr} {n cap : Nat} {l : List Ed} (h : SlAt sc3 3 w (.slice a n cap) l) : 0 < n → ∃ bk o, a = some ⟨bk, o, none⟩ ∧ bk < w.heap.size ∧ ∀ j x, l[j]? = some x → w.cell? ⟨bk, o + j * 3, none⟩ = some (.int .i64 x.1) ∧ w.cell? ⟨bk, o + j * 3 + 1, none⟩ = some (.int .u32 x.2.1) ∧ w.cell? ⟨bk, o + j * 3 + 2, none⟩ = some (.int .u32 x.2.2) := by
  obtain ⟨a', cap', he, h0, h1, h2⟩ := h
  simp only [Value.slice.injEq] at he
  obtain ⟨rfl, rfl, rfl⟩ := he
  intro hp
  obtain ⟨bk, o, rfl, h3, h4⟩ := h2 hp
  exact ⟨bk, o, rfl, h3, fun j z hz => ⟨h4 j z hz 0 _ rfl, h4 j z hz 1 _ rfl, h4 j z hz 2 _ rfl⟩⟩
theorem eqSt (a b : Ed) (w : World) : (Op.equalIn 10000 71 (.agg #[.int .i64 a.1, .int .u32 a.2.1, .int .u32 a.2.2]) (.agg #[.int .i64 b.1, .int .u32 b.2.1, .int .u32 b.2.2])).run Try.prog w = Result.ok (decide (a = b)) w := by
  rw [eq_stamp]
  obtain ⟨a0, a1, a2⟩ := a
  obtain ⟨b0, b1, b2⟩ := b
  congr 1
  by_cases h : ((a0, a1, a2) : Ed) = (b0, b1, b2)
  · rw [decide_eq_true h]
    simp only [Prod.mk.injEq] at h
    simp [h]
  · rw [decide_eq_false h]
    simp only [Prod.mk.injEq] at h
    simp only [Bool.and_eq_false_iff, beq_eq_false_iff_ne]
    omega
end Go.Proofs.Ytpdpdhnllmlfdaa
