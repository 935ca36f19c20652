/- isRouter, isCost, rises, slices.Index, slices.Contains, isNode, nodesMayBe. -/
import Derived.Test.YtaldehgggilmdaaGM
namespace Go.Proofs.Ytaldehgggilmdaa
open Go.RowKit

abbrev ic (z : Int) : List Value := [.int .i64 z]
abbrev ec (e : Ed) : List Value := [.int .i64 e.1, .int .i64 e.2.1, .int .i64 e.2.2]
abbrev ac (x : Int × Int) : List Value := [.int .i64 x.1, .int .i64 x.2]
abbrev edV (e : Ed) : Value := .agg #[.int .i64 e.1, .int .i64 e.2.1, .int .i64 e.2.2]
abbrev adV (x : Int × Int) : Value := .agg #[.int .i64 x.1, .int .i64 x.2]
abbrev grV (vn ve : Value) : Value := .agg #[vn, ve]
theorem SlAt.ints {w : World} {v : Value} {zs : List Int} (h : SlAt ic 1 w v zs) : ∃ a cap, v = .slice a zs.length cap ∧ zs.length ≤ 9223372036854775807 ∧ zs.length ≤ cap ∧ (0 < zs.length → ∃ bk o, a = some ⟨bk, o, none⟩ ∧ bk < w.heap.size ∧ ∀ j z, zs[j]? = some z → w.cell? ⟨bk, o + j, none⟩ = some (.int .i64 z)) := by
  obtain ⟨a, cap, rfl, h0, h1, h2⟩ := h
  refine ⟨a, cap, rfl, h0, h1, fun hp => ?_⟩
  obtain ⟨bk, o, rfl, h3, h4⟩ := h2 hp
  refine ⟨bk, o, rfl, h3, fun j z hz => ?_⟩
  have := h4 j z hz 0 _ rfl
  rwa [Nat.mul_one, Nat.add_zero] at this
theorem SlAt.eds {w : World} {v : Value} {es : List Ed} (h : SlAt ec 3 w v es) : ∃ a cap, v = .slice a es.length cap ∧ es.length ≤ 9223372036854775807 ∧ es.length ≤ cap ∧ (0 < es.length → ∃ bk o, a = some ⟨bk, o, none⟩ ∧ bk < w.heap.size ∧ ∀ j e, es[j]? = some e → w.cell? ⟨bk, o + j * 3, none⟩ = some (.int .i64 e.1) ∧ w.cell? ⟨bk, o + j * 3 + 1, none⟩ = some (.int .i64 e.2.1) ∧ w.cell? ⟨bk, o + j * 3 + 2, none⟩ = some (.int .i64 e.2.2)) := by
  obtain ⟨a, cap, rfl, h0, h1, h2⟩ := h
  refine ⟨a, cap, rfl, h0, h1, fun hp => ?_⟩
  obtain ⟨bk, o, rfl, h3, h4⟩ := h2 hp
  exact ⟨bk, o, rfl, h3, fun j z hz => ⟨h4 j z hz 0 _ rfl, h4 j z hz 1 _ rfl, h4 j z hz 2 _ rfl⟩⟩
theorem SlAt.ads {w : World} {v : Value} {l : List (Int × Int)} (h : SlAt ac 2 w v l) : ∃ a cap, v = .slice a l.length cap ∧ l.length ≤ 9223372036854775807 ∧ l.length ≤ cap ∧ (0 < l.length → ∃ bk o, a = some ⟨bk, o, none⟩ ∧ bk < w.heap.size ∧ ∀ j e, l[j]? = some e → w.cell? ⟨bk, o + j * 2, none⟩ = some (.int .i64 e.1) ∧ w.cell? ⟨bk, o + j * 2 + 1, none⟩ = some (.int .i64 e.2)) := by
  obtain ⟨a, cap, rfl, h0, h1, h2⟩ := h
  refine ⟨a, cap, rfl, h0, h1, fun hp => ?_⟩
  obtain ⟨bk, o, rfl, h3, h4⟩ := h2 hp
  exact ⟨bk, o, rfl, h3, fun j z hz => ⟨h4 j z hz 0 _ rfl, h4 j z hz 1 _ rfl⟩⟩

theorem hasN_drop {zs : List Int} {k : Nat} {z n : Int} (h : zs[k]? = some z) : hasN (zs.drop k) n = (decide (z = n) || hasN (zs.drop (k + 1)) n) := by
  have h1 : zs.drop k = z :: zs.drop (k + 1) := by
    obtain ⟨h2, h3⟩ := List.getElem?_eq_some_iff.1 h
    rw [List.drop_eq_getElem_cons h2, h3]
  rw [h1, hasN, List.any_cons]
  rfl
theorem drop_next {α : Type} {l : List α} {k : Nat} {x : α} (h : l[k]? = some x) : l.drop k = x :: l.drop (k + 1) := by
  obtain ⟨h2, h3⟩ := List.getElem?_eq_some_iff.1 h
  rw [List.drop_eq_getElem_cons h2, h3]
end Go.Proofs.Ytaldehgggilmdaa
