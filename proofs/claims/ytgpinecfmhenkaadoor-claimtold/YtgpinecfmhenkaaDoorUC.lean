/- ClaimOrder. -/
import Derived.Test.YtgpinecfmhenkaaDoorUC0
namespace Go.Proofs.YtgpinecfmhenkaaDoor
open Go.RowKit

theorem SlAt.cut {α : Type} {cs : α → List Value} {sz : Nat} {w : World} {a : Option Addr} {n cap : Nat} {l : List α} (h : SlAt cs sz w (.slice a n cap) l) (k : Nat) : SlAt cs sz w (.slice a (l.take k).length cap) (l.take k) := by
  obtain ⟨a', c', he, h0, h1, h2⟩ := h
  simp only [Value.slice.injEq] at he
  obtain ⟨rfl, rfl, rfl⟩ := he
  have hle : (l.take k).length ≤ l.length := by rw [List.length_take]; omega
  refine ⟨_, _, rfl, by omega, by omega, fun hp => ?_⟩
  obtain ⟨bk, o, h3, h4, h5⟩ := h2 (by omega)
  refine ⟨bk, o, h3, h4, fun j x hx => h5 j x ?_⟩
  rw [List.getElem?_take] at hx
  split at hx
  · exact hx
  · cases hx
theorem TAt.op {w : World} {u : Value} {T : List (Int × List Int)} (h : TAt w u T) : ∃ a cap, u = .slice a T.length cap ∧ T.length ≤ 9223372036854775807 ∧ T.length ≤ cap ∧ (0 < T.length → ∃ bk o, a = some ⟨bk, o, none⟩ ∧ bk < w.heap.size ∧ ∀ j p, T[j]? = some p → ∃ va vc, w.cell? ⟨bk, o + j * 2, none⟩ = some (.int .i64 p.1) ∧ w.cell? ⟨bk, o + j * 2 + 1, none⟩ = some (.slice va p.2.length vc) ∧ (0 < p.2.length → ∃ vb vo, va = some ⟨vb, vo, none⟩ ∧ vb < w.heap.size ∧ ∀ i y, p.2[i]? = some y → w.cell? ⟨vb, vo + i, none⟩ = some (.int .i64 y))) := by
  obtain ⟨L, h1, rfl⟩ := h
  obtain ⟨a, cap, h2, h3, h4, h5⟩ := h1.r.clms
  have hl : (cls L).length = L.length := List.length_map _
  refine ⟨a, cap, by rw [hl]; exact h2, by omega, by omega, fun hp => ?_⟩
  obtain ⟨bk, o, h6, h7, h8⟩ := h5 (by omega)
  refine ⟨bk, o, h6, h7, fun j p hp => ?_⟩
  rw [List.getElem?_map] at hp
  obtain ⟨x, hx, rfl⟩ := Option.map_eq_some_iff.1 hp
  obtain ⟨g1, g2⟩ := h8 j x hx
  obtain ⟨va, vc, e1, _, _, e4⟩ := (h1.a x (List.mem_of_getElem? hx)).1.ints
  exact ⟨va, vc, g1, by rw [g2, e1], e4⟩
theorem tAt_ans {w w' : World} {T : List (Int × List Int)} {u : Value} (h : ClsAns w w' T u) : TAt w' u T := h.at
end Go.Proofs.YtgpinecfmhenkaaDoor
