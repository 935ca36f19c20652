/- A store filled. -/
import Derived.Test.YtpdpdhnllmlfdaaN7
namespace Go.Proofs.Ytpdpdhnllmlfdaa
open Go.RowKit Go.Maps

/-- A store that was made. -/
def FilAns (w w' : World) (rs : List Rc) (e : Ending) : Prop := ∃ S M f, e = .returned (ptr S) ∧ StAt w' S M 40 f ∧ fR f = runR rs ∧ w.heap.size ≤ S ∧ w.heap.size ≤ M
def ordT (t : Bool) (l : List Te) : List Rc := (if t = true then l.reverse else l).map tellR
theorem SlAt.tes {w : World} {v : Value} {l : List Te} (h : SlAt te4 4 w v l) : ∃ a cap, v = .slice a l.length cap ∧ l.length ≤ 9223372036854775807 ∧ l.length ≤ cap ∧ (0 < l.length → ∃ bk o, a = some ⟨bk, o, none⟩ ∧ bk < w.heap.size ∧ ∀ j x, l[j]? = some x → w.cell? ⟨bk, o + j * 4, none⟩ = some (.int .u8 x.1) ∧ w.cell? ⟨bk, o + j * 4 + 1, none⟩ = some (.int .u8 x.2.1) ∧ w.cell? ⟨bk, o + j * 4 + 2, none⟩ = some (.int .u8 x.2.2.1) ∧ w.cell? ⟨bk, o + j * 4 + 3, none⟩ = some (.int .u8 x.2.2.2)) := by
  obtain ⟨a, cap, rfl, h0, h1, h2⟩ := h
  refine ⟨a, cap, rfl, h0, h1, fun hp => ?_⟩
  obtain ⟨bk, o, rfl, h3, h4⟩ := h2 hp
  exact ⟨bk, o, rfl, h3, fun j z hz => ⟨h4 j z hz 0 _ rfl, h4 j z hz 1 _ rfl, h4 j z hz 2 _ rfl, h4 j z hz 3 _ rfl⟩⟩
theorem ordT_at {t : Bool} {l : List Te} {k : Nat} (hk : k < l.length) : ∃ j x, j < l.length ∧ l[j]? = some x ∧ (ordT t l)[k]? = some (tellR x) ∧ j = (if t = true then l.length - 1 - k else k) := by
  unfold ordT
  cases t with
  | false => exact ⟨k, l[k], hk, List.getElem?_eq_getElem hk, by simp [hk], by simp⟩
  | true =>
    refine ⟨l.length - 1 - k, l[l.length - 1 - k], by omega, List.getElem?_eq_getElem _, ?_, by simp⟩
    simp only [if_true, List.getElem?_map]
    rw [List.getElem?_reverse hk, List.getElem?_eq_getElem (by omega)]
    rfl
end Go.Proofs.Ytpdpdhnllmlfdaa
