/- The law BitsLow, walked. -/
import Derived.Test.YtjpnbjfomikhaaaDoorHW
import Derived.Test.YtjpnbjfomikhaaaDoorBL
namespace Go.Proofs.YtjpnbjfomikhaaaDoor
open Go.RowKit

theorem lst_sorted {N k p m : Nat} (h1 : (lst N)[k]? = some p) (h2 : (lst N)[k + 1]? = some m) : p < m := by
  have hp : (lst N).Pairwise (· < ·) := List.Pairwise.filter _ List.pairwise_lt_range
  obtain ⟨l1, e1⟩ := List.getElem?_eq_some_iff.1 h1
  obtain ⟨l2, e2⟩ := List.getElem?_eq_some_iff.1 h2
  rw [← e1, ← e2]
  exact List.pairwise_iff_getElem.1 hp k (k + 1) l1 l2 (by omega)
theorem list_cells (N : Nat) (hN : N < 2 ^ 256) (w : World) (ht : Tabs w) :
    Calls Tryd.prog 21 #[bs N] w fun e w' => ∃ a cap, e = .returned (.slice a (lst N).length cap) ∧ (∀ j m : Nat, (lst N)[j]? = some m → ∃ g, a = some ⟨g, 0, none⟩ ∧ g < w'.heap.size ∧ w'.cell? ⟨g, j, none⟩ = some (.int .i64 ((m : Int) + 1))) ∧ Below w.heap.size w w' := by
  refine (list_any N hN w ht).mono ?_
  rintro e w' ⟨v, rfl, hr, hb⟩
  rcases hr.2 with ⟨rfl, h0⟩ | ⟨g, cap, cur, rfl, hbase, hg, _⟩
  · have e : lst N = [] := List.eq_nil_of_length_eq_zero h0
    rw [e]
    exact ⟨none, 0, rfl, fun j m hj => by simp at hj, hb⟩
  · refine ⟨some ⟨g, 0, none⟩, cap, rfl, fun j m hj => ⟨g, rfl, (Array.getElem?_eq_some_iff.1 hg).1, ?_⟩, hb⟩
    have hlt : j < (lst N).length := (List.getElem?_eq_some_iff.1 hj).1
    rw [hr.cellAt j (by omega)]
    unfold iv
    rw [List.getElem?_map, hj]
    rfl
theorem has_is (N : Nat) (hN : N < 2 ^ 256) (m : Nat) (hm : m < 256) (b : Bool) (h : N.testBit m = b) (w : World) :
    Calls Tryd.prog 5 #[bs N, .int .i64 ((m : Int) + 1)] w fun e w' => e = .returned (.bool b) ∧ Below w.heap.size w w' := by
  rw [← h]; exact has_yes N hN m hm w
theorem count_is (N c : Nat) (h : (lst N).length = c) (w : World) :
    Calls Tryd.prog 9 #[bs N] w fun e w' => e = .returned (.int .i64 (c : Int)) ∧ Below w.heap.size w w' := by
  rw [← h, lst_length]; exact count_any N w

theorem count_suc (N c : Nat) (h : (lst N).length = c + 1) (w : World) :
    Calls Tryd.prog 9 #[bs N] w fun e w' => e = .returned (.int .i64 ((c : Int) + 1)) ∧ Below w.heap.size w w' := by
  have := count_is N (c + 1) h w
  simpa using this

end Go.Proofs.YtjpnbjfomikhaaaDoor
