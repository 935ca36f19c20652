/- What Both answers, in one form; of records turned about. -/
import Derived.Test.YtkhfpcnmnnboeaaGR
import Derived.Test.YtkhfpcnmnnboeaaGH
namespace Go.Proofs.Ytkhfpcnmnnboeaa
open Go.RowKit

def ansN (rs : List Rc) : List Int := if bothOk no1 rs = true then bothN rs else []
def ansE (rs : List Rc) : List Ed := if bothOk no1 rs = true then bothE rs else []
def ansC (rs : List Rc) : Int := if bothOk no1 rs = true then 0 else 2
theorem ans_turned (rs : List Rc) : ansN rs.reverse = ansN rs ∧ ansE rs.reverse = ansE rs ∧ ansC rs.reverse = ansC rs := by
  unfold ansN ansE ansC
  rw [both_reverse]
  by_cases h : bothOk no1 rs = true
  · simp only [if_pos h]
    exact ⟨bothN_reverse rs, bothE_reverse (both_unl.1 h), trivial⟩
  · simp [h]
theorem BothAns.uni {w w' : World} {l : List (Rc × Value)} {e : Ending} (h : BothAns w l e w') :
    ∃ ua ucap va vcap, e = .returned (.tuple #[grV (.slice ua (ansN (rcs l)).length ucap) (.slice va (ansE (rcs l)).length vcap), .int .i64 (ansC (rcs l))]) ∧
      w'.ownsRow w.heap.size 3 1 (.slice ua (ansN (rcs l)).length ucap) (ansN (rcs l)).length (fl ic (ansN (rcs l))) ∧ w'.ownsRow w.heap.size 64 3 (.slice va (ansE (rcs l)).length vcap) (ansE (rcs l)).length (fl ec (ansE (rcs l))) := by
  rcases h with ⟨hok, u, v, rfl, hu, hv⟩ | ⟨hno, rfl⟩
  · obtain ⟨ua, ucap, rfl⟩ := row_shape hu
    obtain ⟨va, vcap, rfl⟩ := row_shape hv
    unfold ansN ansE ansC
    rw [if_pos hok, if_pos hok, if_pos hok]
    exact ⟨ua, ucap, va, vcap, rfl, hu, hv⟩
  · have hno' : ¬ bothOk no1 (rcs l) = true := by rw [hno]; simp
    unfold ansN ansE ansC
    rw [if_neg hno', if_neg hno', if_neg hno']
    exact ⟨none, 0, none, 0, rfl, World.ownsRow_nil _ _ _ _, World.ownsRow_nil _ _ _ _⟩
theorem row_len {w : World} {base n k : Nat} {e : TypeId} {sz : Nat} {u : Value} {xs : List Value} (h : w.ownsRow base e sz u n xs) (hn : n = k) : w.ownsRow base e sz u k xs := by rw [← hn]; exact h
theorem row_cells {w : World} {base n cap : Nat} {a : Option Addr} {zs : List Int} (hr : w.ownsRow base 3 1 (.slice a (n + 1) cap) (n + 1) (fl ic zs)) (hz : zs.length = n + 1) : ∃ b o, a = some ⟨b, o, none⟩ ∧ b < w.heap.size ∧ ∀ j z, zs[j]? = some z → w.cell? ⟨b, o + j, none⟩ = some (.int .i64 z) := by
  obtain ⟨a', cap', he, _, _, h⟩ := (slAt_of_row (cs := ic) (fun _ => rfl) hr hz).ints
  simp at he
  obtain ⟨rfl, _, rfl⟩ := he
  exact h (by omega)
end Go.Proofs.Ytkhfpcnmnnboeaa
