/- Lists of numbers in memory (as in the graph's texts: in a seat with both take those). -/
import Derived.Test.YtcgndpenalcpeaaGM
namespace Go.Proofs.Ytcgndpenalcpeaa
open Go.RowKit

abbrev ic (z : Int) : List Value := [.int .i64 z]
theorem SlAt.ints {w : World} {v : Value} {zs : List Int} (h : SlAt ic 1 w v zs) : ∃ a cap, v = .slice a zs.length cap ∧ zs.length ≤ 9223372036854775807 ∧ zs.length ≤ cap ∧ (0 < zs.length → ∃ bk o, a = some ⟨bk, o, none⟩ ∧ bk < w.heap.size ∧ ∀ j z, zs[j]? = some z → w.cell? ⟨bk, o + j, none⟩ = some (.int .i64 z)) := by
  obtain ⟨a, cap, rfl, h0, h1, h2⟩ := h
  refine ⟨a, cap, rfl, h0, h1, fun hp => ?_⟩
  obtain ⟨bk, o, rfl, h3, h4⟩ := h2 hp
  refine ⟨bk, o, rfl, h3, fun j z hz => ?_⟩
  have := h4 j z hz 0 _ rfl
  rwa [Nat.mul_one, Nat.add_zero] at this
theorem infoInt : (Try.prog.info? 3).map (fun i => (i.zero, i.size, i.bytes)) = some (some (.int .i64 0), 1, 8) := by kernel_rfl
theorem append_int {W : World} {base k : Nat} {u : Value} {l : List Int} (hr : W.ownsRow base 3 1 u k (fl ic l)) (x : Int) (hk : (k + 1) * 8 ≤ 140737488355328) (hbase : base ≤ W.heap.size) :
    ∃ g cap w6, (Builtin.append_ #[23, 23] 23 #[u, .slice (some ⟨W.heap.size, 0, none⟩) 1 1]).run Try.prog (W.alloc (.cells (ic x).toArray 3)) = .ok (.slice (some ⟨g, 0, none⟩) (k + 1) cap) w6 ∧
      w6.ownsRow base 3 1 (.slice (some ⟨g, 0, none⟩) (k + 1) cap) (k + 1) (fl ic (l ++ [x])) ∧ (u.ownBlock = some g ∨ g = W.heap.size + 1) ∧ W.grownBy w6 u.ownBlock ∧ Below base W w6 :=
  append_one (P := Try.prog) (cs := ic) (T := 23) (fun _ => rfl) (fun _ => by simp [Value.oneCell']) Try.underlying23 infoInt rfl (by decide) hr x hk (by unfold maxLen; omega) hbase
theorem take_snoc {α : Type} {l : List α} {k : Nat} {x : α} (h : l[k]? = some x) : l.take (k + 1) = l.take k ++ [x] := by rw [List.take_add_one, h]; rfl
theorem below_drewN {B : Nat} {w V : World} (h : Below B w V) (n : Nat) : Below B w (V.drewN n) := ⟨h.os, h.tape, h.output, h.size, h.block⟩
def NilOk (v : Value) : Prop := (∃ a n c, v = .slice (some a) n c) ∨ v = .slice none 0 0
theorem cints_map (l : List Int) : fl ic l = l.map (Value.int .i64) := by
  induction l with
  | nil => rfl
  | cons a l ih => unfold fl at ih ⊢; rw [List.flatMap_cons, ih]; rfl
/-- An own row that may be written. -/
theorem row_write {w : World} {base n cap sz : Nat} {a : Option Addr} {e : TypeId} {xs : List Value} (hr : w.ownsRow base e sz (.slice a n cap) n xs) (h0 : 0 < n) : ∃ g, a = some ⟨g, 0, none⟩ ∧ base ≤ g ∧ g < w.heap.size ∧ (∀ j, j < n * sz → ∃ v, w.cell? ⟨g, j, none⟩ = some v) ∧ ∀ j, w.frozen? ⟨g, j, none⟩ = false := by
  rcases hr.2 with ⟨_, h⟩ | ⟨g, cap', cur, h, hb, hh, h1, _, h3, _⟩
  · omega
  · simp at h
    obtain ⟨rfl, rfl⟩ := h
    refine ⟨g, rfl, hb, block_lt hh, fun j hj => ?_, fun j => frozen_new hh j⟩
    have : n * sz ≤ cap * sz := Nat.mul_le_mul_right _ h1
    rw [cell_of_row w g j cur e _ hh]
    exact ⟨cur[j]'(by omega), Array.getElem?_eq_getElem _⟩

end Go.Proofs.Ytcgndpenalcpeaa
