/- The document's Below; the greatest bit. -/
import Derived.Test.YtjpnbjfomikhaaaDoorRL
namespace Go.Proofs.YtjpnbjfomikhaaaDoor
open Go.RowKit

theorem testBit_ge {N L j : Nat} (h : N < 2 ^ L) (hj : L ≤ j) : N.testBit j = false :=
  Nat.testBit_lt_two_pow (Nat.lt_of_lt_of_le h (Nat.pow_le_pow_right (by decide) hj))
theorem lstTo_top {N L : Nat} (h : N < 2 ^ L) : ∀ k, L ≤ k → lstTo k N = lstTo L N := by
  intro k hk
  obtain ⟨d, rfl⟩ : ∃ d, k = L + d := ⟨k - L, by omega⟩
  clear hk
  induction d with
  | zero => rfl
  | succ d ih => rw [← Nat.add_assoc, lstTo_no (testBit_ge h (by omega)), ih]
theorem top_bit {N : Nat} (h : N ≠ 0) : N.testBit (bl N - 1) = true := by
  have h1 : 1 ≤ bl N := by unfold bl; rw [if_neg h]; omega
  have h2 : ¬ N < 2 ^ (bl N - 1) := by rw [← bl_le]; omega
  have h3 : N < 2 ^ (bl N) := bl_le.1 (Nat.le_refl _)
  have h4 : N / 2 ^ (bl N - 1) = 1 := by
    have e : 2 ^ bl N = 2 ^ (bl N - 1) * 2 := by rw [← Nat.pow_succ]; congr 1; omega
    rw [e] at h3
    have a : N / 2 ^ (bl N - 1) < 2 := Nat.div_lt_of_lt_mul h3
    have b : 1 ≤ N / 2 ^ (bl N - 1) := (Nat.le_div_iff_mul_le (Nat.pow_pos (by decide))).2 (by omega)
    omega
  rw [Nat.testBit_eq_decide_div_mod_eq, h4]
  rfl
theorem lst_top {N : Nat} (hN : N < 2 ^ 256) (h : N ≠ 0) : lst N = lstTo (bl N - 1) N ++ [bl N - 1] := by
  have h1 : 1 ≤ bl N := by unfold bl; rw [if_neg h]; omega
  have e : lst N = lstTo (bl N) N := lstTo_top (bl_le.1 (Nat.le_refl _)) 256 (bl_256 hN)
  rw [e]
  have e2 : bl N = (bl N - 1) + 1 := by omega
  rw [e2, lstTo_yes (top_bit h)]
  rfl
theorem lst_last {N : Nat} (hN : N < 2 ^ 256) (h : N ≠ 0) : (lst N)[(lst N).length - 1]? = some (bl N - 1) := by
  rw [lst_top hN h]; simp
theorem lst_pos {N : Nat} (hN : N < 2 ^ 256) (h : N ≠ 0) : 0 < (lst N).length := by rw [lst_top hN h]; simp

/-- A slice's cells hold the bits l. -/
def BitsAt (W : World) (base : Nat) (a : Option Addr) (l : List Nat) : Prop :=
  ∀ (j m : Nat), l[j]? = some m → ∃ g, a = some ⟨g, 0, none⟩ ∧ base ≤ g ∧ g < W.heap.size ∧ W.cell? ⟨g, j, none⟩ = some (.int .i64 ((m : Int) + 1))
theorem BitsAt.keep {W W' : World} {base B : Nat} {a : Option Addr} {l : List Nat} (h : BitsAt W base a l) (hb : Below B W W') (hB : W.heap.size ≤ B) : BitsAt W' base a l := by
  intro j m hj
  obtain ⟨g, ha, h1, h2, h3⟩ := h j m hj
  exact ⟨g, ha, h1, Nat.lt_of_lt_of_le h2 hb.size, (hb.cell (p := ⟨g, j, none⟩) (Nat.lt_of_lt_of_le h2 hB)).trans h3⟩
theorem bitsAt_of {W : World} {base : Nat} {v : Value} {l : List Nat} (h : W.ownsRow base 3 1 v l.length (bitVals l)) : ∃ a cap, v = .slice a l.length cap ∧ BitsAt W base a l := by
  rcases h.2 with ⟨rfl, h0⟩ | ⟨g, cap, cur, rfl, hb, hg, _⟩
  · have e : l = [] := List.eq_nil_of_length_eq_zero h0
    subst e
    exact ⟨none, 0, rfl, fun j m hj => by simp at hj⟩
  · refine ⟨some ⟨g, 0, none⟩, cap, rfl, fun j m hj => ⟨g, rfl, hb, (Array.getElem?_eq_some_iff.1 hg).1, ?_⟩⟩
    have hlt : j < l.length := (List.getElem?_eq_some_iff.1 hj).1
    rw [h.cellAt j (by omega)]
    unfold bitVals
    rw [List.getElem?_map, hj]
    rfl
theorem rlist_slice (N : Nat) (w : World) :
    Calls Tryd.prog 19 #[bs N] w fun e w' => ∃ a cap, e = .returned (.slice a (lst N).length cap) ∧ BitsAt w' (w.heap.size + 1) a (lst N) ∧ Below w.heap.size w w' := by
  refine (rlist_any N w).mono ?_
  rintro e w' ⟨v, rfl, hr, hb⟩
  obtain ⟨a, cap, rfl, h⟩ := bitsAt_of hr
  exact ⟨a, cap, rfl, h, hb⟩

set_option maxRecDepth 100000 in
set_option maxHeartbeats 1000000 in
theorem rbelow_zero (width : Int) (h0 : 0 ≤ width) (h1 : width ≤ 256) (w : World) :
    Calls Tryd.prog 12 #[bs 0, .int .i64 width] w fun e w' => e = .returned (.bool true) ∧ Below w.heap.size w w' := by
  unfold bs
  go_enter Tryd.func12, Tryd.ntmps12
  go_wp2_with fail
  refine (rlist_slice 0 _).mono ?_
  rintro e w1 ⟨a, cap, rfl, _, hb1⟩
  rw [lst_zero]
  go_wp2
  go_ret
  exact ⟨rfl, Below.trans (by go_grown) (hb1.mono (by simp))⟩

set_option maxRecDepth 100000 in
set_option maxHeartbeats 1000000 in
theorem rbelow_yes (N : Nat) (hN : N < 2 ^ 256) (hz : N ≠ 0) (width : Int) (h0 : 0 ≤ width) (h1 : width ≤ 256) (h2 : (bl N : Int) ≤ width) (w : World) :
    Calls Tryd.prog 12 #[bs N, .int .i64 width] w fun e w' => e = .returned (.bool true) ∧ Below w.heap.size w w' := by
  have hl := lst_last hN hz
  have hp := lst_pos hN hz
  have hb1 : 1 ≤ bl N := by unfold bl; rw [if_neg hz]; omega
  have hlen : (lst N).length ≤ 256 := by have := cntTo_le 256 N; rw [← lst_length] at this; exact this
  unfold bs
  go_enter Tryd.func12, Tryd.ntmps12
  go_wp2_with fail
  refine (rlist_slice N _).mono ?_
  rintro e w1 ⟨a, cap, rfl, hat, hw1⟩
  obtain ⟨g, rfl, _, hg, hc⟩ := hat _ _ hl
  clear hat hl hN hz
  generalize (lst N).length = n at *
  have hc' : w1.cell? ⟨g, n - 1, none⟩ = some (.int .i64 (bl N : Int)) := by rw [hc]; congr 2; omega
  have hd : ((n : Int) == 0) = false := by simp; omega
  clear hc
  generalize bl N = L at *
  go_wp2
  go_ret
  exact ⟨rfl, Below.trans ((Below.refl _ w).alloc (Nat.le_refl _) _) (hw1.mono (by simp))⟩

set_option maxRecDepth 100000 in
set_option maxHeartbeats 1000000 in
theorem rbelow_off (N : Nat) (width : Int) (h : width < 0 ∨ 256 < width) (w : World) :
    Calls Tryd.prog 12 #[bs N, .int .i64 width] w fun e w' => e = .returned (.bool false) ∧ Below w.heap.size w w' := by
  unfold bs
  by_cases h0 : width < 0
  · clear h
    go_enter Tryd.func12, Tryd.ntmps12
    go_wp2_with fail
    refine (rlist_slice N _).mono ?_
    rintro e w1 ⟨a, cap, rfl, _, hb1⟩
    go_wp2
    go_ret
    exact ⟨rfl, Below.trans ((Below.refl _ w).alloc (Nat.le_refl _) _) (hb1.mono (by simp))⟩
  · have h0' : 0 ≤ width := by omega
    have h1 : 256 < width := by omega
    have h1' : decide (width ≤ 256) = false := by simp; omega
    clear h h0
    go_enter Tryd.func12, Tryd.ntmps12
    go_wp2_with fail
    refine (rlist_slice N _).mono ?_
    rintro e w1 ⟨a, cap, rfl, _, hb1⟩
    go_wp2
    go_ret
    exact ⟨rfl, Below.trans ((Below.refl _ w).alloc (Nat.le_refl _) _) (hb1.mono (by simp))⟩

set_option maxRecDepth 100000 in
set_option maxHeartbeats 1000000 in
theorem rbelow_long (N : Nat) (hN : N < 2 ^ 256) (width : Int) (h0 : 0 ≤ width) (h1 : width ≤ 256) (h2 : width < (bl N : Int)) (w : World) :
    Calls Tryd.prog 12 #[bs N, .int .i64 width] w fun e w' => e = .returned (.bool false) ∧ Below w.heap.size w w' := by
  have hz : N ≠ 0 := by rintro rfl; simp [bl] at h2; omega
  have hl := lst_last hN hz
  have hp := lst_pos hN hz
  have hb1 : 1 ≤ bl N := by omega
  have hlen : (lst N).length ≤ 256 := by have := cntTo_le 256 N; rw [← lst_length] at this; exact this
  unfold bs
  go_enter Tryd.func12, Tryd.ntmps12
  go_wp2_with fail
  refine (rlist_slice N _).mono ?_
  rintro e w1 ⟨a, cap, rfl, hat, hw1⟩
  obtain ⟨g, rfl, _, hg, hc⟩ := hat _ _ hl
  clear hat hl hN hz
  generalize (lst N).length = n at *
  have hc' : w1.cell? ⟨g, n - 1, none⟩ = some (.int .i64 (bl N : Int)) := by rw [hc]; congr 2; omega
  have hd : ((n : Int) == 0) = false := by simp; omega
  clear hc
  generalize bl N = L at *
  have h3 : decide ((L : Int) ≤ width) = false := by simp; omega
  go_wp2
  go_ret
  exact ⟨rfl, Below.trans ((Below.refl _ w).alloc (Nat.le_refl _) _) (hw1.mono (by simp))⟩
end Go.Proofs.YtjpnbjfomikhaaaDoor
