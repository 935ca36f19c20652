/- The document's Below; the greatest bit. -/
import Derived.Test.YtkkkjpdmjgafoaaRL
namespace Go.Proofs.Ytkkkjpdmjgafoaa.Bi
open Go.RowKit

theorem testBit_ge {N L j : Nat} (h : N < 2 ^ L) (hj : L ≤ j) : N.testBit j = false :=
  Nat.testBit_lt_two_pow (Nat.lt_of_lt_of_le h (Nat.pow_le_pow_right (by decide) hj))
theorem lstTo_top {N L : Nat} (h : N < 2 ^ L) : ∀ k, L ≤ k → lstTo k N = lstTo L N := by
  intro k hk
  obtain ⟨d, rfl⟩ : ∃ d, k = L + d := ⟨k - L, by omega⟩
  clear hk
  induction d with
  | zero => rfl
  | succ d ih => rw [← Nat.add_assoc, lstTo_no (testBit_ge h (by omega)), ih]
theorem top_bit {N : Nat} (h : N ≠ 0) : N.testBit (bl N - 1) = true := by
  have h1 : 1 ≤ bl N := by unfold bl; rw [if_neg h]; omega
  have h2 : ¬ N < 2 ^ (bl N - 1) := by rw [← bl_le]; omega
  have h3 : N < 2 ^ (bl N) := bl_le.1 (Nat.le_refl _)
  have h4 : N / 2 ^ (bl N - 1) = 1 := by
    have e : 2 ^ bl N = 2 ^ (bl N - 1) * 2 := by rw [← Nat.pow_succ]; congr 1; omega
    rw [e] at h3
    have a : N / 2 ^ (bl N - 1) < 2 := Nat.div_lt_of_lt_mul h3
    have b : 1 ≤ N / 2 ^ (bl N - 1) := (Nat.le_div_iff_mul_le (Nat.pow_pos (by decide))).2 (by omega)
    omega
  rw [Nat.testBit_eq_decide_div_mod_eq, h4]
  rfl
theorem lst_top {N : Nat} (hN : N < 2 ^ 256) (h : N ≠ 0) : lst N = lstTo (bl N - 1) N ++ [bl N - 1] := by
  have h1 : 1 ≤ bl N := by unfold bl; rw [if_neg h]; omega
  have e : lst N = lstTo (bl N) N := lstTo_top (bl_le.1 (Nat.le_refl _)) 256 (bl_256 hN)
  rw [e]
  have e2 : bl N = (bl N - 1) + 1 := by omega
  rw [e2, lstTo_yes (top_bit h)]
  rfl
theorem lst_last {N : Nat} (hN : N < 2 ^ 256) (h : N ≠ 0) : (lst N)[(lst N).length - 1]? = some (bl N - 1) := by
  rw [lst_top hN h]; simp
theorem lst_pos {N : Nat} (hN : N < 2 ^ 256) (h : N ≠ 0) : 0 < (lst N).length := by rw [lst_top hN h]; simp

/-- A slice's cells hold the bits l. -/
def BitsAt (W : World) (base : Nat) (a : Option Addr) (l : List Nat) : Prop :=
  ∀ (j m : Nat), l[j]? = some m → ∃ g, a = some ⟨g, 0, none⟩ ∧ base ≤ g ∧ g < W.heap.size ∧ W.cell? ⟨g, j, none⟩ = some (.int .i64 ((m : Int) + 1))
theorem BitsAt.keep {W W' : World} {base B : Nat} {a : Option Addr} {l : List Nat} (h : BitsAt W base a l) (hb : Below B W W') (hB : W.heap.size ≤ B) : BitsAt W' base a l := by
  intro j m hj
  obtain ⟨g, ha, h1, h2, h3⟩ := h j m hj
  exact ⟨g, ha, h1, Nat.lt_of_lt_of_le h2 hb.size, (hb.cell (p := ⟨g, j, none⟩) (Nat.lt_of_lt_of_le h2 hB)).trans h3⟩
theorem bitsAt_of {W : World} {base : Nat} {v : Value} {l : List Nat} (h : W.ownsRow base 3 1 v l.length (bitVals l)) : ∃ a cap, v = .slice a l.length cap ∧ BitsAt W base a l := by
  rcases h.2 with ⟨rfl, h0⟩ | ⟨g, cap, cur, rfl, hb, hg, _⟩
  · have e : l = [] := List.eq_nil_of_length_eq_zero h0
    subst e
    exact ⟨none, 0, rfl, fun j m hj => by simp at hj⟩
  · refine ⟨some ⟨g, 0, none⟩, cap, rfl, fun j m hj => ⟨g, rfl, hb, (Array.getElem?_eq_some_iff.1 hg).1, ?_⟩⟩
    have hlt : j < l.length := (List.getElem?_eq_some_iff.1 hj).1
    rw [h.cellAt j (by omega)]
    unfold bitVals
    rw [List.getElem?_map, hj]
    rfl
theorem rlist_slice (N : Nat) (w : World) :
    Calls Try.prog 32 #[bs N] w fun e w' => ∃ a cap, e = .returned (.slice a (lst N).length cap) ∧ BitsAt w' (w.heap.size + 1) a (lst N) ∧ Below w.heap.size w w' := by
  refine (rlist_any N w).mono ?_
  rintro e w' ⟨v, rfl, hr, hb⟩
  obtain ⟨a, cap, rfl, h⟩ := bitsAt_of hr
  exact ⟨a, cap, rfl, h, hb⟩

end Go.Proofs.Ytkkkjpdmjgafoaa.Bi
