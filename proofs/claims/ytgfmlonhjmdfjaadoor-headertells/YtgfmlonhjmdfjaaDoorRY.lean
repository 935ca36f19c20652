/- The document's Bytes. -/
import Derived.Test.YtgfmlonhjmdfjaaDoorRB
import Derived.Test.YtgfmlonhjmdfjaaDoorB1
namespace Go.Proofs.YtgfmlonhjmdfjaaDoor
open Go.RowKit

set_option maxHeartbeats 400000 in
theorem rbytes_arg (N : Nat) (width : Int) (h : width < 8 ∨ 256 < width ∨ width % 8 ≠ 0) (w : World) :
    Calls Tryd.prog 28 #[bs N, .int .i64 width] w fun e w' => e = .returned (.tuple #[.string ⟨#[]⟩, .int .i64 2]) ∧ Below w.heap.size w w' := by
  unfold bs
  by_cases h0 : width < 8
  · have h0' : decide (width < 8) = true := by simpa using h0
    clear h
    go_enter Tryd.func28, Tryd.ntmps28
    go_wp2
    go_ret2
    exact ⟨rfl, by go_grown⟩
  · have h0' : 8 ≤ width := by omega
    by_cases h1 : 256 < width
    · have h1' : decide (256 < width) = true := by simpa using h1
      clear h
      go_enter Tryd.func28, Tryd.ntmps28
      go_wp2
      go_ret2
      exact ⟨rfl, by go_grown⟩
    · have h1' : width ≤ 256 := by omega
      have h2 : width % 8 ≠ 0 := by omega
      have h3 : (width % 8 != 0) = true := by simpa using h2
      clear h h0 h1
      go_enter Tryd.func28, Tryd.ntmps28
      go_wp2
      go_ret2
      exact ⟨rfl, by go_grown⟩

set_option maxHeartbeats 400000 in
theorem rbytes_long (N n : Nat) (hN : N < 2 ^ 256) (h1 : 1 ≤ n) (h2 : n ≤ 32) (hb : 8 * n < bl N) (w : World) :
    Calls Tryd.prog 28 #[bs N, .int .i64 (8 * (n : Int))] w fun e w' => e = .returned (.tuple #[.string ⟨#[]⟩, .int .i64 3]) ∧ Below w.heap.size w w' := by
  unfold bs
  go_enter Tryd.func28, Tryd.ntmps28
  go_wp2_with (go_at_call 22; refine (rbelow_long N hN (8 * (n : Int)) (by omega) (by omega) (by omega) _).mono ?_; rintro e w1 ⟨rfl, hb1⟩)
  go_ret2
  exact ⟨rfl, Below.trans ((Below.refl _ w).alloc (Nat.le_refl _) _) (hb1.mono (by simp))⟩

/-- The number of a list of bits. -/
def ofBits (l : List Nat) : Nat := l.foldl (fun x m => x ||| 2 ^ m) 0
theorem ofBits_snoc (l : List Nat) (m : Nat) : ofBits (l ++ [m]) = ofBits l ||| 2 ^ m := by simp [ofBits]
theorem testBit_foldl (l : List Nat) (x j : Nat) : (l.foldl (fun x m => x ||| 2 ^ m) x).testBit j = (x.testBit j || decide (j ∈ l)) := by
  induction l generalizing x with
  | nil => simp
  | cons m r ih =>
    rw [List.foldl_cons, ih, Nat.testBit_or, Nat.testBit_two_pow]
    cases x.testBit j <;> simp [eq_comm, List.mem_cons, Bool.decide_or]
theorem testBit_ofBits (l : List Nat) (j : Nat) : (ofBits l).testBit j = decide (j ∈ l) := by
  unfold ofBits; rw [testBit_foldl]; simp
theorem ofBits_lst {N : Nat} (hN : N < 2 ^ 256) : ofBits (lst N) = N := by
  apply Nat.eq_of_testBit_eq
  intro j
  rw [testBit_ofBits]
  by_cases hj : j < 256
  · cases h : N.testBit j
    · simp [mem_lst, h]
    · simp [mem_lst, h, hj]
  · rw [testBit_ge hN (by omega)]
    simp [mem_lst, hj]
theorem byteOf_or (X m j : Nat) : byteOf (X ||| 2 ^ m) j = if j = m / 8 then byteOf X j ||| 2 ^ (m % 8) else byteOf X j := by
  unfold byteOf
  apply Nat.eq_of_testBit_eq
  intro i
  rw [show (256 : Nat) = 2 ^ 8 from rfl]
  by_cases h : j = m / 8
  · rw [if_pos h, Nat.testBit_or, Nat.testBit_mod_two_pow, Nat.testBit_mod_two_pow, Nat.testBit_div_two_pow, Nat.testBit_div_two_pow, Nat.testBit_or, Nat.testBit_two_pow, Nat.testBit_two_pow]
    by_cases hi : i < 8
    · have : (m = i + 8 * j) ↔ (m % 8 = i) := by omega
      simp [hi, this]
    · have : ¬ (m % 8 = i) := by omega
      simp [hi, this]
  · rw [if_neg h, Nat.testBit_mod_two_pow, Nat.testBit_mod_two_pow, Nat.testBit_div_two_pow, Nat.testBit_div_two_pow, Nat.testBit_or, Nat.testBit_two_pow]
    by_cases hi : i < 8
    · have : ¬ (m = i + 8 * j) := by omega
      simp [this]
    · simp [hi]
theorem byteOf_lt (X j : Nat) : byteOf X j < 256 := Nat.mod_lt _ (by decide)
theorem or_u8 (X m j : Nat) (h : j = m / 8) : bits .or .u8 (byteOf X j : Int) (2 ^ (m % 8) % 256) = (byteOf (X ||| 2 ^ m) j : Int) := by
  have h1 : 2 ^ (m % 8) < 256 := Nat.lt_of_lt_of_le (Nat.pow_lt_pow_right (by decide) (Nat.mod_lt m (by decide : 0 < 8))) (by decide)
  have h2 : (2 : Int) ^ (m % 8) % 256 = ((2 ^ (m % 8) : Nat) : Int) := by
    rw [show ((2 : Int) ^ (m % 8)) = ((2 ^ (m % 8) : Nat) : Int) from by simp]
    generalize 2 ^ (m % 8) = x at h1
    omega
  rw [h2, u8_or_nat _ _ (byteOf_lt X j) h1, byteOf_or, if_pos h]
theorem BitsAt.set {W : World} {base : Nat} {a : Option Addr} {l : List Nat} (h : BitsAt W base a l) {G o : Nat} (hG : G < base) (u : Value) : BitsAt (W.setCell ⟨G, o, none⟩ u) base a l := by
  intro j m hj
  obtain ⟨g, ha, h1, h2, h3⟩ := h j m hj
  refine ⟨g, ha, h1, by simpa using h2, ?_⟩
  rw [World.cell?_of_block (w := W) (a := ⟨g, j, none⟩) (Below.heap_setCell W ⟨G, o, none⟩ u g (by show g ≠ G; omega))]
  exact h3
theorem rbelow_ok (N : Nat) (hN : N < 2 ^ 256) (width : Int) (h0 : 0 ≤ width) (h1 : width ≤ 256) (h2 : (bl N : Int) ≤ width) (w : World) :
    Calls Tryd.prog 22 #[bs N, .int .i64 width] w fun e w' => e = .returned (.bool true) ∧ Below w.heap.size w w' := by
  by_cases hz : N = 0
  · subst hz; exact rbelow_zero width h0 h1 w
  · exact rbelow_yes N hN hz width h0 h1 h2 w

set_option maxRecDepth 100000 in
set_option maxHeartbeats 1000000 in
theorem rbytes_ok (N n : Nat) (hN : N < 2 ^ 256) (h1 : 1 ≤ n) (h2 : n ≤ 32) (hb : bl N ≤ 8 * n) (w : World) :
    Calls Tryd.prog 28 #[bs N, .int .i64 (8 * (n : Int))] w fun e w' => e = .returned (.tuple #[.string (strOfNums ((List.range n).map fun i => ((byteOf N i : Nat) : Int))), .int .i64 0]) ∧ Below w.heap.size w w' := by
  have hmk := run_make_row' (P := Tryd.prog) 48 5 (.int .u8 0) 1 Tryd.underlying48 infoByte rfl .i64 .i64 n (by omega) (by omega)
  unfold bs
  go_enter Tryd.func28, Tryd.ntmps28
  go_wp2_with fail
  refine (rbelow_ok N hN (8 * (n : Int)) (by omega) (by omega) (by omega) _).mono ?_
  rintro e w1 ⟨rfl, hb1⟩
  have hB1 := (hasBs_new w N).keep hb1 (by simp)
  have hw1 : Below w.heap.size w w1 := ((Below.refl _ w).alloc (Nat.le_refl _) _).trans (hb1.mono (by simp))
  have hs1 := hw1.size
  have HB1 := hidIn hB1
  obtain ⟨c0, c1, c2, c3, _, _, _, _, hlt⟩ := hB1.alloc (.cells (madeCells #[.int .u8 0] n) 5)
  clear hb1 hB1
  go_wp2_with fail
  refine (rlist_slice N _).mono ?_
  rintro e w2 ⟨a, cap, rfl, hat, hb2⟩
  have hrow := (World.rowIs_made w1 (.int .u8 0) n 5).of_block (hb2.block w1.heap.size (by simp))
  have hw2 : Below w.heap.size w w2 := (hw1.alloc hs1 _).trans (hb2.mono (by simp; omega))
  rw [World.size_alloc] at hat
  have HN := hidIn hN
  clear hb2 hmk c0 c1 c2 c3 hN
  go_wp2
  go_loopw [8] (fun i wr => ∃ k : Nat, k ≤ (lst N).length ∧ i = .int .i64 k ∧ wr.rowIs w1.heap.size 5 n (fun j => .int .u8 ((byteOf (ofBits ((lst N).take k)) j : Nat) : Int)) ∧ BitsAt wr (w1.heap.size + 1 + 1) a (lst N) ∧ Below w.heap.size w wr) (fun i _ => (lst N).length - (intOf i).toNat)
  case atStart =>
    refine ⟨0, Nat.zero_le _, rfl, hrow.congr (fun i _ => ?_), hat, hw2⟩
    simp [ofBits, byteOf]
  case round =>
    obtain ⟨k, hk, rfl, hr, ha, hbel⟩ := hrel
    have hlen : (lst N).length ≤ 256 := by have := cntTo_le 256 N; rw [← lst_length] at this; exact this
    by_cases hkl : k < (lst N).length
    · obtain ⟨m, hm⟩ : ∃ m, (lst N)[k]? = some m := ⟨_, List.getElem?_eq_getElem hkl⟩
      have hmem : m ∈ lst N := List.mem_of_getElem? hm
      have hm256 := (mem_lst.1 hmem).1
      have hmn : m < 8 * n := by
        apply Nat.lt_of_not_le
        intro hge
        have h1 := (mem_lst.1 hmem).2
        rw [testBit_ge (bl_le.1 (Nat.le_refl (bl N))) (by omega)] at h1
        cases h1
      obtain ⟨g, rfl, hg1, hg2, hc⟩ := ha k m hm
      have HA := hidIn ha
      have HR := hidIn hr
      have HT := hidIn (show ofBits ((lst N).take (k + 1)) = ofBits ((lst N).take k) ||| 2 ^ m by
        rw [List.take_add_one, hm]; exact ofBits_snoc _ _)
      have hcell := hr.cell (i := m / 8) (by omega)
      have hfr := hr.frozen (m / 8)
      clear ha hr hat hm hmem
      generalize (lst N).length = len at *
      go_wp2
      rw [or_u8 _ _ _ rfl]
      refine ⟨⟨k + 1, by omega, by go_num, ?_, ?_, ?_⟩, by simp [intOf]; omega⟩
      · rw [HT.out]
        refine (HR.out.set (m / 8) _).congr ?_
        intro i _
        by_cases e : i = m / 8
        · rw [if_pos e, e]
        · rw [if_neg e, byteOf_or, if_neg e]
      · exact HA.out.set (by omega) _
      · exact hbel.setCell (p := ⟨w1.heap.size, m / 8, none⟩) (show w.heap.size ≤ w1.heap.size by omega) _
    · obtain rfl : k = (lst N).length := by omega
      rw [List.take_length, ofBits_lst HN.out] at hr
      have hconv := run_convert_bytes_arg (P := Tryd.prog) wr 48 5 Tryd.underlying48 Tryd.underlying5 w1.heap.size 0 n n ((List.range n).map fun i => ((byteOf N i : Nat) : Int)) (by simp) (by
        intro i hi
        rw [Nat.zero_add, hr.cell hi]
        simp [hi]) 9 Tryd.underlying9
      obtain ⟨S, hS⟩ : ∃ S, strOfNums ((List.range n).map fun i => ((byteOf N i : Nat) : Int)) = S := ⟨_, rfl⟩
      rw [hS] at hconv
      have HS := hidIn hS
      clear hS hr ha hat
      generalize (lst N).length = len at *
      go_wp2
      go_ret2
      exact ⟨by rw [HS.out]; rfl, hbel⟩
end Go.Proofs.YtgfmlonhjmdfjaaDoor
