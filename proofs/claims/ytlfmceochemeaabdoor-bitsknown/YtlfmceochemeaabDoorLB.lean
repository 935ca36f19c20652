/- The law BitsBack, walked. -/
import Derived.Test.YtlfmceochemeaabDoorLL
import Derived.Test.YtlfmceochemeaabDoorP3
import Derived.Test.YtlfmceochemeaabDoorRD
import Derived.Test.YtlfmceochemeaabDoorB2
import Derived.Test.YtlfmceochemeaabDoorO1
namespace Go.Proofs.YtlfmceochemeaabDoor
open Go.RowKit Go.Shelf

theorem ofl_map (l : List Nat) : ofl (l.map fun m : Nat => (m : Int) + 1) = orL l := by
  have k : ∀ (l : List Nat) (a : Nat), (l.map fun m : Nat => (m : Int) + 1).foldl (fun a z => a ||| 2 ^ (z - 1).toNat) a = l.foldl (fun a m => a ||| 2 ^ m) a := by
    intro l
    induction l with
    | nil => intro a; rfl
    | cons m l ih =>
      intro a
      rw [List.map_cons, List.foldl_cons, List.foldl_cons, ih]
      congr 3
      omega
  exact k l 0
theorem of_list (N : Nat) (hN : N < 2 ^ 256) (a : Option Addr) (cap : Nat) (w : World)
    (hat : ∀ j m : Nat, (lst N)[j]? = some m → ∃ g, a = some ⟨g, 0, none⟩ ∧ g < w.heap.size ∧ w.cell? ⟨g, j, none⟩ = some (.int .i64 ((m : Int) + 1))) :
    Calls Tryd.prog 12 #[.slice a (lst N).length cap] w fun e w' => e = .returned (.tuple #[bs N, .int .i64 0]) ∧ Below w.heap.size w w' := by
  by_cases h0 : (lst N).length = 0
  · have e := lst_nil hN (List.eq_nil_of_length_eq_zero h0)
    rw [h0, e]
    exact of_nil a cap w
  · have hlen : (lst N).length ≤ 256 := by have := cntTo_le 256 N; rw [← lst_length] at this; exact this
    obtain ⟨g, rfl, hg, _⟩ := hat 0 _ (List.getElem?_eq_getElem (by omega))
    have := of_yes ((lst N).map fun m : Nat => (m : Int) + 1) g 0 cap w (by simp; omega) (by
      intro j hj
      rw [List.length_map] at hj
      obtain ⟨g', e, _, hc⟩ := hat j _ (List.getElem?_eq_getElem hj)
      obtain rfl : g = g' := by simpa using e
      rw [Nat.zero_add, hc, List.getElem?_map, List.getElem?_eq_getElem hj]
      rfl) hg (by
      intro z hz
      obtain ⟨m, hm, rfl⟩ := List.mem_map.1 hz
      have := (mem_lst.1 hm).1
      omega)
    rw [List.length_map, ofl_map, orL_lst hN] at this
    exact this
/-- The bytes of a bit string, as a string. -/
def bytesN (N n : Nat) : ByteArray := strOfNums ((List.range n).map fun i => ((byteOf N i : Nat) : Int))
theorem bytesN_size (N n : Nat) : (bytesN N n).size = n := by unfold bytesN; rw [strOfNums_size]; simp
theorem bytesN_data (N n : Nat) : (bytesN N n).data.toList = (List.range n).map fun i => UInt8.ofNat (byteOf N i) := by
  unfold bytesN
  rw [strOfNums_data, List.map_map]
  rfl
theorem byteOf_lt (N i : Nat) : byteOf N i < 256 := by unfold byteOf; exact Nat.mod_lt _ (by decide)
theorem byteAt_bytesN (N n i : Nat) (h : i < n) : byteAt (bytesN N n) i = byteOf N i := by
  have hs := bytesN_size N n
  unfold byteAt
  rw [dif_pos (by omega)]
  have e : (bytesN N n)[i]'(by omega) = UInt8.ofNat (byteOf N i) := by
    have h1 : (bytesN N n).data.toList[i]? = some (UInt8.ofNat (byteOf N i)) := by
      rw [bytesN_data, List.getElem?_map, List.getElem?_range h]
      rfl
    rw [List.getElem?_eq_getElem (by simpa using (show i < (bytesN N n).size by omega))] at h1
    exact Option.some.inj h1
  rw [e, UInt8.toNat_ofNat', Nat.mod_eq_of_lt (byteOf_lt N i)]
theorem num_back {N : Nat} (hN : N < 2 ^ 256) : numTo (bytesN N 32) 32 = N := by
  apply Nat.eq_of_testBit_eq
  intro j
  rw [testBit_numTo]
  by_cases hj : j < 8 * 32
  · rw [byteAt_bytesN N 32 (j / 8) (by omega)]
    unfold byteOf
    rw [show (256 : Nat) = 2 ^ 8 from rfl, Nat.testBit_mod_two_pow, Nat.testBit_div_two_pow, show j % 8 + 8 * (j / 8) = j from by omega]
    have h8 : j % 8 < 8 := Nat.mod_lt _ (by decide)
    simp [hj, h8]
  · have h1 : N < 2 ^ j := Nat.lt_of_lt_of_le hN (Nat.pow_le_pow_right (by decide) (by omega))
    rw [Nat.testBit_lt_two_pow h1]
    simp [hj]
theorem bytes_ahead (N k : Nat) (h : k ≤ 32) : (bytesN N 32).extract 0 k = bytesN N k := by
  have e : ∀ {a b : ByteArray}, a.data.toList = b.data.toList → a = b := by
    intro a b h; cases a; cases b; simp at h; simp [h]
  apply e
  rw [ByteArray.data_extract, Array.toList_extract, List.extract_eq_take_drop, List.drop_zero, Nat.sub_zero, bytesN_data, bytesN_data, ← List.map_take, List.take_range, Nat.min_eq_left h]
theorem lst_rising (N : Nat) : ∀ k p m, (lst N)[k]? = some p → (lst N)[k + 1]? = some m → p < m := fun _ _ _ h1 h2 => lst_sorted h1 h2
theorem parse_text (N : Nat) (hN : N < 2 ^ 256) (M : Int) (w : World) (ht : Tabs w) (hm : w.cell? ⟨1, 0, none⟩ = some (.int .i64 M)) :
    ∃ S : ByteArray, (∀ w, Tabs w → Calls Tryd.prog 16 #[bs N] w fun e w' => e = .returned (.string S) ∧ Below w.heap.size w w') ∧
      (∀ w', Below w.heap.size w w' → Calls Tryd.prog 15 #[.string S] w' fun e w'' => e = .returned (.tuple #[bs N, .int .i64 0]) ∧ Below w'.heap.size w' w'') := by
  have hg : 1 < w.heap.size := block_lt_of_cell hm
  by_cases hz : N = 0
  · subst hz
    exact ⟨⟨#[45]⟩, fun w _ => text_none w, fun w' _ => parse_none w'⟩
  · exact ⟨txs (lst N), fun w ht => text_some N hN hz w ht, fun w' hb => parse_lst N hN hz (lst_rising N) M w' (ht.keep hb) ((hb.cell (p := ⟨1, 0, none⟩) hg).trans hm)⟩
end Go.Proofs.YtlfmceochemeaabDoor
