/- The document's Join: what its flags come to, as lists. -/
import Derived.Test.YtjcbbifjhoemaaaDoorSF
import Derived.Test.YtjcbbifjhoemaaaDoorSG
namespace Go.Proofs.YtjcbbifjhoemaaaDoor
open Go.RowKit

/-- Which ids are there. -/
def flg (W : Nat) (F : Nat → Nat) (id : Nat) : Bool := decide (1 ≤ id) && (F ((id - 1) / W)).testBit ((id - 1) % W)
theorem flg_none (W : Nat) : flg W none0 = noneT := by funext id; simp [flg, none0, noneT]
theorem flg_yes {W S m N : Nat} {F : Nat → Nat} (hm : m < W) (hb : N.testBit m = true) : updT (flg W (upd F S (N % 2 ^ m))) (S * W + m + 1) = flg W (upd F S (N % 2 ^ (m + 1))) := by
  funext id
  unfold updT
  by_cases e : id = S * W + m + 1
  · rw [if_pos e, e]
    obtain ⟨h1, h2⟩ := (place_of (W := W) (s := S) (x := S * W + m) hm).2 rfl
    unfold flg upd
    rw [Nat.add_sub_cancel, h1, h2, if_pos rfl, Nat.testBit_mod_two_pow, hb]
    simp
  · rw [if_neg e]
    unfold flg upd
    by_cases h0 : 1 ≤ id
    · by_cases hs : (id - 1) / W = S
      · rw [if_pos hs, if_pos hs, Nat.testBit_mod_two_pow, Nat.testBit_mod_two_pow]
        have hne : (id - 1) % W ≠ m := fun h => e (by have := (place_of hm).1 ⟨hs, h⟩; omega)
        congr 2
        rw [Bool.eq_iff_iff]
        simp only [decide_eq_true_eq]
        omega
      · rw [if_neg hs, if_neg hs]
    · simp [h0]
theorem mod_next_no {N m : Nat} (hb : N.testBit m = false) : N % 2 ^ (m + 1) = N % 2 ^ m := by
  apply Nat.eq_of_testBit_eq
  intro j
  rw [Nat.testBit_mod_two_pow, Nat.testBit_mod_two_pow]
  by_cases e : j = m
  · subst e; rw [hb]; simp
  · congr 1
    rw [Bool.eq_iff_iff]
    simp only [decide_eq_true_eq]
    omega
theorem upd_same {F : Nat → Nat} {S X : Nat} (h : F S = X) : upd F S X = F := by
  funext s
  unfold upd
  split
  · rename_i e; rw [e, h]
  · rfl
/-- The ids, rising. -/
def rise (W : Nat) (F : Nat → Nat) (k : Nat) : List Int := ((List.range k).filter fun x => flg W F (x + 1)).map fun x : Nat => ((x + 1 : Nat) : Int)
theorem rise_yes {W k : Nat} {F : Nat → Nat} (h : flg W F (k + 1) = true) : rise W F (k + 1) = rise W F k ++ [((k + 1 : Nat) : Int)] := by
  unfold rise
  rw [List.range_succ, List.filter_append, List.filter_cons_of_pos (p := fun x => flg W F (x + 1)) h, List.map_append]
  rfl
theorem rise_no {W k : Nat} {F : Nat → Nat} (h : flg W F (k + 1) = false) : rise W F (k + 1) = rise W F k := by
  unfold rise
  rw [List.range_succ, List.filter_append, List.filter_cons_of_neg (p := fun x => flg W F (x + 1)) (by simp [h])]
  simp
theorem rise_len_le (W : Nat) (F : Nat → Nat) (k : Nat) : (rise W F k).length ≤ k := by
  unfold rise
  rw [List.length_map]
  have := List.length_filter_le (fun x => flg W F (x + 1)) (List.range k)
  simpa using this
theorem ids_flg {W : Nat} (hW : IsW W) {F : Nat → Nat} (hfit : Fits W F) (hlow : ∀ s, bl (F s) ≤ W) : idsL W F (setsOf F) = (rise W F 1024).map fun z : Int => Value.int .i64 z := by
  obtain ⟨a, ha, ha2⟩ : ∃ a, a * W = 1024 ∧ a ≤ 128 := by
    unfold IsW at hW
    rcases hW with h | h | h | h | h | h
    · exact ⟨128, by omega, by omega⟩
    · exact ⟨64, by omega, by omega⟩
    · exact ⟨32, by omega, by omega⟩
    · exact ⟨16, by omega, by omega⟩
    · exact ⟨8, by omega, by omega⟩
    · exact ⟨4, by omega, by omega⟩
  have hWb := isW_pos hW
  have h1 : ∀ s, (lst (F s)).map (idN W s) = ((List.range W).filter (fun m => (fun x => flg W F (x + 1)) (s * W + m))).map (fun m : Nat => Value.int .i64 ((s * W + m + 1 : Nat) : Int)) := fun s => by
    have hl := bl_le.1 (hlow s)
    unfold lst
    rw [filter_range_low (W := W) hWb.2 (fun m hm => Nat.testBit_lt_two_pow (Nat.lt_of_lt_of_le hl (Nat.pow_le_pow_right (by decide) hm)))]
    congr 1
    apply List.filter_congr
    intro m hm
    simp at hm
    obtain ⟨e1, e2⟩ := (place_of (W := W) (s := s) (x := s * W + m) hm).2 rfl
    show _ = flg W F (s * W + m + 1)
    unfold flg
    rw [Nat.add_sub_cancel, e1, e2]
    simp
  have hz : ∀ s, s < 128 → a ≤ s → lst (F s) = [] := fun s hs has => by
    apply List.eq_nil_iff_forall_not_mem.2
    intro m hm
    have := (hfit s hs m hm).2
    have : a * W ≤ s * W := Nat.mul_le_mul_right W has
    omega
  unfold idsL setsOf upto
  rw [flat_some (fun s hs => by rw [hs, lst_zero]; rfl)]
  obtain ⟨d, hd⟩ := Nat.exists_eq_add_of_le ha2
  have e : ((List.range d).map (a + ·)).flatMap (fun s => (lst (F s)).map (idN W s)) = [] := List.flatMap_eq_nil_iff.2 (by
    intro x hx
    obtain ⟨b, hb, rfl⟩ := List.mem_map.1 hx
    simp at hb
    rw [hz (a + b) (by omega) (by omega)]
    rfl)
  rw [hd, List.range_add, List.flatMap_append, e, List.append_nil]
  simp only [h1]
  have := flat_range W (fun x => flg W F (x + 1)) (fun x : Nat => Value.int .i64 ((x + 1 : Nat) : Int)) a
  rw [ha] at this
  unfold rise
  rw [List.map_map]
  exact this

/-- What is so when parts have been taken without a word. -/
structure Took (W : Nat) (ps : List (Int × Nat)) (st : JSt) : Prop where
  fits : Fits W st.1
  low : ∀ s, bl (st.1 s) ≤ W
  off : ∀ s, st.2 s = false → st.1 s = 0
  taken : ∀ s : Nat, st.2 s = true ↔ ∃ p ∈ ps, p.1 = (s : Int)
theorem took_nil (W : Nat) : Took W [] (none0, fun _ => false) :=
  ⟨fun s _ m hm => by rw [show (none0, fun _ : Nat => false).1 s = 0 from rfl, lst_zero] at hm; simp at hm, fun s => bl_le.2 (Nat.two_pow_pos W), fun _ _ => rfl, fun s => by simp⟩
theorem took_snoc {W : Nat} {ps : List (Int × Nat)} {F : Nat → Nat} {T : Nat → Bool} {S N : Nat} (h : Took W ps (F, T)) (hb : bl N ≤ W) (hl : ∀ m ∈ lst N, S * W + m + 1 ≤ 1024) : Took W (ps ++ [((S : Int), N)]) (upd F S N, updT T S) := by
  refine ⟨fun s hs m hm => ?_, fun s => ?_, fun s hs => ?_, fun s => ?_⟩
  · simp only [upd] at hm
    split at hm
    · rename_i e
      rw [e]
      exact ⟨lt_of_lst hb hm, hl m hm⟩
    · exact h.fits s hs m hm
  · simp only [upd]
    split
    · exact hb
    · exact h.low s
  · simp only [updT] at hs
    simp only [upd]
    split at hs
    · cases hs
    · rename_i e
      rw [if_neg e]
      exact h.off s hs
  · simp only [updT]
    by_cases e : s = S
    · subst e; simp
    · rw [if_neg e]
      have := h.taken s
      simp only at this
      rw [this]
      simp only [List.mem_append, List.mem_singleton]
      constructor
      · rintro ⟨p, hp, hs⟩; exact ⟨p, .inl hp, hs⟩
      · rintro ⟨p, hp | rfl, hs⟩
        · exact ⟨p, hp, hs⟩
        · exact absurd (by omega : s = S) e
theorem jstep_inv {W : Nat} {st st' : JSt} {p : Int × Nat} (h : jstep W st p = .ok st') : ∃ (S N : Nat), p = ((S : Int), N) ∧ S < 128 ∧ bl N ≤ W ∧ st.2 S = false ∧ (∀ m ∈ lst N, S * W + m + 1 ≤ 1024) ∧ st' = (upd st.1 S N, updT st.2 S) := by
  obtain ⟨s, N⟩ := p
  by_cases h1 : 0 ≤ s ∧ s < 128 ∧ bl N ≤ W
  · obtain ⟨S, rfl⟩ := Int.eq_ofNat_of_zero_le h1.1
    by_cases h2 : st.2 S = true
    · rw [jstep_busy h1 (by simpa using h2)] at h; cases h
    · have h2' : st.2 S = false := by simpa using h2
      by_cases h3 : ∀ m ∈ lst N, S * W + m + 1 ≤ 1024
      · rw [jstep_ok h1 (by simpa using h2') (by simpa using h3)] at h
        exact ⟨S, N, rfl, by omega, h1.2.2, h2', h3, by cases h; rfl⟩
      · simp only [Classical.not_forall] at h3
        obtain ⟨m, hm, h3⟩ := h3
        rw [jstep_long h1 (by simpa using h2') ⟨m, hm, by simp; omega⟩] at h; cases h
  · rw [jstep_arg h1] at h; cases h
theorem took_more {W : Nat} : ∀ (l pre : List (Int × Nat)) (st0 st : JSt), Took W pre st0 → l.foldl (jnext W) (.ok st0) = .ok st → Took W (pre ++ l) st
  | [], pre, st0, st, h, e => by
    have e' : (Except.ok st0 : Except Int JSt) = .ok st := e
    cases e'
    rw [List.append_nil]
    exact h
  | p :: l, pre, st0, st, h, e => by
    have e' : l.foldl (jnext W) (jstep W st0 p) = .ok st := e
    cases hj : jstep W st0 p with
    | error c => rw [hj, jrun_err] at e'; cases e'
    | ok st1 =>
      rw [hj] at e'
      obtain ⟨S, N, rfl, hS, hb, hT, hl, rfl⟩ := jstep_inv hj
      obtain ⟨F, T⟩ := st0
      have := took_more l (pre ++ [((S : Int), N)]) _ st (took_snoc h hb hl) e'
      rw [List.append_assoc] at this
      exact this
theorem took_of {W : Nat} {ps : List (Int × Nat)} {st : JSt} (h : jrun W ps = .ok st) : Took W ps st := by
  have := took_more ps [] _ st (took_nil W) h
  simpa using this
end Go.Proofs.YtjcbbifjhoemaaaDoor
