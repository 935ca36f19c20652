/- The document's Has of layer 4; parts laid anew behind nothing. -/
import Derived.Test.YtjcbbifjhoemaaaDoorSM
import Derived.Test.YtjcbbifjhoemaaaDoorSU
namespace Go.Proofs.YtjcbbifjhoemaaaDoor
open Go.RowKit

set_option maxHeartbeats 400000 in
theorem has4_0 (x0 x1 x2 x3 : Nat) (m : Nat) (q : m / 64 = 0) (w : World) :
    Calls Tryd.prog 25 #[.agg #[.int .u64 x0, .int .u64 x1, .int .u64 x2, .int .u64 x3], .int .i64 ((m : Int) + 1)] w fun e w' => e = .returned (.bool (bits .and .u64 ((x0 : Int) / 2 ^ (m % 64)) 1 == 1)) ∧ Below w.heap.size w w' := by
  have hm : m < 256 := by omega
  go_enter Tryd.func25, Tryd.ntmps25
  go_wp2
  go_ret
  exact ⟨rfl, by go_grown⟩
set_option maxHeartbeats 400000 in
theorem has4_1 (x0 x1 x2 x3 : Nat) (m : Nat) (q : m / 64 = 1) (w : World) :
    Calls Tryd.prog 25 #[.agg #[.int .u64 x0, .int .u64 x1, .int .u64 x2, .int .u64 x3], .int .i64 ((m : Int) + 1)] w fun e w' => e = .returned (.bool (bits .and .u64 ((x1 : Int) / 2 ^ (m % 64)) 1 == 1)) ∧ Below w.heap.size w w' := by
  have hm : m < 256 := by omega
  go_enter Tryd.func25, Tryd.ntmps25
  go_wp2
  go_ret
  exact ⟨rfl, by go_grown⟩
set_option maxHeartbeats 400000 in
theorem has4_2 (x0 x1 x2 x3 : Nat) (m : Nat) (q : m / 64 = 2) (w : World) :
    Calls Tryd.prog 25 #[.agg #[.int .u64 x0, .int .u64 x1, .int .u64 x2, .int .u64 x3], .int .i64 ((m : Int) + 1)] w fun e w' => e = .returned (.bool (bits .and .u64 ((x2 : Int) / 2 ^ (m % 64)) 1 == 1)) ∧ Below w.heap.size w w' := by
  have hm : m < 256 := by omega
  go_enter Tryd.func25, Tryd.ntmps25
  go_wp2
  go_ret
  exact ⟨rfl, by go_grown⟩
set_option maxHeartbeats 400000 in
theorem has4_3 (x0 x1 x2 x3 : Nat) (m : Nat) (q : m / 64 = 3) (w : World) :
    Calls Tryd.prog 25 #[.agg #[.int .u64 x0, .int .u64 x1, .int .u64 x2, .int .u64 x3], .int .i64 ((m : Int) + 1)] w fun e w' => e = .returned (.bool (bits .and .u64 ((x3 : Int) / 2 ^ (m % 64)) 1 == 1)) ∧ Below w.heap.size w w' := by
  have hm : m < 256 := by omega
  go_enter Tryd.func25, Tryd.ntmps25
  go_wp2
  go_ret
  exact ⟨rfl, by go_grown⟩
/-- **Has it the bit m + 1?** -/
theorem has4_any (N m : Nat) (h : m < 256) (w : World) :
    Calls Tryd.prog 25 #[bs N, .int .i64 ((m : Int) + 1)] w fun e w' => e = .returned (.bool (N.testBit m)) ∧ Below w.heap.size w w' := by
  have hc : m / 64 = 0 ∨ m / 64 = 1 ∨ m / 64 = 2 ∨ m / 64 = 3 := by omega
  rcases hc with q | q | q | q
  · refine (has4_0 _ _ _ _ m q w).mono ?_
    rintro e w' ⟨rfl, hb⟩
    exact ⟨by rw [bit_test _ _ (wd_lt N 0), testBit_at N m 0 q], hb⟩
  · refine (has4_1 _ _ _ _ m q w).mono ?_
    rintro e w' ⟨rfl, hb⟩
    exact ⟨by rw [bit_test _ _ (wd_lt N 1), testBit_at N m 1 q], hb⟩
  · refine (has4_2 _ _ _ _ m q w).mono ?_
    rintro e w' ⟨rfl, hb⟩
    exact ⟨by rw [bit_test _ _ (wd_lt N 2), testBit_at N m 2 q], hb⟩
  · refine (has4_3 _ _ _ _ m q w).mono ?_
    rintro e w' ⟨rfl, hb⟩
    exact ⟨by rw [bit_test _ _ (wd_lt N 3), testBit_at N m 3 q], hb⟩
theorem has4_is {N m : Nat} {b : Bool} (h : m < 256) (hb : N.testBit m = b) (w : World) :
    Calls Tryd.prog 25 #[bs N, .int .i64 ((m : Int) + 1)] w fun e w' => e = .returned (.bool b) ∧ Below w.heap.size w w' := by
  rw [← hb]; exact has4_any N m h w
/-- The cells of parts. -/
def prl (ps : List (Int × Nat)) : List Value := ps.flatMap prt
theorem prl_len (ps : List (Int × Nat)) : (prl ps).length = ps.length * 5 := by
  induction ps with
  | nil => rfl
  | cons p ps ih =>
    have : prl (p :: ps) = prt p ++ prl ps := by simp [prl]
    rw [this, List.length_append, ih]
    simp
    omega
theorem prl_get : ∀ (ps : List (Int × Nat)) (j i : Nat) (p : Int × Nat), ps[j]? = some p → i < 5 → (prl ps)[j * 5 + i]? = (prt p)[i]?
  | [], j, i, p, h, _ => by simp at h
  | x :: ps, j, i, p, h, hi => by
    have hc : prl (x :: ps) = prt x ++ prl ps := by simp [prl]
    rw [hc]
    cases j with
    | zero =>
      simp at h
      subst h
      rw [List.getElem?_append_left (by simp; omega)]
      simp
    | succ j =>
      rw [List.getElem?_append_right (by simp; omega)]
      have := prl_get ps j i p (by simpa using h) hi
      rw [← this]
      congr 1
      simp
      omega
theorem prl_one (ps : List (Int × Nat)) : ∀ u ∈ prl ps, u.oneCell' = true := by
  intro u hu
  obtain ⟨p, _, hp⟩ := List.mem_flatMap.1 hu
  simp at hp
  rcases hp with rfl | rfl | rfl | rfl | rfl <;> rfl
theorem partsAt_row {w : World} {base k : Nat} {v : Value} {ps : List (Int × Nat)} (hf : ∀ p ∈ ps, p.2 < 2 ^ 256) (hr : w.ownsRow base 37 5 v k (prl ps)) (hk : ps.length = k) (hk2 : k ≤ 1000) : PartsAt w v ps := by
  rcases row_plain hr with ⟨rfl, rfl⟩ | ⟨g, cap, rfl, hg⟩
  · exact .inl ⟨none, 0, rfl, List.length_eq_zero_iff.1 hk⟩
  · refine .inr ⟨g, 0, cap, by rw [hk], hg, by omega, fun j p hp i u hu => ?_, hf⟩
    have hi : i < 5 := by have := (List.getElem?_eq_some_iff.1 hu).1; simpa using this
    rw [Nat.zero_add]
    refine row_cell hr ?_
    rw [prl_get ps j i p hp hi]
    exact hu
/-- Parts as an argument of a row. -/
structure PartsArg (w : World) (a : Option Addr) (cap : Nat) (ps : List (Int × Nat)) : Prop where
  room : ps.length ≤ cap
  len : ps.length ≤ 9223372036854775807
  no : a = none → cap = 0
  at_ : 0 < ps.length → ∃ bk o, a = some ⟨bk, o, none⟩ ∧ PartsIn w bk o ps
theorem PartsArg.head {w : World} {a : Option Addr} {cap m : Nat} {ps : List (Int × Nat)} (h : PartsArg w a cap ps) (hm : m ≤ ps.length) : PartsAt w (.slice a m cap) (ps.take m) := by
  have hl : (ps.take m).length = m := by rw [List.length_take]; omega
  by_cases h0 : m = 0
  · subst h0; exact .inl ⟨a, cap, rfl, by simp⟩
  · obtain ⟨bk, o, rfl, hp⟩ := h.at_ (by omega)
    refine .inr ⟨bk, o, cap, by rw [hl], hp.lt, by rw [hl]; have := h.len; omega, fun j p hj => ?_, fun p hp' => hp.bits p (List.mem_of_mem_take hp')⟩
    have hjl := (List.getElem?_eq_some_iff.1 hj).1
    rw [hl] at hjl
    rw [List.getElem?_take_of_lt hjl] at hj
    exact hp.r j p hj
/-- Parts laid behind nothing, in a row of one's own. -/
theorem append_parts {w : World} {ps : List (Int × Nat)} {a : Option Addr} {cap : Nat} (hl : ps.length ≤ 1000) (hn : a = none → cap = 0) (hp : PartsAt w (.slice a ps.length cap) ps) :
    ∃ v w', (Builtin.append_ #[23, 23] 23 #[.slice none 0 0, .slice a ps.length cap]).run Tryd.prog w = .ok v w' ∧ w'.ownsRow w.heap.size 37 5 v ps.length (prl ps) ∧ Below w.heap.size w w' := by
  obtain ⟨i0, hi, hz0, hz1, hz2⟩ := info_parts infoPart
  cases a with
  | none =>
    obtain rfl := hn rfl
    rcases hp with ⟨a', cap', e, rfl⟩ | ⟨bk, o, cap', e, _⟩
    · refine ⟨.slice none 0 0, w, ?_, World.ownsRow_nil _ _ _ _, Below.refl _ _⟩
      simp [Builtin.append_, go_sem, run_underlying Tryd.underlying23 w]
    · cases e
  | some ad =>
    obtain ⟨v', w', hrun, r1, r2, _⟩ := run_append_own (P := Tryd.prog) w w.heap.size 23 23 37 i0 _ 5 40 Tryd.underlying23 hi hz0 hz1 hz2 rfl (by decide) (.slice none 0 0) 0 [] (World.ownsRow_nil _ _ _ _) ad ps.length cap (prl ps) (prl_len ps) (fun j u hu => by
      have hj := (List.getElem?_eq_some_iff.1 hu).1
      rw [prl_len] at hj
      have hdm : j = j / 5 * 5 + j % 5 := by omega
      have hj5 : j / 5 < ps.length := by omega
      rcases hp with ⟨a', cap', e, h0⟩ | ⟨bk, o, cap', e, hin⟩
      · rw [h0] at hj5; simp at hj5
      · cases e
        rw [hdm, prl_get ps (j / 5) (j % 5) _ (List.getElem?_eq_getElem hj5) (by omega)] at hu
        have := hin.r (j / 5) _ (List.getElem?_eq_getElem hj5) (j % 5) u hu
        rw [Addr.add_mid, hdm, ← Nat.add_assoc]
        exact this) (prl_one ps) (by unfold maxLen; omega) (by omega) (Nat.le_refl _)
    refine ⟨v', w', hrun, by simpa using r1, ?_⟩
    exact (Below.refl _ w).grown r2 (Nat.le_refl _) (fun k e => by simp [Value.ownBlock] at e)
end Go.Proofs.YtjcbbifjhoemaaaDoor
