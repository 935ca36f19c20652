/- dandelionref05.Least, Without. -/
import Derived.Test.YtndiafbldgbplaaJP
import Derived.Test.YtndiafbldgbplaaJK
namespace Go.Proofs.Ytndiafbldgbplaa
open Go.RowKit

theorem below_drewN {B : Nat} {w V : World} (h : Below B w V) (n : Nat) : Below B w (V.drewN n) := ⟨h.os, h.tape, h.output, h.size, h.block⟩
/-- The least of the first k. -/
def LeastTo (l : List Th) (k m : Nat) : Prop := m < k ∧ ∃ y, l[m]? = some y ∧ ∀ j x, j < k → l[j]? = some x → y.1 ≤ x.1 ∧ (j < m → y.1 < x.1)
theorem leastTo_all {l : List Th} {m : Nat} (h : LeastTo l l.length m) : IsLeast l m := by
  obtain ⟨_, y, hy, h1⟩ := h
  exact ⟨y, hy, fun j x hx => h1 j x (List.getElem?_eq_some_iff.1 hx).1 hx⟩
theorem leastTo_one {l : List Th} {x : Th} (h : l[0]? = some x) : LeastTo l 1 0 := ⟨by omega, x, h, fun j y hj hy => by
  obtain rfl : j = 0 := by omega
  rw [h] at hy; cases hy
  exact ⟨Int.le_refl _, fun h => by omega⟩⟩
theorem leastTo_new {l : List Th} {k m : Nat} {x y : Th} (h : LeastTo l k m) (hx : l[k]? = some x) (hy : l[m]? = some y) (hlt : x.1 < y.1) : LeastTo l (k + 1) k := by
  obtain ⟨_, y', hy', h1⟩ := h
  rw [hy] at hy'; cases hy'
  refine ⟨by omega, x, hx, fun j z hj hz => ?_⟩
  by_cases e : j = k
  · subst e; rw [hx] at hz; cases hz; exact ⟨Int.le_refl _, fun h => by omega⟩
  · have := (h1 j z (by omega) hz).1; exact ⟨by omega, fun _ => by omega⟩
theorem leastTo_old {l : List Th} {k m : Nat} {x y : Th} (h : LeastTo l k m) (hx : l[k]? = some x) (hy : l[m]? = some y) (hle : ¬ x.1 < y.1) : LeastTo l (k + 1) m := by
  obtain ⟨hm, y', hy', h1⟩ := h
  rw [hy] at hy'; cases hy'
  refine ⟨by omega, y, hy, fun j z hj hz => ?_⟩
  by_cases e : j = k
  · subst e; rw [hx] at hz; cases hz; exact ⟨by omega, fun h => by omega⟩
  · exact h1 j z (by omega) hz
theorem least_none {v : Value} {w : World} (h : ThsAt w v []) : Calls Try.prog 10 #[v] w fun e w' => e = .returned (.int .i64 (-1)) ∧ Below w.heap.size w w' := by
  obtain ⟨a, cap, rfl, _⟩ := h
  go_enter Try.func10, Try.ntmps10
  go_wp2
  go_loopw [3, 4] (fun x i wr => x = .int .i64 (-1) ∧ i = .int .i64 0 ∧ wr = w) (fun _ _ _ => 0)
  case atStart => exact ⟨rfl, rfl, rfl⟩
  case round =>
    obtain ⟨rfl, rfl, hw⟩ := hrel
    rw [hw]
    clear hw
    go_wp2
    go_ret
    exact ⟨rfl, Below.refl _ _⟩
set_option maxRecDepth 100000 in
set_option maxHeartbeats 1000000 in
theorem least_ok {l : List Th} {v : Value} {w : World} (h : ThsAt w v l) (h0 : 0 < l.length) (hl : l.length ≤ 1000) :
    Calls Try.prog 10 #[v] w fun e w' => (∃ m : Nat, e = .returned (.int .i64 m) ∧ IsLeast l m) ∧ Below w.heap.size w w' := by
  obtain ⟨a, cap, rfl, h1⟩ := h
  obtain ⟨bk, o, rfl, hbk, hc⟩ := h1 h0
  have HC := hidIn hc
  clear hc h1
  go_enter Try.func10, Try.ntmps10
  go_wp2
  go_loopw [3, 4] (fun x i wr => ∃ k : Nat, k ≤ l.length ∧ i = .int .i64 k ∧ ((k = 0 ∧ x = .int .i64 (-1)) ∨ (∃ m : Nat, x = .int .i64 m ∧ Hid (LeastTo l k m))) ∧ Hid (Below w.heap.size w wr)) (fun _ i _ => l.length - (intOf i).toNat)
  case atStart => exact ⟨0, Nat.zero_le _, rfl, .inl ⟨rfl, rfl⟩, hidIn (Below.refl _ _)⟩
  case round =>
    obtain ⟨k, hk, rfl, hx, HB⟩ := hrel
    by_cases hlt : k < l.length
    · obtain ⟨x, hxk⟩ : ∃ x, l[k]? = some x := ⟨l[k], List.getElem?_eq_getElem hlt⟩
      have k0 := (HB.out.cell (p := ⟨bk, o + k * 2, none⟩) hbk).trans (HC.out k x hxk).1
      have hki : (k : Int) < (l.length : Int) := by omega
      rcases hx with ⟨rfl, rfl⟩ | ⟨m, rfl, HL⟩
      · have HX := hidIn hxk
        clear hxk
        go_wp2
        go_quiet (fail)
        go_wp2
        go_roundw
        case rel => exact ⟨1, by omega, by go_num, .inr ⟨0, rfl, hidIn (leastTo_one HX.out)⟩, hidIn (below_drewN HB.out _)⟩
        case measure => simp [intOf]; omega
      · obtain ⟨hmk, y, hy, _⟩ := HL.out
        have m0 := (HB.out.cell (p := ⟨bk, o + m * 2, none⟩) hbk).trans (HC.out m y hy).1
        have hbm : decide ((m : Int) < 0) = false := decide_eq_false (by omega)
        have hmi : (m : Int) < (l.length : Int) := by omega
        have HX := hidIn hxk
        have HY := hidIn hy
        clear hxk hy
        by_cases hc : x.1 < y.1
        · go_wp2
          go_quiet (fail)
          go_wp2
          go_roundw
          case rel => exact ⟨k + 1, by omega, by go_num, .inr ⟨k, rfl, hidIn (leastTo_new HL.out HX.out HY.out hc)⟩, hidIn (below_drewN HB.out _)⟩
          case measure => simp [intOf]; omega
        · go_wp2
          go_quiet (fail)
          go_wp2
          go_roundw
          case rel => exact ⟨k + 1, by omega, by go_num, .inr ⟨m, rfl, hidIn (leastTo_old HL.out HX.out HY.out (by omega))⟩, hidIn (below_drewN HB.out _)⟩
          case measure => simp [intOf]; omega
    · have hke : k = l.length := by omega
      have hki : ¬ ((k : Int) < (l.length : Int)) := by omega
      rcases hx with ⟨h1, rfl⟩ | ⟨m, rfl, HL⟩
      · omega
      · go_wp2
        go_ret
        exact ⟨⟨m, rfl, leastTo_all (hke ▸ HL.out)⟩, HB.out⟩
theorem tcs_inv : ∀ (l : List Th) (j : Nat) (u : Value), (tcs l)[j]? = some u → ∃ i x, l[i]? = some x ∧ ((j = i * 2 ∧ u = .int .i64 x.1) ∨ (j = i * 2 + 1 ∧ u = .int .i64 x.2))
  | [], j, u, h => by simp [tcs] at h
  | y :: l, 0, u, h => by simp [tcs] at h; exact ⟨0, y, rfl, .inl ⟨rfl, h.symm⟩⟩
  | y :: l, 1, u, h => by simp [tcs] at h; exact ⟨0, y, rfl, .inr ⟨rfl, h.symm⟩⟩
  | y :: l, j + 2, u, h => by
    have hc : tcs (y :: l) = .int .i64 y.1 :: .int .i64 y.2 :: tcs l := by simp [tcs]
    rw [hc, List.getElem?_cons_succ, List.getElem?_cons_succ] at h
    obtain ⟨i, x, h1, h2⟩ := tcs_inv l j u h
    exact ⟨i + 1, x, by simpa using h1, h2.imp (fun h => ⟨by omega, h.2⟩) (fun h => ⟨by omega, h.2⟩)⟩
theorem tcs_length (l : List Th) : (tcs l).length = l.length * 2 := by
  induction l with
  | nil => rfl
  | cons e es ih => unfold tcs at ih ⊢; rw [List.flatMap_cons, List.length_append, ih]; simp; omega
/-- Things laid behind a row of one's own. -/
theorem append_things {W : World} {base k bk o c : Nat} {u : Value} {xs : List Value} {part : List Th} (hr : W.ownsRow base 26 2 u k xs) (hc : ∀ j x, part[j]? = some x → W.cell? ⟨bk, o + j * 2, none⟩ = some (.int .i64 x.1) ∧ W.cell? ⟨bk, o + j * 2 + 1, none⟩ = some (.int .i64 x.2)) (hk : k + part.length < 1000000) (hbase : base ≤ W.heap.size) :
    ∃ v' w', (Builtin.append_ #[28, 28] 28 #[u, .slice (some ⟨bk, o, none⟩) part.length c]).run Try.prog W = .ok v' w' ∧ w'.ownsRow base 26 2 v' (k + part.length) (xs ++ tcs part) ∧ W.grownBy w' u.ownBlock := by
  obtain ⟨i0, hi, hz0, hz1, hz2⟩ := info_parts infoTh
  obtain ⟨v', w', hrun, r1, r2, _⟩ := run_append_own (P := Try.prog) W base 28 28 26 i0 _ 2 16 Try.underlying28 hi hz0 hz1 hz2 rfl (by decide) u k xs hr ⟨bk, o, none⟩ part.length c (tcs part) (tcs_length part) (fun j v hj => by
    obtain ⟨i, x, h1, h2⟩ := tcs_inv part j v hj
    rw [Addr.add_mid]
    rcases h2 with ⟨rfl, rfl⟩ | ⟨rfl, rfl⟩
    · exact (hc i x h1).1
    · exact (hc i x h1).2) (fun v hv => by
    obtain ⟨j, hj, rfl⟩ := List.getElem_of_mem hv
    obtain ⟨i, x, h1, h2⟩ := tcs_inv part j _ (List.getElem?_eq_getElem hj)
    rcases h2 with ⟨_, h⟩ | ⟨_, h⟩ <;> rw [h] <;> rfl) (by unfold maxLen; omega) (by omega) hbase
  exact ⟨v', w', hrun, r1, r2⟩
end Go.Proofs.Ytndiafbldgbplaa
