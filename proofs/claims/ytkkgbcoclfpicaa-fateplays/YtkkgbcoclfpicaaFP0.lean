/- FatePlays: what was asked so far (pure); the document's Router, right, may. -/
import Derived.Test.YtkkgbcoclfpicaaFO0
import Derived.Test.YtkkgbcoclfpicaaFA9
namespace Go.Proofs.Ytkkgbcoclfpicaa.Fa
open Go.RowKit

abbrev i2C (p : Int × Int) : List Value := [.int .i64 p.1, .int .i64 p.2]
def Ru64 (r : Ru) : Prop := (-9223372036854775808 ≤ r.1 ∧ r.1 ≤ 9223372036854775807) ∧ (-9223372036854775808 ≤ r.2.1 ∧ r.2.1 ≤ 9223372036854775807) ∧ (-9223372036854775808 ≤ r.2.2.1 ∧ r.2.2.1 ≤ 9223372036854775807) ∧ (-9223372036854775808 ≤ r.2.2.2.1 ∧ r.2.2.2.1 ≤ 9223372036854775807) ∧ (-9223372036854775808 ≤ r.2.2.2.2 ∧ r.2.2.2.2 ≤ 9223372036854775807)
/-- How often a pair was asked for. -/
def cntP (A : List (Int × Int)) (a b : Int) : Nat := (A.filter fun p => (p.1 == a) && (p.2 == b)).length
def cntF (A : List (Int × Int)) : Nat → Nat → Int := fun x y => (cntP A x y : Int)
theorem cntP_snoc (A : List (Int × Int)) (p : Int × Int) (a b : Int) : cntP (A ++ [p]) a b = cntP A a b + (if ((p.1 == a) && (p.2 == b)) = true then 1 else 0) := by
  unfold cntP
  rw [List.filter_append, List.length_append]
  congr 1
  by_cases h : ((p.1 == a) && (p.2 == b)) = true
  · rw [if_pos h, List.filter_cons_of_pos (by simpa using h)]; rfl
  · rw [if_neg h, List.filter_cons_of_neg (by simpa using h)]; rfl
theorem cntF_nil : cntF [] = no2 := by funext x y; rfl
theorem cntF_snoc (A : List (Int × Int)) (a b : Nat) : cntF (A ++ [((a : Int), (b : Int))]) = put2 (cntF A) a b (cntF A a b + 1) := by
  funext x y
  unfold cntF put2
  rw [cntP_snoc]
  by_cases h : x = a ∧ y = b
  · obtain ⟨rfl, rfl⟩ := h
    simp
  · rw [if_neg h, if_neg (by simp; omega)]
    simp
theorem cntP_le (A : List (Int × Int)) (a b : Int) : cntP A a b ≤ A.length := List.length_filter_le _ _
/-- The rules that are left, told by the document. -/
def leftD (l : List Ru) (A : List (Int × Int)) : Nat := (l.filter fun r => decide ((cntP A r.1 r.2.1 : Int) < r.2.2.1)).length
theorem left_eq {l : List Ru} (h : RsOk l) (A : List (Int × Int)) : leftD l A = (restR l (cntF A)).length := by
  unfold leftD restR
  congr 1
  refine List.filter_congr fun r hr => ?_
  have hb := ruOk_bd (h.ok r hr)
  unfold cntF
  rw [show ((r.1.toNat : Nat) : Int) = r.1 from by omega, show ((r.2.1.toNat : Nat) : Int) = r.2.1 from by omega]
theorem dR_any (n : Int) (w : World) : Calls Try.prog 31 #[.int .i64 n] w fun e w' => e = .returned (.bool (isR n)) ∧ w' = w := by
  by_cases h1 : 1 ≤ n
  · by_cases h2 : n ≤ 24
    · go_enter Try.func31, Try.ntmps31
      go_wp2
      go_ret
      exact ⟨by simp [isR, h1, h2], rfl⟩
    · go_enter Try.func31, Try.ntmps31
      go_wp2
      go_ret
      exact ⟨by simp [isR, h1]; omega, rfl⟩
  · go_enter Try.func31, Try.ntmps31
    go_wp2
    go_ret
    exact ⟨by simp [isR]; omega, rfl⟩
set_option maxRecDepth 100000 in
set_option maxHeartbeats 1000000 in
theorem dright_any (a b : Int) (w : World) : Calls Try.prog 26 #[.int .i64 a, .int .i64 b] w fun e w' => e = .returned (.bool (isP a b)) ∧ w' = w := by
  have HA := hidIn (dR_any a w)
  have HB := hidIn (dR_any b w)
  unfold isP
  cases ha : isR a with
  | false =>
    rw [ha] at HA
    clear ha
    go_enter Try.func26, Try.ntmps26
    go_wp2_with fail
    refine HA.out.mono ?_
    rintro e w1 ⟨rfl, hw1⟩
    rw [hw1]
    clear hw1 w1
    go_wp2_with fail
    go_ret
    exact ⟨rfl, rfl⟩
  | true =>
    rw [ha] at HA
    clear ha
    cases hb : isR b with
    | false =>
      rw [hb] at HB
      clear hb
      go_enter Try.func26, Try.ntmps26
      go_wp2_with fail
      refine HA.out.mono ?_
      rintro e w1 ⟨rfl, hw1⟩
      rw [hw1]
      clear hw1 w1
      go_wp2_with fail
      refine HB.out.mono ?_
      rintro e w1 ⟨rfl, hw1⟩
      rw [hw1]
      clear hw1 w1
      go_wp2_with fail
      go_ret
      exact ⟨rfl, rfl⟩
    | true =>
      rw [hb] at HB
      clear hb
      by_cases hq : a = b
      · have hq' : (a != b) = false := by simpa using hq
        have Hq : Hid ((a == b) = true) := hidIn (by simpa using hq)
        clear hq
        go_enter Try.func26, Try.ntmps26
        go_wp2_with fail
        refine HA.out.mono ?_
        rintro e w1 ⟨rfl, hw1⟩
        rw [hw1]
        clear hw1 w1
        go_wp2_with fail
        refine HB.out.mono ?_
        rintro e w1 ⟨rfl, hw1⟩
        rw [hw1]
        clear hw1 w1
        go_wp2_with fail
        go_ret
        exact ⟨by rw [Hq.out]; rfl, rfl⟩
      · have hq' : (a != b) = true := by simpa using hq
        have Hq : Hid ((a == b) = false) := hidIn (by simpa using hq)
        clear hq
        go_enter Try.func26, Try.ntmps26
        go_wp2_with fail
        refine HA.out.mono ?_
        rintro e w1 ⟨rfl, hw1⟩
        rw [hw1]
        clear hw1 w1
        go_wp2_with fail
        refine HB.out.mono ?_
        rintro e w1 ⟨rfl, hw1⟩
        rw [hw1]
        clear hw1 w1
        go_wp2_with fail
        go_ret
        exact ⟨by rw [Hq.out]; rfl, rfl⟩
set_option maxRecDepth 100000 in
set_option maxHeartbeats 1000000 in
theorem dmay_any (r : Ru) (w : World) : Calls Try.prog 20 #[ruV r] w fun e w' => e = .returned (.bool (ruOk r)) ∧ Below w.heap.size w w' := by
  obtain ⟨f, t, n, k, b⟩ := r
  unfold ruOk
  dsimp only
  have HP := fun w => hidIn (dright_any f t w)
  cases hp : isP f t with
  | false =>
    rw [hp] at HP
    clear hp
    go_enter Try.func20, Try.ntmps20
    go_wp2_with (go_at_call 26; refine (HP _).out.mono ?_; rintro e w1 ⟨rfl, hw1⟩; rw [hw1]; clear hw1 w1)
    go_ret
    exact ⟨rfl, by go_grown⟩
  | true =>
    rw [hp] at HP
    clear hp
    by_cases h1 : 1 ≤ n
    · rw [decide_eq_true h1]
      have h1' : ¬ n < 1 := by omega
      by_cases h2 : n ≤ 1048576
      · rw [decide_eq_true h2]
        have h2' : ¬ 1048576 < n := by omega
        unfold byOk
        by_cases k1 : k = 1
        · subst k1
          rw [if_pos rfl]
          go_enter Try.func20, Try.ntmps20
          go_wp2_with (go_at_call 26; refine (HP _).out.mono ?_; rintro e w1 ⟨rfl, hw1⟩; rw [hw1]; clear hw1 w1)
          go_ret
          exact ⟨rfl, by go_grown⟩
        · have g1 : (k == 1) = false := by simpa using k1
          rw [if_neg k1]
          by_cases k2 : k = 2
          · subst k2
            rw [if_pos (.inl rfl)]
            by_cases h3 : 1 ≤ b
            · rw [decide_eq_true h3]
              go_enter Try.func20, Try.ntmps20
              go_wp2_with (go_at_call 26; refine (HP _).out.mono ?_; rintro e w1 ⟨rfl, hw1⟩; rw [hw1]; clear hw1 w1)
              go_ret
              exact ⟨by simp, by go_grown⟩
            · rw [decide_eq_false h3]
              go_enter Try.func20, Try.ntmps20
              go_wp2_with (go_at_call 26; refine (HP _).out.mono ?_; rintro e w1 ⟨rfl, hw1⟩; rw [hw1]; clear hw1 w1)
              go_ret
              exact ⟨by simp, by go_grown⟩
          · have g2 : (k == 2) = false := by simpa using k2
            by_cases k3 : k = 3
            · subst k3
              rw [if_pos (.inr rfl)]
              by_cases h3 : 1 ≤ b
              · rw [decide_eq_true h3]
                go_enter Try.func20, Try.ntmps20
                go_wp2_with (go_at_call 26; refine (HP _).out.mono ?_; rintro e w1 ⟨rfl, hw1⟩; rw [hw1]; clear hw1 w1)
                go_ret
                exact ⟨by simp, by go_grown⟩
              · rw [decide_eq_false h3]
                go_enter Try.func20, Try.ntmps20
                go_wp2_with (go_at_call 26; refine (HP _).out.mono ?_; rintro e w1 ⟨rfl, hw1⟩; rw [hw1]; clear hw1 w1)
                go_ret
                exact ⟨by simp, by go_grown⟩
            · have g3 : (k == 3) = false := by simpa using k3
              rw [if_neg (by omega)]
              clear k1 k2 k3
              go_enter Try.func20, Try.ntmps20
              go_wp2_with (go_at_call 26; refine (HP _).out.mono ?_; rintro e w1 ⟨rfl, hw1⟩; rw [hw1]; clear hw1 w1)
              go_ret
              exact ⟨rfl, by go_grown⟩
      · rw [decide_eq_false h2]
        have h2' : 1048576 < n := by omega
        go_enter Try.func20, Try.ntmps20
        go_wp2_with (go_at_call 26; refine (HP _).out.mono ?_; rintro e w1 ⟨rfl, hw1⟩; rw [hw1]; clear hw1 w1)
        go_ret
        exact ⟨rfl, by go_grown⟩
    · rw [decide_eq_false h1]
      have h1' : n < 1 := by omega
      go_enter Try.func20, Try.ntmps20
      go_wp2_with (go_at_call 26; refine (HP _).out.mono ?_; rintro e w1 ⟨rfl, hw1⟩; rw [hw1]; clear hw1 w1)
      go_ret
      exact ⟨rfl, by go_grown⟩
end Go.Proofs.Ytkkgbcoclfpicaa.Fa
