/- fate: isRouter, isPair, mayBeBy, mayBe, byRule. -/
import Derived.Test.YtkhfpcnmnnboeaaFA1
namespace Go.Proofs.Ytkhfpcnmnnboeaa.Fa
open Go.RowKit

theorem ftisR_any (n : Int) (w : World) : Calls Try.prog 58 #[.int .i64 n] w fun e w' => e = .returned (.bool (isR n)) ∧ w' = w := by
  by_cases h1 : 1 ≤ n
  · by_cases h2 : n ≤ 24
    · go_enter Try.func58, Try.ntmps58
      go_wp2
      go_ret
      exact ⟨by simp [isR, h1, h2], rfl⟩
    · go_enter Try.func58, Try.ntmps58
      go_wp2
      go_ret
      exact ⟨by simp [isR, h1]; omega, rfl⟩
  · go_enter Try.func58, Try.ntmps58
    go_wp2
    go_ret
    exact ⟨by simp [isR]; omega, rfl⟩
set_option maxRecDepth 100000 in
set_option maxHeartbeats 1000000 in
theorem ftisP_any (a b : Int) (w : World) : Calls Try.prog 41 #[.int .i64 a, .int .i64 b] w fun e w' => e = .returned (.bool (isP a b)) ∧ w' = w := by
  have HA := hidIn (ftisR_any a w)
  have HB := hidIn (ftisR_any b w)
  unfold isP
  cases ha : isR a with
  | false =>
    rw [ha] at HA
    clear ha
    go_enter Try.func41, Try.ntmps41
    go_wp2_with fail
    refine HA.out.mono ?_
    rintro e w1 ⟨rfl, hw1⟩
    rw [hw1]
    clear hw1 w1
    go_wp2_with fail
    go_ret
    exact ⟨rfl, rfl⟩
  | true =>
    rw [ha] at HA
    clear ha
    cases hb : isR b with
    | false =>
      rw [hb] at HB
      clear hb
      go_enter Try.func41, Try.ntmps41
      go_wp2_with fail
      refine HA.out.mono ?_
      rintro e w1 ⟨rfl, hw1⟩
      rw [hw1]
      clear hw1 w1
      go_wp2_with fail
      refine HB.out.mono ?_
      rintro e w1 ⟨rfl, hw1⟩
      rw [hw1]
      clear hw1 w1
      go_wp2_with fail
      go_ret
      exact ⟨rfl, rfl⟩
    | true =>
      rw [hb] at HB
      clear hb
      by_cases hq : a = b
      · have hq' : (a != b) = false := by simpa using hq
        have Hq : Hid ((a == b) = true) := hidIn (by simpa using hq)
        clear hq
        go_enter Try.func41, Try.ntmps41
        go_wp2_with fail
        refine HA.out.mono ?_
        rintro e w1 ⟨rfl, hw1⟩
        rw [hw1]
        clear hw1 w1
        go_wp2_with fail
        refine HB.out.mono ?_
        rintro e w1 ⟨rfl, hw1⟩
        rw [hw1]
        clear hw1 w1
        go_wp2_with fail
        go_ret
        exact ⟨by rw [Hq.out]; rfl, rfl⟩
      · have hq' : (a != b) = true := by simpa using hq
        have Hq : Hid ((a == b) = false) := hidIn (by simpa using hq)
        clear hq
        go_enter Try.func41, Try.ntmps41
        go_wp2_with fail
        refine HA.out.mono ?_
        rintro e w1 ⟨rfl, hw1⟩
        rw [hw1]
        clear hw1 w1
        go_wp2_with fail
        refine HB.out.mono ?_
        rintro e w1 ⟨rfl, hw1⟩
        rw [hw1]
        clear hw1 w1
        go_wp2_with fail
        go_ret
        exact ⟨by rw [Hq.out]; rfl, rfl⟩
set_option maxRecDepth 100000 in
set_option maxHeartbeats 1000000 in
theorem ftby_any (k b : Int) (w : World) : Calls Try.prog 77 #[.int .i64 k, .int .i64 b] w fun e w' => e = .returned (.bool (byOk k b)) ∧ w' = w := by
  unfold byOk
  by_cases h1 : k = 1
  · subst h1
    rw [if_pos rfl]
    go_enter Try.func77, Try.ntmps77
    go_wp2
    go_ret
    exact ⟨rfl, rfl⟩
  · rw [if_neg h1]
    have g1 : (k == 1) = false := by simpa using h1
    by_cases h2 : k = 2
    · subst h2
      rw [if_pos (.inl rfl)]
      by_cases h3 : 1 ≤ b
      · rw [decide_eq_true h3]
        go_enter Try.func77, Try.ntmps77
        go_wp2
        go_ret
        exact ⟨by simp, rfl⟩
      · rw [decide_eq_false h3]
        go_enter Try.func77, Try.ntmps77
        go_wp2
        go_ret
        exact ⟨by simp, rfl⟩
    · have g2 : (k == 2) = false := by simpa using h2
      by_cases h4 : k = 3
      · subst h4
        rw [if_pos (.inr rfl)]
        by_cases h3 : 1 ≤ b
        · rw [decide_eq_true h3]
          go_enter Try.func77, Try.ntmps77
          go_wp2
          go_ret
          exact ⟨by simp, rfl⟩
        · rw [decide_eq_false h3]
          go_enter Try.func77, Try.ntmps77
          go_wp2
          go_ret
          exact ⟨by simp, rfl⟩
      · have g4 : (k == 3) = false := by simpa using h4
        rw [if_neg (by omega)]
        clear h1 h2 h4
        go_enter Try.func77, Try.ntmps77
        go_wp2
        go_ret
        exact ⟨rfl, rfl⟩
set_option maxRecDepth 100000 in
set_option maxHeartbeats 1000000 in
theorem ftmay_any (r : Ru) (w : World) : Calls Try.prog 70 #[ruV r] w fun e w' => e = .returned (.bool (ruOk r)) ∧ Below w.heap.size w w' := by
  obtain ⟨f, t, n, k, b⟩ := r
  unfold ruOk
  dsimp only
  have HP := fun w => hidIn (ftisP_any f t w)
  have HY := fun w => hidIn (ftby_any k b w)
  cases hp : isP f t with
  | false =>
    rw [hp] at HP
    clear hp
    go_enter Try.func70, Try.ntmps70
    go_wp2_with (go_at_call 41; refine (HP _).out.mono ?_; rintro e w1 ⟨rfl, hw1⟩; rw [hw1]; clear hw1 w1)
    go_ret
    exact ⟨rfl, by go_grown⟩
  | true =>
    rw [hp] at HP
    clear hp
    by_cases h1 : 1 ≤ n
    · rw [decide_eq_true h1]
      by_cases h2 : n ≤ 1048576
      · rw [decide_eq_true h2]
        go_enter Try.func70, Try.ntmps70
        go_wp2_with (first | (go_at_call 41; refine (HP _).out.mono ?_; rintro e w1 ⟨rfl, hw1⟩; rw [hw1]; clear hw1 w1) | (go_at_call 77; refine (HY _).out.mono ?_; rintro e w1 ⟨rfl, hw1⟩; rw [hw1]; clear hw1 w1))
        go_ret
        exact ⟨by simp, by go_grown⟩
      · rw [decide_eq_false h2]
        go_enter Try.func70, Try.ntmps70
        go_wp2_with (go_at_call 41; refine (HP _).out.mono ?_; rintro e w1 ⟨rfl, hw1⟩; rw [hw1]; clear hw1 w1)
        go_ret
        exact ⟨rfl, by go_grown⟩
    · rw [decide_eq_false h1]
      go_enter Try.func70, Try.ntmps70
      go_wp2_with (go_at_call 41; refine (HP _).out.mono ?_; rintro e w1 ⟨rfl, hw1⟩; rw [hw1]; clear hw1 w1)
      go_ret
      exact ⟨rfl, by go_grown⟩
abbrev ftV (x : Ft) : Value := .agg #[.int .i64 x.1, .int .i64 x.2.1, .int .i64 x.2.2]
theorem underFt : Try.prog.underlying 33 = some (.struct (Try.prog.fieldsOf 33)) := by kernel_rfl
theorem infoFt : (Try.prog.info? 33).map (·.size) = some 3 := by kernel_rfl
theorem load_ft {w : World} {b : Nat} {x y z : Value} (h : w.heap[b]? = some (.cells #[x, y, z] 33)) : (loadVar 33 ⟨b, 0, none⟩).run Try.prog w = .ok (.agg #[x, y, z]) w :=
  run_loadVar_mid w b 0 33 [x, y, z] (.struct (Try.prog.fieldsOf 33)) (fun j v hv => by
    rw [Nat.zero_add, cell_of_row w b j _ _ _ h, List.getElem?_toArray]
    exact hv) underFt rfl infoFt
set_option maxRecDepth 100000 in
theorem ftrule_any (r : Ru) (w : World) : Calls Try.prog 59 #[ruV r] w fun e w' => e = .returned (ftV (byR r)) ∧ Below w.heap.size w w' := by
  obtain ⟨f, t, n, k, b⟩ := r
  unfold byR
  dsimp only
  by_cases h1 : k = 1
  · subst h1
    rw [if_pos rfl]
    go_enter Try.func59, Try.ntmps59
    go_wp2
    refine bodyPost_ret (v := (.agg #[.int .i64 0, .int .i64 0, .int .i64 0])) (by simp [results, Try.results59, asAddr, Result.andThen, go_sem]) rfl ⟨rfl, by go_grown⟩
  · rw [if_neg h1]
    have g1 : (k == 1) = false := by simpa using h1
    by_cases h2 : k = 2
    · subst h2
      rw [if_pos rfl]
      go_enter Try.func59, Try.ntmps59
      go_wp2
      refine bodyPost_ret (v := (.agg #[.int .i64 2, .int .i64 0, .int .i64 b])) (by simp [results, Try.results59, asAddr, Result.andThen, go_sem]) rfl ⟨rfl, by go_grown⟩
    · have g2 : (k == 2) = false := by simpa using h2
      rw [if_neg h2]
      clear h1 h2
      go_enter Try.func59, Try.ntmps59
      go_wp2
      refine bodyPost_ret (v := (.agg #[.int .i64 1, .int .i64 b, .int .i64 0])) (by simp [results, Try.results59, asAddr, Result.andThen, go_sem]) rfl ⟨rfl, by go_grown⟩
end Go.Proofs.Ytkhfpcnmnnboeaa.Fa
