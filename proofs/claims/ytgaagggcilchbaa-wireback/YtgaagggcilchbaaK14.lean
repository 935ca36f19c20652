/- wire.TakeVar. -/
import Derived.Test.YtgaagggcilchbaaK13
import Derived.Test.YtgaagggcilchbaaK7
namespace Go.Proofs.Ytgaagggcilchbaa
open Go.RowKit

/-- The answer of TakeVar. -/
def tvT (a : Nat) : Option (Nat × Nat) → Value
  | some (v, k) => .tuple #[.int .u64 (v : Nat), .int .i64 ((a : Int) + (k : Int)), .int .i64 0]
  | none => .tuple #[.int .u64 0, .int .i64 0, .int .i64 4]
set_option maxHeartbeats 400000 in
theorem takeVar_neg (b : ByteArray) (a : Int) (ha : a < 0) (w : World) :
    Calls Try.prog 13 #[.string b, .int .i64 a] w fun e w' => e = .returned (.tuple #[.int .u64 0, .int .i64 0, .int .i64 4]) ∧ w' = w := by
  go_enter Try.func13, Try.ntmps13
  go_wp2
  exact bodyPost_ret (v := .tuple #[.int .u64 0, .int .i64 0, .int .i64 4]) (by simp [results, Try.results13, go_sem]) rfl ⟨rfl, rfl⟩
theorem and_not (x : UInt8) : bits .andNot .u8 (x.toNat : Int) 128 = ((x.toNat % 128 : Nat) : Int) := by
  have := u8_andNot_nat x.toNat 128 (by have := x.toNat_lt; omega) (by decide)
  rw [show ((128 : Nat) : Int) = 128 from rfl] at this
  rw [this, show 255 - 128 = 127 from rfl, nat_mask7]
theorem or_group (pre : List UInt8) (x : UInt8) (j : Nat) (hj : pre.length = j) (h9 : j ≤ 9) (hx : j = 9 → x.toNat % 128 ≤ 1) :
    bits .or .u64 (val pre : Int) (IntKind.u64.wrap ((x.toNat : Int) % 128 * 2 ^ (7 * j))) = ((val (pre ++ [x]) : Nat) : Int) := by
  have e7 : 2 ^ (7 * j) = 128 ^ j := by rw [Nat.pow_mul]
  have hlt : x.toNat % 128 * 2 ^ (7 * j) < 18446744073709551616 := by
    rw [e7]
    by_cases h : j = 9
    · have := hx h
      rw [h]
      omega
    · have h1 : 128 ^ j ≤ 128 ^ 8 := Nat.pow_le_pow_right (by decide) (by omega)
      have h2 : x.toNat % 128 * 128 ^ j ≤ 127 * 128 ^ 8 := Nat.mul_le_mul (by omega) h1
      omega
  have ew : IntKind.u64.wrap ((x.toNat : Int) % 128 * 2 ^ (7 * j)) = ((x.toNat % 128 * 2 ^ (7 * j) : Nat) : Int) := by
    rw [IntKind.wrap_u64, show (x.toNat : Int) % 128 * 2 ^ (7 * j) = ((x.toNat % 128 * 2 ^ (7 * j) : Nat) : Int) from by simp]
    omega
  have hv := val_lt pre
  rw [hj] at hv
  have hv64 : val pre < 18446744073709551616 := Nat.lt_of_lt_of_le hv (Nat.le_trans (Nat.pow_le_pow_right (by decide) h9) (by decide))
  rw [ew, u64_or_nat _ _ hv64 hlt, Nat.or_comm, nat_join (7 * j) _ _ (by rw [Nat.mul_mod_left]) (by rw [e7]; exact hv), val_snoc, hj, e7, Nat.add_comm]
set_option maxRecDepth 100000 in
set_option maxHeartbeats 2000000 in
theorem takeVar_any (b : ByteArray) (hb : b.size ≤ 1000000000000000) (a : Nat) (ha : a ≤ 9223372036854775807) (w : World) :
    Calls Try.prog 13 #[.string b, .int .i64 a] w fun e w' => e = .returned (tvT a (tvF [] (b.data.toList.drop a))) ∧ w' = w := by
  have hL : b.data.toList.length = b.size := by simp
  go_enter Try.func13, Try.ntmps13
  go_wp2
  go_loop [4, 7, 8] (fun v s i => ∃ (pre rest : List UInt8) (j : Nat), pre.length = j ∧ j ≤ 9 ∧ pre ++ rest = b.data.toList.drop a ∧ (∀ y ∈ pre, 128 ≤ y.toNat) ∧ tvF pre rest = tvF [] (b.data.toList.drop a) ∧ v = .int .u64 (val pre : Nat) ∧ s = .int .i64 (7 * (j : Int)) ∧ i = .int .i64 ((a : Int) + (j : Int))) (fun _ _ i => b.size - (intOf i).toNat)
  case atStart => exact ⟨[], b.data.toList.drop a, 0, rfl, Nat.zero_le _, rfl, by simp, rfl, rfl, rfl, by simp⟩
  case round =>
    obtain ⟨pre, rest, j, hj, hj9, hpr, hpre, htv, rfl, rfl, rfl⟩ := hrel
    have hlen : j + rest.length = b.size - a := by
      have := congrArg List.length hpr
      rw [List.length_append, List.length_drop] at this
      omega
    cases rest with
    | nil =>
      have hge : ¬ (a : Int) + (j : Int) < (b.size : Int) := by simp at hlen; omega
      have HT := hidIn htv
      clear htv hpr hpre hL
      go_wp2
      refine bodyPost_ret (v := .tuple #[.int .u64 0, .int .i64 0, .int .i64 4]) (by simp [results, Try.results13, go_sem]) rfl ⟨?_, rfl⟩
      rw [← HT.out]
      rfl
    | cons c r =>
      have hlt : a + j < b.size := by simp at hlen; omega
      have hcb : b[a + j] = c := by
        have h1 : (b.data.toList.drop a)[j]? = some c := by rw [← hpr, List.getElem?_append_right (by omega), hj, Nat.sub_self]; rfl
        rw [List.getElem?_drop, List.getElem?_eq_getElem (by omega)] at h1
        exact Option.some.inj h1
      have hX := b[a + j].toNat_lt
      rw [tvF_cons, ← hcb, hj] at htv
      rw [← hcb] at hpr
      have hlt' : (a : Int) + (j : Int) < (b.size : Int) := by omega
      by_cases hA : j = 9 ∧ 1 < b[a + j].toNat
      · rw [if_pos hA] at htv
        obtain ⟨rfl, h1⟩ := hA
        have e1 : decide ((1 : Int) < (b[a + 9].toNat : Int)) = true := by simp; omega
        have HT := hidIn htv
        clear htv hpr hpre hL hcb
        go_wp2
        refine bodyPost_ret (v := .tuple #[.int .u64 0, .int .i64 0, .int .i64 4]) (by simp [results, Try.results13, go_sem]) rfl ⟨?_, rfl⟩
        rw [← HT.out]
        rfl
      · rw [if_neg hA] at htv
        by_cases hB : b[a + j].toNat = 0 ∧ 0 < j
        · rw [if_pos hB] at htv
          obtain ⟨h0, h1⟩ := hB
          have e0 : ((b[a + j].toNat : Int) == 0) = true := by simp; omega
          have e1 : decide ((1 : Int) < (b[a + j].toNat : Int)) = false := by simp; omega
          have e2 : decide ((a : Int) < (a : Int) + (j : Int)) = true := by simp; omega
          have HT := hidIn htv
          clear htv hpr hpre hL hcb
          go_wp2
          all_goals
            refine bodyPost_ret (v := .tuple #[.int .u64 0, .int .i64 0, .int .i64 4]) (by simp [results, Try.results13, go_sem]) rfl ⟨?_, rfl⟩
            rw [← HT.out]
            rfl
        · rw [if_neg hB] at htv
          have hAN := and_not b[a + j]
          have HV := hidIn (or_group pre b[a + j] j hj hj9 (by omega))
          have hor := HV.out
          by_cases hC : b[a + j].toNat < 128
          · rw [if_pos hC] at htv
            have eC : decide ((b[a + j].toNat : Int) < 128) = true := by simp; omega
            have HT := hidIn htv
            clear htv hpr hpre hL hcb
            by_cases h9 : j = 9
            · subst h9
              have e1 : decide ((1 : Int) < (b[a + 9].toNat : Int)) = false := by simp; omega
              have e0 : ((b[a + 9].toNat : Int) == 0) = false := by simp; omega
              simp at hor
              go_wp2
              refine bodyPost_ret (v := .tuple #[.int .u64 (val (pre ++ [b[a + 9]]) : Nat), .int .i64 ((a : Int) + 9 + 1), .int .i64 0]) (by simp [results, Try.results13, go_sem]) rfl ⟨?_, rfl⟩
              rw [← HT.out]
              simp [tvT, Int.add_assoc]
            · have e9 : ((7 * (j : Int)) == 63) = false := by simp; omega
              by_cases h0 : b[a + j].toNat = 0
              · have e0 : ((b[a + j].toNat : Int) == 0) = true := by simp; omega
                have e2 : decide ((a : Int) < (a : Int) + (j : Int)) = false := by simp; omega
                clear h0
                go_wp2
                refine bodyPost_ret (v := .tuple #[.int .u64 (val (pre ++ [b[a + j]]) : Nat), .int .i64 ((a : Int) + (j : Int) + 1), .int .i64 0]) (by simp [results, Try.results13, go_sem]) rfl ⟨?_, rfl⟩
                rw [← HT.out]
                simp [tvT, Int.add_assoc]
              · have e0 : ((b[a + j].toNat : Int) == 0) = false := by simp; omega
                go_wp2
                refine bodyPost_ret (v := .tuple #[.int .u64 (val (pre ++ [b[a + j]]) : Nat), .int .i64 ((a : Int) + (j : Int) + 1), .int .i64 0]) (by simp [results, Try.results13, go_sem]) rfl ⟨?_, rfl⟩
                rw [← HT.out]
                simp [tvT, Int.add_assoc]
          · rw [if_neg hC] at htv
            have hj8 : j < 9 := by omega
            have eC : decide ((b[a + j].toNat : Int) < 128) = false := by simp; omega
            have e9 : ((7 * (j : Int)) == 63) = false := by simp; omega
            have e0 : ((b[a + j].toNat : Int) == 0) = false := by simp; omega
            have HT := hidIn (And.intro htv (And.intro hpr hpre))
            clear htv hpr hpre hL hcb
            go_wp2
            go_round
            case rel =>
              obtain ⟨t1, t2, t3⟩ := HT.out
              refine ⟨pre ++ [b[a + j]], r, j + 1, by simp [hj], by omega, by rw [List.append_assoc, List.singleton_append]; exact t2, ?_, t1, rfl, by go_num, by go_num⟩
              intro y hy
              rcases List.mem_append.1 hy with h | h
              · exact t3 y h
              · rw [List.mem_singleton.1 h]; omega
            case measure => simp [intOf]; omega
end Go.Proofs.Ytgaagggcilchbaa
