/- dandelionref02.TakeVar. -/
import Derived.Test.YtmfadgglhdbppaaK14
import Derived.Test.YtmfadgglhdbppaaR4
import Derived.Deep.RegionWith
namespace Go.Proofs.Ytmfadgglhdbppaa
open Go.RowKit

set_option maxHeartbeats 400000 in
theorem rtakeVar_neg (b : ByteArray) (a : Int) (ha : a < 0) (w : World) :
    Calls Try.prog 15 #[.string b, .int .i64 a] w fun e w' => e = .returned (.tuple #[.int .u64 0, .int .i64 0, .int .i64 4]) ∧ w' = w := by
  go_enter Try.func15, Try.ntmps15
  go_wp2
  exact bodyPost_ret (v := .tuple #[.int .u64 0, .int .i64 0, .int .i64 4]) (by simp [results, Try.results15, go_sem]) rfl ⟨rfl, rfl⟩
/-- The number so far, one group more. -/
def addG (pre : List UInt8) (x : UInt8) (j : Nat) : Nat := val pre + x.toNat % 128 * 2 ^ (7 * j) % 18446744073709551616
theorem addG_lt (pre : List UInt8) (x : UInt8) (j : Nat) (hj : pre.length = j) (h9 : j ≤ 9) : addG pre x j < 18446744073709551616 := by
  have hv := val_lt pre
  rw [hj] at hv
  unfold addG
  rw [show 2 ^ (7 * j) = 128 ^ j from by rw [Nat.pow_mul]]
  by_cases h : j = 9
  · rw [h] at hv ⊢
    omega
  · have h1 : 128 ^ j ≤ 128 ^ 8 := Nat.pow_le_pow_right (by decide) (by omega)
    have h2 : x.toNat % 128 * 128 ^ j ≤ 127 * 128 ^ 8 := Nat.mul_le_mul (by omega) h1
    have h3 := Nat.mod_le (x.toNat % 128 * 128 ^ j) 18446744073709551616
    omega
theorem addG_wrap (pre : List UInt8) (x : UInt8) (j : Nat) (hj : pre.length = j) (h9 : j ≤ 9) : IntKind.u64.wrap ((val pre : Int) + IntKind.u64.wrap ((x.toNat : Int) % 128 * 2 ^ (7 * j))) = ((addG pre x j : Nat) : Int) := by
  have h := addG_lt pre x j hj h9
  have e : IntKind.u64.wrap ((x.toNat : Int) % 128 * 2 ^ (7 * j)) = ((x.toNat % 128 * 2 ^ (7 * j) % 18446744073709551616 : Nat) : Int) := by
    rw [IntKind.wrap_u64, show (x.toNat : Int) % 128 * 2 ^ (7 * j) = ((x.toNat % 128 * 2 ^ (7 * j) : Nat) : Int) from by simp]
    omega
  rw [e, IntKind.wrap_u64]
  unfold addG at h ⊢
  omega
theorem addG_val (pre : List UInt8) (x : UInt8) (j : Nat) (hj : pre.length = j) (h9 : j < 9) : addG pre x j = val (pre ++ [x]) := by
  unfold addG
  rw [val_snoc, hj, show 2 ^ (7 * j) = 128 ^ j from by rw [Nat.pow_mul]]
  have h1 : 128 ^ j ≤ 128 ^ 8 := Nat.pow_le_pow_right (by decide) (by omega)
  have h2 : x.toNat % 128 * 128 ^ j ≤ 127 * 128 ^ 8 := Nat.mul_le_mul (by omega) h1
  rw [Nat.mod_eq_of_lt (by omega)]
theorem cmp_group (b : ByteArray) (a V : Nat) (pre : List UInt8) (x : UInt8) (r : List UInt8) (j : Nat) (hj : pre.length = j) (hpr : pre ++ x :: r = b.data.toList.drop a) :
    (((⟨#[]⟩ : ByteArray) ++ strOfNums (pvL V)).toList == (b.extract a (a + j + 1)).toList) = decide (pvU V = pre ++ [x]) := by
  have e1 : ((⟨#[]⟩ : ByteArray) ++ strOfNums (pvL V)).toList = pvU V := by
    rw [ByteArray.toList_eq]; simp [pvU, strOfNums_data]
  have e2 : (b.extract a (a + j + 1)).toList = pre ++ [x] := by
    rw [ByteArray.toList_eq, ByteArray.data_extract, Array.toList_extract, List.extract_eq_take_drop, ← hpr, show a + j + 1 - a = j + 1 from by omega, ← hj, List.take_length_add_append]
    rfl
  rw [e1, e2, Bool.eq_iff_iff]
  simp
set_option maxRecDepth 100000 in
set_option maxHeartbeats 2000000 in
theorem rtakeVar_any (b : ByteArray) (hb : b.size ≤ 1000000000000000) (a : Nat) (ha : a ≤ 9223372036854775807) (w : World) :
    Calls Try.prog 15 #[.string b, .int .i64 a] w fun e w' => e = .returned (tvT a (tvF [] (b.data.toList.drop a))) ∧ Below w.heap.size w w' := by
  have hL : b.data.toList.length = b.size := by simp
  go_enter Try.func15, Try.ntmps15
  go_wp2
  go_loop [7, 8] (fun v i => ∃ (j : Nat), i = .int .i64 j ∧ ((j ≤ 9 ∧ ∃ (pre rest : List UInt8), pre.length = j ∧ pre ++ rest = b.data.toList.drop a ∧ (∀ y ∈ pre, 128 ≤ y.toNat) ∧ tvF pre rest = tvF [] (b.data.toList.drop a) ∧ v = .int .u64 (val pre : Nat)) ∨ (j = 10 ∧ tvF [] (b.data.toList.drop a) = none))) (fun _ i => 10 - (intOf i).toNat)
  case atStart => exact ⟨0, rfl, .inl ⟨Nat.zero_le _, [], b.data.toList.drop a, rfl, rfl, by simp, rfl, rfl⟩⟩
  case round =>
    obtain ⟨j, rfl, ⟨hj9, pre, rest, hj, hpr, hpre, htv, rfl⟩ | ⟨rfl, htv⟩⟩ := hrel
    · have hlen : j + rest.length = b.size - a := by
        have := congrArg List.length hpr
        rw [List.length_append, List.length_drop] at this
        omega
      have e10 : (j : Int) < 10 := by omega
      cases rest with
      | nil =>
        have HT := hidIn htv
        simp at hlen
        clear htv hpr hpre hL
        by_cases hab : (a : Int) < (b.size : Int)
        · have hge : decide ((j : Int) < (b.size : Int) - (a : Int)) = false := by simp; omega
          go_wp2
          refine bodyPost_ret (v := .tuple #[.int .u64 0, .int .i64 0, .int .i64 4]) (by simp [results, Try.results15, go_sem]) rfl ⟨?_, Below.refl _ _⟩
          rw [← HT.out]
          rfl
        · go_wp2
          refine bodyPost_ret (v := .tuple #[.int .u64 0, .int .i64 0, .int .i64 4]) (by simp [results, Try.results15, go_sem]) rfl ⟨?_, Below.refl _ _⟩
          rw [← HT.out]
          rfl
      | cons c r =>
        have hlt : a + j < b.size := by simp at hlen; omega
        have hcb : b[a + j] = c := by
          have h1 : (b.data.toList.drop a)[j]? = some c := by rw [← hpr, List.getElem?_append_right (by omega), hj, Nat.sub_self]; rfl
          rw [List.getElem?_drop, List.getElem?_eq_getElem (by omega)] at h1
          exact Option.some.inj h1
        have hX := b[a + j].toNat_lt
        rw [← hcb] at hpr htv
        have hlt' : (a : Int) + (j : Int) < (b.size : Int) := by omega
        have hlt0 : (0 : Int) ≤ (a : Int) + (j : Int) := by omega
        have hlt1 : (a : Int) < (b.size : Int) := by omega
        have hlt2 : decide ((j : Int) < (b.size : Int) - (a : Int)) = true := by simp; omega
        have hadd := addG_wrap pre b[a + j] j hj hj9
        have hV := addG_lt pre b[a + j] j hj hj9
        by_cases hC : b[a + j].toNat < 128
        · have eC : decide ((b[a + j].toNat : Int) < 128) = true := by simp; omega
          have hlast := last_test pre b[a + j] r hpre (by omega) hC
          rw [hlast, hj] at htv
          have hcmp := cmp_group b a (addG pre b[a + j] j) pre b[a + j] r j hj hpr
          have HT := hidIn htv
          change Hid ((if pvU (addG pre b[a + j] j) = pre ++ [b[a + j]] then some (addG pre b[a + j] j, j + 1) else none) = tvF [] (b.data.toList.drop a)) at HT
          clear htv hpr hpre hL hcb hlast
          obtain ⟨V, eV⟩ : ∃ V, V = addG pre b[a + j] j := ⟨_, rfl⟩
          rw [← eV] at hadd hV hcmp HT
          clear eV
          have hle : a + j + 1 ≤ b.size := by omega
          have hle' : (a : Int) + (j : Int) + 1 ≤ (b.size : Int) := by omega
          have hle0 : (a : Int) ≤ (a : Int) + (j : Int) + 1 := by omega
          have hle1 : (0 : Int) ≤ (a : Int) := by omega
          have hle2 : (0 : Int) ≤ (a : Int) + (j : Int) + 1 := by omega
          have hw1 : IntKind.i64.wrap ((a : Int) + (j : Int)) = (a : Int) + (j : Int) := by simp [IntKind.wrap, IntKind.bits, IntKind.signed]; omega
          have hw2 : IntKind.i64.wrap ((a : Int) + (j : Int) + 1) = (a : Int) + (j : Int) + 1 := by simp [IntKind.wrap, IntKind.bits, IntKind.signed]; omega
          have hsl : ∀ W : World, (Instr.slice 9 (.string b) (some (.int .i64 (a : Int))) (some (.int .i64 ((a : Int) + (j : Int) + 1))) none).run Try.prog W = .ok (.string (b.extract a (a + j + 1))) W := by
            intro W
            rw [run_slice_string W 9 b .i64 .i64 (a : Int) ((a : Int) + (j : Int) + 1) Try.underlying9 hle1 hle0 hle', Int.toNat_natCast, show ((a : Int) + (j : Int) + 1).toNat = a + j + 1 from by omega]
          by_cases hE : pvU V = pre ++ [b[a + j]]
          · rw [decide_eq_true hE] at hcmp
            rw [if_pos hE] at HT
            clear hE
            go_wp2
            go_region_with (go_at_call 17; refine (rputVar_any ⟨#[]⟩ V (by decide) hV _).mono ?_; rintro e w1 ⟨rfl, hb1⟩)
            go_wp2
            refine bodyPost_ret (v := .tuple #[.int .u64 (V : Nat), .int .i64 ((a : Int) + (j : Int) + 1), .int .i64 0]) (by simp [results, Try.results15, go_sem]) rfl ⟨?_, ((Below.refl w.heap.size w).drew).trans hb1⟩
            rw [← HT.out]
            simp [tvT, Int.add_assoc]
          · rw [decide_eq_false hE] at hcmp
            rw [if_neg hE] at HT
            clear hE
            go_wp2
            go_region_with (go_at_call 17; refine (rputVar_any ⟨#[]⟩ V (by decide) hV _).mono ?_; rintro e w1 ⟨rfl, hb1⟩)
            go_wp2
            refine bodyPost_ret (v := .tuple #[.int .u64 0, .int .i64 0, .int .i64 4]) (by simp [results, Try.results15, go_sem]) rfl ⟨?_, ((Below.refl w.heap.size w).drew).trans hb1⟩
            rw [← HT.out]
            rfl
        · have eC : decide ((b[a + j].toNat : Int) < 128) = false := by simp; omega
          rw [tvF_cons, hj] at htv
          by_cases h9 : j = 9
          · rw [if_pos ⟨h9, by omega⟩] at htv
            have HT := hidIn (And.intro h9 htv)
            clear htv hpr hpre hL hcb hadd h9
            go_wp2
            go_round
            case rel => exact ⟨j + 1, by go_num, .inr ⟨by have := HT.out.1; omega, HT.out.2.symm⟩⟩
            case measure => simp [intOf]; omega
          · rw [if_neg (by omega), if_neg (by omega), if_neg hC] at htv
            have HA := hidIn (addG_val pre b[a + j] j hj (by omega))
            have HT := hidIn (And.intro htv (And.intro hpr hpre))
            clear htv hpr hpre hL hcb
            go_wp2
            go_round
            case rel =>
              obtain ⟨t1, t2, t3⟩ := HT.out
              refine ⟨j + 1, by go_num, .inl ⟨by omega, pre ++ [b[a + j]], r, by simp [hj], by rw [List.append_assoc, List.singleton_append]; exact t2, ?_, t1, int_int (by rw [HA.out])⟩⟩
              intro y hy
              rcases List.mem_append.1 hy with h | h
              · exact t3 y h
              · rw [List.mem_singleton.1 h]; omega
            case measure => simp [intOf]; omega
    · have HT := hidIn htv
      clear htv hL
      go_wp2
      refine bodyPost_ret (v := .tuple #[.int .u64 0, .int .i64 0, .int .i64 4]) (by simp [results, Try.results15, go_sem]) rfl ⟨?_, Below.refl _ _⟩
      rw [HT.out]
      rfl
end Go.Proofs.Ytmfadgglhdbppaa
