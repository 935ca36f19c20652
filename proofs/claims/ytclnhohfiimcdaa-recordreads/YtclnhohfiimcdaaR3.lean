/- dandelionref02.size, Put. -/
import Derived.Test.YtclnhohfiimcdaaK7
namespace Go.Proofs.Ytclnhohfiimcdaa.Wi
open Go.RowKit

theorem ext_bytes' {a b : ByteArray} (h : a.data.toList = b.data.toList) : a = b := by
  cases a; cases b; simp at h; simp [h]
theorem str_app (b : ByteArray) (l m : List Int) : b ++ strOfNums l ++ strOfNums m = b ++ strOfNums (l ++ m) := by
  apply ext_bytes'
  simp [strOfNums_data]
theorem str_nil (b : ByteArray) : b ++ strOfNums [] = b := by
  apply ext_bytes'
  simp [strOfNums_data]
theorem conv_one (W : World) (x : Int) (T : TypeId) : (convert 74 9 (.slice (some ⟨W.heap.size, 0, none⟩) 1 1)).run Try.prog (W.alloc (.cells #[.int .u8 x] T)) = .ok (.string (strOfNums [x])) (W.alloc (.cells #[.int .u8 x] T)) := by
  refine run_convert_bytes_arg _ 74 5 Try.underlying74 Try.underlying5 W.heap.size 0 1 1 [x] rfl (fun i hi => ?_) 9 Try.underlying9
  obtain rfl : i = 0 := by omega
  simp

set_option maxHeartbeats 400000 in
theorem rsize_yes (n : Int) (h : n = 1 ∨ n = 2 ∨ n = 4 ∨ n = 8) (w : World) :
    Calls Try.prog 54 #[.int .i64 n] w fun e w' => e = .returned (.bool true) ∧ w' = w := by
  rcases h with rfl | rfl | rfl | rfl
  all_goals
    go_enter Try.func54, Try.ntmps54
    go_wp2
    go_ret
    exact ⟨rfl, rfl⟩
set_option maxHeartbeats 400000 in
theorem rsize_no (n : Int) (h1 : n ≠ 1) (h2 : n ≠ 2) (h4 : n ≠ 4) (h8 : n ≠ 8) (w : World) :
    Calls Try.prog 54 #[.int .i64 n] w fun e w' => e = .returned (.bool false) ∧ w' = w := by
  have e1 : (n == 1) = false := by simpa using h1
  have e2 : (n == 2) = false := by simpa using h2
  have e4 : (n == 4) = false := by simpa using h4
  have e8 : (n == 8) = false := by simpa using h8
  clear h1 h2 h4 h8
  go_enter Try.func54, Try.ntmps54
  go_wp2
  go_ret
  exact ⟨rfl, rfl⟩
set_option maxHeartbeats 400000 in
theorem rput_arg (b : ByteArray) (v : Nat) (n : Int) (h1 : n ≠ 1) (h2 : n ≠ 2) (h4 : n ≠ 4) (h8 : n ≠ 8) (w : World) :
    Calls Try.prog 44 #[.string b, .int .u64 v, .int .i64 n] w fun e w' => e = .returned (.tuple #[.string ⟨#[]⟩, .int .i64 2]) ∧ w' = w := by
  go_enter Try.func44, Try.ntmps44
  go_wp2_with (go_at_call 54; refine (rsize_no _ h1 h2 h4 h8 _).mono ?_; rintro e w' ⟨rfl, rfl⟩)
  go_ret2
  exact ⟨rfl, rfl⟩
set_option maxHeartbeats 400000 in
theorem rput_long (b : ByteArray) (v n : Nat) (hn : n = 1 ∨ n = 2 ∨ n = 4) (hl : 2 ^ (8 * n) ≤ v) (w : World) :
    Calls Try.prog 44 #[.string b, .int .u64 v, .int .i64 n] w fun e w' => e = .returned (.tuple #[.string ⟨#[]⟩, .int .i64 3]) ∧ w' = w := by
  have hz : ((v : Int) / 2 ^ (n * 8) != 0) = true := by
    simp only [bne_iff_ne, ne_eq]
    rcases hn with rfl | rfl | rfl <;> omega
  rcases hn with rfl | rfl | rfl
  all_goals
    simp at hz hl
    go_enter Try.func44, Try.ntmps44
    go_wp2_with (go_at_call 54; refine (rsize_yes _ (by simp) _).mono ?_; rintro e w' ⟨rfl, rfl⟩)
    go_ret2
    exact ⟨rfl, rfl⟩

/-- A number laid in n bytes, the highest first. -/
def layD (v : Nat) : Nat → List Int
  | 0 => []
  | m + 1 => ((v / 2 ^ (8 * m) % 256 : Nat) : Int) :: layD v m
theorem layD_len (v n : Nat) : (layD v n).length = n := by
  induction n with
  | zero => rfl
  | succ n ih => simp [layD, ih]
theorem layN_layD (v n : Nat) (hn : n = 1 ∨ n = 2 ∨ n = 4 ∨ n = 8) : layN v n = layD v n := by
  rcases hn with rfl | rfl | rfl | rfl <;> simp [layN, layD, List.range_succ]
set_option maxRecDepth 100000 in
set_option maxHeartbeats 1000000 in
theorem rput_ok (b : ByteArray) (v n : Nat) (hb : b.size ≤ 1000000000000000) (_ : v < 18446744073709551616) (hn : n = 1 ∨ n = 2 ∨ n = 4 ∨ n = 8) (hl : v < 2 ^ (8 * n)) (w : World) :
    Calls Try.prog 44 #[.string b, .int .u64 v, .int .i64 n] w fun e w' => e = .returned (.tuple #[.string (b ++ strOfNums (layN v n)), .int .i64 0]) ∧ Below w.heap.size w w' := by
  have hn' : (n : Int) = 1 ∨ (n : Int) = 2 ∨ (n : Int) = 4 ∨ (n : Int) = 8 := by omega
  have h8 : n ≤ 8 ∧ 1 ≤ n := by omega
  have HN := hidIn (layN_layD v n hn)
  have hz : (n : Int) < 8 → ((v : Int) / 2 ^ (8 * n) != 0) = false := by
    intro _
    have : (v : Int) / 2 ^ (8 * n) = ((v / 2 ^ (8 * n) : Nat) : Int) := by simp
    rw [this, Nat.div_eq_of_lt hl]
    rfl
  clear hn hl
  go_enter Try.func44, Try.ntmps44
  go_wp2_with (go_at_call 54; refine (rsize_yes _ hn' _).mono ?_; rintro e w' ⟨rfl, rfl⟩)
  all_goals
    have hcv := fun (W : World) (x : Int) (T : TypeId) => conv_one W x T
    go_loopw [0, 8] (fun t i wr => ∃ (m : Nat) (l : List Int), m ≤ n ∧ i = .int .i64 ((m : Int) - 1) ∧ t = .string (b ++ strOfNums l) ∧ l ++ layD v m = layD v n ∧ Below w'.heap.size w' wr) (fun _ i _ => (intOf i + 1).toNat)
    case atStart => exact ⟨n, [], Nat.le_refl _, rfl, by rw [str_nil], rfl, Below.refl _ _⟩
    case round =>
      obtain ⟨m, l, hm, rfl, rfl, hl, hbel⟩ := hrel
      have hll : l.length ≤ 8 := by
        have := congrArg List.length hl
        rw [List.length_append, layD_len, layD_len] at this
        omega
      have HL := hidIn hl
      clear hl
      cases m with
      | zero =>
        go_wp2
        go_ret2
        have e := HL.out
        rw [show layD v 0 = [] from rfl, List.append_nil] at e
        rw [HN.out, ← e]
        exact ⟨rfl, hbel⟩
      | succ j =>
        rw [show (((j + 1 : Nat) : Int) - 1) = (j : Int) from by omega]
        have hq : ¬ 9223372036854775807 < (b ++ strOfNums l).size + (strOfNums [(v : Int) / 2 ^ (8 * j) % 256]).size := by
          have h1 : (b ++ strOfNums l).size = b.size + l.length := by rw [ByteArray.size_append, strOfNums_size]
          rw [h1, strOfNums_size, List.length_singleton]
          omega
        go_wp2
        refine ⟨⟨j, l ++ [(v : Int) / 2 ^ (8 * j) % 256], by omega, rfl, by rw [str_app], ?_, hbel.alloc hbel.size _⟩, by simp [intOf]⟩
        have e : ((v : Int) / 2 ^ (8 * j) % 256) = ((v / 2 ^ (8 * j) % 256 : Nat) : Int) := by simp
        rw [List.append_assoc, List.singleton_append, e]
        exact HL.out
end Go.Proofs.Ytclnhohfiimcdaa.Wi
