/- bits.Bytes: a bit string as bytes. -/
import Derived.Test.YtjpnbjfomikhaaaDoorW7
import Derived.Test.YtjpnbjfomikhaaaDoorW5
import Derived.Laws.BytesArg
import Derived.Deep.OwnRows
namespace Go.Proofs.YtjpnbjfomikhaaaDoor
open Go.RowKit

/-- The byte i of a number. -/
def byteOf (N i : Nat) : Nat := N / 2 ^ (8 * i) % 256
theorem byte_word (N k : Nat) : wd N (k / 8) / 2 ^ (k % 8 * 8) % 256 = byteOf N k := by
  unfold wd byteOf
  apply Nat.eq_of_testBit_eq
  intro j
  rw [show (256 : Nat) = 2 ^ 8 from rfl]
  simp only [Nat.testBit_mod_two_pow, Nat.testBit_div_two_pow]
  by_cases hj : j < 8
  · have h1 : j + k % 8 * 8 < 64 := by omega
    have h2 : j + k % 8 * 8 + 64 * (k / 8) = j + 8 * k := by omega
    simp [hj, h1, h2]
  · simp [hj]
theorem infoByte : (Tryd.prog.info? 5).map (fun i => (i.zero, i.size, i.bytes)) = some (some (.int .u8 0), 1, 1) := by kernel_rfl

set_option maxHeartbeats 1000000 in
theorem bytes_ok (N n : Nat) (hN : N < 2 ^ 256) (h1 : 1 ≤ n) (h2 : n ≤ 32) (hb : bl N ≤ 8 * n) (w : World) :
    Calls Tryd.prog 41 #[bs N, .int .i64 (8 * (n : Int))] w fun e w' => e = .returned (.tuple #[.string (strOfNums ((List.range n).map fun i => ((byteOf N i : Nat) : Int))), .int .i64 0]) ∧ Below w.heap.size w w' := by
  have hmk := run_make_row' (P := Tryd.prog) 58 5 (.int .u8 0) 1 Tryd.underlying58 infoByte rfl .i64 .i64 n (by omega) (by omega)
  unfold bs
  go_enter Tryd.func41, Tryd.ntmps41
  go_wp2_with (go_at_call 11; refine (below_yes N hN (8 * (n : Int)) (by omega) (by omega) (by omega) _).mono ?_; rintro e w1 ⟨rfl, hb1⟩)
  have hB1 := (hasBs_new w N).keep hb1 (by simp)
  have hw1 : Below w.heap.size w w1 := ((Below.refl _ w).alloc (Nat.le_refl _) _).trans (hb1.mono (by simp))
  clear hb1 hmk
  go_loopw [28] (fun i wr => ∃ k : Nat, k ≤ n ∧ i = .int .i64 k ∧ wr.rowIs w1.heap.size 5 n (fun j => .int .u8 (if j < k then ((byteOf N j : Nat) : Int) else 0)) ∧ HasBs wr w.heap.size N ∧ Below w.heap.size w wr) (fun i _ => n - (intOf i).toNat)
  case atStart =>
    refine ⟨0, Nat.zero_le _, rfl, ?_, hB1.keep (Below.alloc (Below.refl _ w1) (Nat.le_refl _) _) hB1.lt, hw1.alloc hw1.size _⟩
    exact (World.rowIs_made w1 (.int .u8 0) n 5).congr (fun i _ => by simp)
  case round =>
    obtain ⟨k, hk, rfl, hrow, hB, hbel⟩ := hrel
    have hlt1 := hB1.lt
    by_cases hlt : k < n
    · have hc : wr.cell? ⟨w.heap.size, k / 8, none⟩ = some (.int .u64 (wd N (k / 8))) := by
        have hcs : k / 8 = 0 ∨ k / 8 = 1 ∨ k / 8 = 2 ∨ k / 8 = 3 := by omega
        rcases hcs with e | e | e | e <;> rw [e]
        · exact hB.c0
        · exact hB.c1
        · exact hB.c2
        · exact hB.c3
      have hg := hrow.cell hlt
      have hf := hrow.frozen k
      have HR := hidIn hrow
      have HB := hidIn hB
      clear hrow hB
      go_wp2
      have hv : ((wd N (k / 8) : Nat) : Int) / 2 ^ (k % 8 * 8) % 256 = ((byteOf N k : Nat) : Int) := by
        rw [← byte_word]
        simp
      rw [hv]
      refine ⟨⟨k + 1, by omega, by go_num, ?_, ?_, ?_⟩, by simp [intOf]; omega⟩
      · refine (HR.out.set k (.int .u8 ((byteOf N k : Nat) : Int))).congr ?_
        intro i hi
        by_cases e : i = k
        · subst e; simp
        · have e2 : (i < k + 1) = (i < k) := by simp; omega
          simp [e, e2]
      · exact HB.out.keep ((Below.refl w1.heap.size wr).setCell (p := ⟨w1.heap.size, k, none⟩) (Nat.le_refl _) _) hlt1
      · exact hbel.setCell (p := ⟨w1.heap.size, k, none⟩) (show w.heap.size ≤ w1.heap.size by omega) _
    · obtain rfl : k = n := by omega
      have hconv := run_convert_bytes_arg (P := Tryd.prog) wr 58 5 Tryd.underlying58 Tryd.underlying5 w1.heap.size 0 k k ((List.range k).map fun i => ((byteOf N i : Nat) : Int)) (by simp) (by
        intro i hi
        rw [Nat.zero_add, hrow.cell hi]
        simp [hi]) 9 Tryd.underlying9
      obtain ⟨S, hS⟩ : ∃ S, strOfNums ((List.range k).map fun i => ((byteOf N i : Nat) : Int)) = S := ⟨_, rfl⟩
      rw [hS] at hconv
      have HS := hidIn hS
      clear hS
      clear hrow hB
      go_wp2
      go_ret2
      exact ⟨by rw [HS.out]; rfl, hbel⟩
end Go.Proofs.YtjpnbjfomikhaaaDoor
