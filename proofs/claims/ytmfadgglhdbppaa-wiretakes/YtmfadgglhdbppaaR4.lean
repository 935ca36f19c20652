/- dandelionref02.PutVar. -/
import Derived.Test.YtmfadgglhdbppaaR3
import Derived.Test.YtmfadgglhdbppaaK8
namespace Go.Proofs.Ytmfadgglhdbppaa
open Go.RowKit

set_option maxRecDepth 100000 in
set_option maxHeartbeats 1000000 in
theorem rputVar_any (b : ByteArray) (v : Nat) (hb : b.size ≤ 1000000000000000) (hv : v < 18446744073709551616) (w : World) :
    Calls Try.prog 17 #[.string b, .int .u64 v] w fun e w' => e = .returned (.string (b ++ strOfNums (pvL v))) ∧ Below w.heap.size w w' := by
  have hlen : (pvL v).length ≤ 10 := pvL_len 9 v (by omega)
  have hcv := fun (W : World) (x : Int) (T : TypeId) => conv_one W x T
  go_enter Try.func17, Try.ntmps17
  go_wp2
  go_loopw [0, 1] (fun o t wr => ∃ (m : Nat) (l : List Int), m < 18446744073709551616 ∧ t = .int .u64 m ∧ l ++ pvL m = pvL v ∧ o = .string (b ++ strOfNums l) ∧ Below w.heap.size w wr) (fun _ t _ => (intOf t).toNat)
  case atStart => exact ⟨v, [], hv, rfl, rfl, by rw [str_nil], Below.refl _ _⟩
  case round =>
    obtain ⟨m, l, hm, rfl, hl, rfl, hbel⟩ := hrel
    have hll : l.length ≤ 10 := by rw [← hl, List.length_append] at hlen; omega
    have HL := hidIn hl
    have HN := hidIn hlen
    clear hl hlen
    have h1 : (b ++ strOfNums l).size = b.size + l.length := by rw [ByteArray.size_append, strOfNums_size]
    by_cases hlt : m < 128
    · have hlt' : ¬ 128 ≤ m := by omega
      have hq : ¬ 9223372036854775807 < (b ++ strOfNums l).size + (strOfNums [(m : Int)]).size := by rw [h1, strOfNums_size, List.length_singleton]; omega
      clear h1
      go_wp2
      go_ret
      refine ⟨?_, hbel.alloc hbel.size _⟩
      rw [← HL.out, pvL_lo hlt, ← str_app]
      rfl
    · have hlt' : 128 ≤ m := by omega
      have hq : ¬ 9223372036854775807 < (b ++ strOfNums l).size + (strOfNums [(m : Int) % 128 + 128]).size := by rw [h1, strOfNums_size, List.length_singleton]; omega
      clear h1
      go_wp2
      refine ⟨⟨m / 128, l ++ [(m : Int) % 128 + 128], by omega, by go_num, ?_, by rw [str_app], hbel.alloc hbel.size _⟩, by simp [intOf]; omega⟩
      have e : ((m : Int) % 128 + 128) = ((m % 128 + 128 : Nat) : Int) := by simp
      rw [List.append_assoc, List.singleton_append, e, ← pvL_hi hlt']
      exact HL.out
end Go.Proofs.Ytmfadgglhdbppaa
