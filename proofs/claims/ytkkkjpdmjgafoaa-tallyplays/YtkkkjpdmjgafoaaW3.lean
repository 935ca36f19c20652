/- math/bits.OnesCount64: how many bits are set. -/
import Derived.Test.YtkkkjpdmjgafoaaW1
import Derived.Test.YtkkkjpdmjgafoaaM2
namespace Go.Proofs.Ytkkkjpdmjgafoaa.Bi
open Go.RowKit

set_option maxHeartbeats 400000 in
theorem ones_walk (x x1 x2 x3 x4 x5 x6 : Nat) (r : Int)
    (h1 : IntKind.u64.wrap (bits .and .u64 ((x : Int) / 2) 6148914691236517205 + bits .and .u64 (x : Int) 6148914691236517205) = (x1 : Int))
    (h2 : IntKind.u64.wrap (bits .and .u64 ((x1 : Int) / 4) 3689348814741910323 + bits .and .u64 (x1 : Int) 3689348814741910323) = (x2 : Int))
    (h3 : bits .and .u64 (IntKind.u64.wrap ((x2 : Int) / 16 + (x2 : Int))) 1085102592571150095 = (x3 : Int))
    (h4 : IntKind.u64.wrap ((x3 : Int) + (x3 : Int) / 256) = (x4 : Int))
    (h5 : IntKind.u64.wrap ((x4 : Int) + (x4 : Int) / 65536) = (x5 : Int))
    (h6 : IntKind.u64.wrap ((x5 : Int) + (x5 : Int) / 4294967296) = (x6 : Int))
    (h7 : bits .and .i64 (wrap64 (x6 : Int)) 127 = r) (w : World) :
    Calls Try.prog 31 #[.int .u64 x] w fun e w' => e = .returned (.int .i64 r) ∧ w' = w := by
  go_enter Try.func31, Try.ntmps31
  go_wp2
  go_ret
  exact ⟨rfl, rfl⟩

theorem and_i64_127 (x : Nat) (h : x < 9223372036854775808) : bits .and .i64 (wrap64 (x : Int)) 127 = ((x % 128 : Nat) : Int) := by
  have e : wrap64 (x : Int) = (x : Int) := by unfold wrap64; omega
  rw [e]
  show IntKind.i64.wrap ((BitVec.ofInt 64 (x : Int) &&& BitVec.ofInt 64 ((127 : Nat) : Int)).toNat : Int) = _
  rw [BitVec.toNat_and, ofInt_u64 x (by omega), ofInt_u64 127 (by omega), show (127 : Nat) = 2 ^ 7 - 1 from rfl, Nat.and_two_pow_sub_one_eq_mod]
  rw [IntKind.wrap_i64]
  omega

theorem ones_any (x : Nat) (hx : x < 18446744073709551616) (w : World) :
    Calls Try.prog 31 #[.int .u64 x] w fun e w' => e = .returned (.int .i64 (cntTo 64 x)) ∧ w' = w := by
  obtain ⟨x1, x2, x3, x4, x5, x6, e1, l1, e2, l2, e3, l3, e4, l4, e5, l5, e6, l6, hr⟩ := ones_steps x
  have k : ∀ (a c : Nat) (d : Int), a < 18446744073709551616 → c < 18446744073709551616 → d = (a : Int) → bits .and .u64 d (c : Int) = ((a &&& c : Nat) : Int) := by
    intro a c d ha hc hd
    rw [hd]; exact u64_and_nat a c ha hc
  refine ones_walk x x1 x2 x3 x4 x5 x6 _ ?_ ?_ ?_ ?_ ?_ ?_ ?_ w
  · have h1 : bits .and .u64 ((x : Int) / 2) 6148914691236517205 = _ := k (x / 2) 6148914691236517205 ((x : Int) / 2) (by omega) (by omega) (by omega)
    have h2 : bits .and .u64 (x : Int) 6148914691236517205 = _ := k x 6148914691236517205 (x : Int) (by omega) (by omega) rfl
    rw [h1, h2, IntKind.wrap_u64, e1]
    omega
  · have h1 : bits .and .u64 ((x1 : Int) / 4) 3689348814741910323 = _ := k (x1 / 4) 3689348814741910323 ((x1 : Int) / 4) (by omega) (by omega) (by omega)
    have h2 : bits .and .u64 (x1 : Int) 3689348814741910323 = _ := k x1 3689348814741910323 (x1 : Int) (by omega) (by omega) rfl
    rw [h1, h2, IntKind.wrap_u64, e2]
    omega
  · have h0 : IntKind.u64.wrap ((x2 : Int) / 16 + (x2 : Int)) = ((x2 / 16 + x2 : Nat) : Int) := by rw [IntKind.wrap_u64]; omega
    have h1 : bits .and .u64 _ 1085102592571150095 = _ := k (x2 / 16 + x2) 1085102592571150095 _ (by omega) (by omega) h0
    rw [h1, e3]
  · rw [IntKind.wrap_u64]; omega
  · rw [IntKind.wrap_u64]; omega
  · rw [IntKind.wrap_u64]; omega
  · rw [and_i64_127 x6 l6, hr]
end Go.Proofs.Ytkkkjpdmjgafoaa.Bi
