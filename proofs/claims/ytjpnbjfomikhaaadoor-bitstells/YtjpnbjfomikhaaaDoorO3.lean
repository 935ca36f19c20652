/- The law's own comparison of two lists. -/
import Derived.Test.YtjpnbjfomikhaaaDoorW5
import Derived.BigQuiet
namespace Go.Proofs.YtjpnbjfomikhaaaDoor
open Go.RowKit

set_option maxHeartbeats 400000 in
theorem same_nil (a b : Option Addr) (c d : Nat) (w : World) :
    Calls Tryd.prog 20 #[.slice a 0 c, .slice b 0 d] w fun e w' => e = .returned (.bool true) ∧ Below w.heap.size w w' := by
  go_enter Tryd.func20, Tryd.ntmps20
  go_wp2
  go_rounds 1
  go_ret
  exact ⟨rfl, by go_grown⟩

set_option maxHeartbeats 400000 in
theorem same_yes (zs : List Int) (bk o c bk' o' c' : Nat) (w : World) (hl : zs.length ≤ 9223372036854775807)
    (hc : ∀ j, j < zs.length → w.cell? ⟨bk, o + j, none⟩ = some (.int .i64 (zs[j]?.getD 0))) (hd : ∀ j, j < zs.length → w.cell? ⟨bk', o' + j, none⟩ = some (.int .i64 (zs[j]?.getD 0))) :
    Calls Tryd.prog 20 #[.slice (some ⟨bk, o, none⟩) zs.length c, .slice (some ⟨bk', o', none⟩) zs.length c'] w fun e w' => e = .returned (.bool true) ∧ Below w.heap.size w w' := by
  have Hc := hidIn hc
  have Hd := hidIn hd
  clear hc hd
  go_enter Tryd.func20, Tryd.ntmps20
  go_wp2
  go_loopw [5] (fun i wr => ∃ k : Nat, k ≤ zs.length ∧ i = .int .i64 k ∧ ∃ n, wr = w.drewN n) (fun i _ => zs.length - (intOf i).toNat)
  case atStart => exact ⟨0, Nat.zero_le _, rfl, 0, rfl⟩
  case round =>
    obtain ⟨k, hk, rfl, n, rfl⟩ := hrel
    by_cases hlt : k < zs.length
    · have h1 := Hc.out k hlt
      have h2 := Hd.out k hlt
      have hlt' : ((k : Int) < (zs.length : Int)) := by omega
      have h0' : ((0 : Int) ≤ (k : Int)) := by omega
      generalize zs[k]?.getD 0 = z at h1 h2
      go_wp2
      go_quiet (fail)
      go_wp2
      go_roundw
      case rel => exact ⟨k + 1, by omega, by go_num, n + nq, rfl⟩
      case measure => simp [intOf]; omega
    · go_wp2
      go_ret
      exact ⟨rfl, rfl, rfl, rfl, Nat.le_refl _, fun _ _ => rfl⟩
end Go.Proofs.YtjpnbjfomikhaaaDoor
