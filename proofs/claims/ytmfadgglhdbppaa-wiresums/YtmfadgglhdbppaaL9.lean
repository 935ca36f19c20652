/- The law WireSums, walked. -/
import Derived.Test.YtmfadgglhdbppaaR7
import Derived.Lib.QuietBelow
import Derived.BigQuiet
import Derived.Deep.QuietTactic
namespace Go.Proofs.Ytmfadgglhdbppaa
open Go.RowKit

set_option maxHeartbeats 400000 in
theorem sum_zero (a : Option Addr) (cap : Nat) (w : World) :
    Calls Try.prog 18 #[.slice a 0 cap] w fun e w' => e = .returned (.int .u16 65535) ∧ w' = w := by
  go_enter Try.func18, Try.ntmps18
  go_wp2
  go_loop [3, 9] (fun t i => i = .int .i64 0 ∧ t = .int .u16 65535) (fun _ _ => 0)
  case atStart => exact ⟨rfl, rfl⟩
  case round =>
    obtain ⟨rfl, rfl⟩ := hrel
    go_wp2
    go_ret
    exact ⟨rfl, rfl⟩
set_option maxHeartbeats 400000 in
theorem rsum_zero (a : Option Addr) (cap : Nat) (w : World) :
    Calls Try.prog 19 #[.slice a 0 cap] w fun e w' => e = .returned (.int .u16 65535) ∧ w' = w := by
  go_enter Try.func19, Try.ntmps19
  go_wp2
  go_loop [3, 4] (fun t i => i = .int .i64 0 ∧ t = .int .u16 65535) (fun _ _ => 0)
  case atStart => exact ⟨rfl, rfl⟩
  case round =>
    obtain ⟨rfl, rfl⟩ := hrel
    go_wp2
    go_ret
    exact ⟨rfl, rfl⟩
set_option maxHeartbeats 400000 in
theorem sums_none (a : Option Addr) (cap : Nat) (w : World) :
    Calls Try.prog 6 #[.slice a 0 cap] w fun e w' => e = .returned (.bool true) ∧ Below w.heap.size w w' := by
  go_enter Try.func6, Try.ntmps6
  go_wp2_with (first
    | (go_at_call 18; refine (sum_zero a cap _).mono ?_; rintro r w1 ⟨rfl, hw⟩; replace hw := hw.symm; subst hw)
    | (go_at_call 19; refine (rsum_zero a cap _).mono ?_; rintro r w2 ⟨rfl, hw⟩; replace hw := hw.symm; subst hw))
  go_loopw [3] (fun i wr => i = .int .i64 0 ∧ Below w.heap.size w wr) (fun _ _ => 0)
  case atStart => exact ⟨rfl, Below.refl _ _⟩
  case round =>
    obtain ⟨rfl, hbel⟩ := hrel
    go_wp2_with (go_at_call 11; refine (works_any _).mono ?_; rintro r w5 ⟨rfl, b5⟩)
    go_ret
    exact ⟨rfl, hbel.trans (b5.mono hbel.size)⟩
set_option maxRecDepth 100000 in
set_option maxHeartbeats 2000000 in
theorem sums_some (Sx : Nat → ByteArray) (n bk o cap : Nat) (hn : n ≤ maxLen) (hz : ∀ i, i < n → (Sx i).size ≤ 140737488351232) (w : World) (hc : ∀ i, i < n → w.cell? ⟨bk, o + i, none⟩ = some (.string (Sx i))) (hbk : bk < w.heap.size) :
    Calls Try.prog 6 #[.slice (some ⟨bk, o, none⟩) n cap] w fun e w' => e = .returned (.bool true) ∧ Below w.heap.size w w' := by
  have hm : ∀ i, i < n → (Sx i).size ≤ maxLen := fun i hi => by have := hz i hi; unfold maxLen; omega
  have H := hidIn (And.intro (sum_any Sx n bk o cap hn hm w hc) (rsum_any Sx n bk o cap hn hm w hc))
  have HC := hidIn (And.intro hc hz)
  unfold maxLen at hn
  clear hm hc hz
  go_enter Try.func6, Try.ntmps6
  go_wp2_with (first
    | (go_at_call 18; refine H.out.1.mono ?_; rintro r w1 ⟨rfl, hw⟩; replace hw := hw.symm; subst hw)
    | (go_at_call 19; refine H.out.2.mono ?_; rintro r w2 ⟨rfl, hw⟩; replace hw := hw.symm; subst hw))
  go_loopw [3] (fun i wr => ∃ k : Nat, k ≤ n ∧ k ≤ 16 ∧ i = .int .i64 k ∧ Below w.heap.size w wr) (fun i _ => 16 - (intOf i).toNat)
  case atStart => exact ⟨0, Nat.zero_le _, Nat.zero_le _, rfl, Below.refl _ _⟩
  case round =>
    obtain ⟨k, hk, hk16, rfl, hbel⟩ := hrel
    by_cases hlt : k < n ∧ k < 16
    · obtain ⟨hl1, hl2⟩ := hlt
      have hcell := HC.out.1 k hl1
      have hsz := HC.out.2 k hl1
      generalize Sx k = s at hcell hsz
      obtain ⟨s1, e1, h1, h2⟩ := open_both s (by omega)
      have H1 := hidIn h1
      have H2 := hidIn h2
      clear h1 h2
      have hcr : wr.cell? ⟨bk, o + k, none⟩ = some (.string s) := (hbel.cell (p := ⟨bk, o + k, none⟩) hbk).trans hcell
      have hj1 : (k : Int) < (n : Int) := by omega
      have hself := str_eq (rfl : s1 = s1)
      have hself2 := str_eq (rfl : sealS s = sealS s)
      go_wp2_with fail
      refine (H1.out _).mono ?_
      rintro r w2 ⟨rfl, b2⟩
      have hcr2 := (b2.cell (p := ⟨bk, o + k, none⟩) (Nat.lt_of_lt_of_le hbk hbel.size)).trans hcr
      go_wp2_with fail
      refine (H2.out _).mono ?_
      rintro r w3 ⟨rfl, b3⟩
      have hcr3 := (b3.cell (p := ⟨bk, o + k, none⟩) (Nat.lt_of_lt_of_le hbk (Nat.le_trans hbel.size b2.size))).trans hcr2
      have hB3 : Below w.heap.size w w3 := (hbel.trans (b2.mono hbel.size)).trans (b3.mono (Nat.le_trans hbel.size b2.size))
      clear hcr hcr2 b2 b3
      have k0 := cell_regrown hcr3
      go_wp2_with fail
      refine wp_region_quiet_below (by kernel_rfl) (by kernel_rfl) ?_
      repeat (go_big_quiet_step (first
        | (go_at_call 22; exact Calls.regrown_of (seal_any s (by omega) _))
        | (go_at_call 23; exact Calls.regrown_of (rseal_any s (by omega) _))))
      refine wpQuiet_nil ?_
      intro _ hw'
      obtain ⟨⟨dq, osq⟩, hw''⟩ := hw'
      subst hw''
      have hbr := below_regrown w3 dq osq
      generalize Go.Sort.grow (redrawn w3 dq) osq = W4 at hbr ⊢
      have hB4 : Below w.heap.size w W4 := hB3.trans (hbr.mono hB3.size)
      clear hbr k0 hcr3 hB3
      go_wp2
      go_roundw
      case rel => exact ⟨k + 1, by omega, by omega, by go_num, hB4⟩
      case measure => simp [intOf]; omega
    · by_cases hkn : k < n
      · have h16 : ¬ (k : Int) < 16 := by omega
        go_wp2_with (go_at_call 11; refine (works_any _).mono ?_; rintro r w5 ⟨rfl, b5⟩)
        go_ret
        exact ⟨rfl, hbel.trans (b5.mono hbel.size)⟩
      · have hkn' : ¬ (k : Int) < (n : Int) := by omega
        go_wp2_with (go_at_call 11; refine (works_any _).mono ?_; rintro r w5 ⟨rfl, b5⟩)
        go_ret
        exact ⟨rfl, hbel.trans (b5.mono hbel.size)⟩
end Go.Proofs.Ytmfadgglhdbppaa
