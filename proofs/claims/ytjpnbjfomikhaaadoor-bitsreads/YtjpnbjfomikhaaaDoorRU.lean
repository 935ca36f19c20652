/- The document's answer: Without. -/
import Derived.Test.YtjpnbjfomikhaaaDoorRT
namespace Go.Proofs.YtjpnbjfomikhaaaDoor
open Go.RowKit Go.Shelf

theorem rwithout_no (N : Nat) (n : Int) (h : n < 1 ∨ 256 < n) (w : World) :
    Calls Tryd.prog 18 #[bs N, .int .i64 n] w fun e w' => e = .returned (.tuple #[bs 0, .int .i64 2]) ∧ Below w.heap.size w w' := by
  unfold bs
  go_enter Tryd.func18, Tryd.ntmps18
  go_wp2_with fail
  refine (right_no n h _).mono ?_
  rintro e w1 ⟨rfl, rfl⟩
  go_wp2
  refine bodyPost_ret (v := .tuple #[bs 0, .int .i64 2]) (by simp [results, Tryd.results18, go_sem, bs, wd_zero]) rfl ⟨rfl, ?_⟩
  go_grown
set_option maxRecDepth 100000 in
set_option maxHeartbeats 2000000 in
theorem rwithout_yes (N m : Nat) (hN : N < 2 ^ 256) (hm : m < 256) (w : World) :
    Calls Tryd.prog 18 #[bs N, .int .i64 ((m : Int) + 1)] w fun e w' => e = .returned (.tuple #[bs (wo N (2 ^ m)), .int .i64 0]) ∧ Below w.heap.size w w' := by
  have HX := hidIn (show (wo N (2 ^ m)) % 2 ^ 256 = wo N (2 ^ m) from Nat.mod_eq_of_lt (wo_lt hN))
  have Hbit := hidIn (show ∀ j, (wo N (2 ^ m)).testBit j = (N.testBit j && !decide (m = j)) from fun j => by rw [testBit_wo, Nat.testBit_two_pow])
  unfold bs
  go_enter Tryd.func18, Tryd.ntmps18
  go_wp2_with (go_at_call 29; refine (right_yes ((m : Int) + 1) (by omega) (by omega) _).mono ?_; rintro e w1 ⟨rfl, rfl⟩)
  go_loopw [7] (fun i wr => ∃ j : Nat, j ≤ 256 ∧ i = .int .i64 ((j : Int) + 1) ∧ HasBs wr (w.heap.size + 2) ((wo N (2 ^ m)) % 2 ^ j) ∧ HasBs wr w.heap.size N ∧ HasBs wr (w.heap.size + 1) 0 ∧ Below w.heap.size w wr) (fun i _ => 300 - (intOf i).toNat)
  case atStart =>
    have k0 := hasBs_new w N
    have k1 := hasBs_new (w.alloc (.cells #[.int .u64 (wd N 0), .int .u64 (wd N 1), .int .u64 (wd N 2), .int .u64 (wd N 3)] 24)) 0
    have k2 := hasBs_new ((w.alloc (.cells #[.int .u64 (wd N 0), .int .u64 (wd N 1), .int .u64 (wd N 2), .int .u64 (wd N 3)] 24)).alloc (.cells #[.int .u64 (wd 0 0), .int .u64 (wd 0 1), .int .u64 (wd 0 2), .int .u64 (wd 0 3)] 24)) 0
    simp only [World.size_alloc, Nat.add_assoc, Nat.reduceAdd] at k1 k2
    refine ⟨0, by omega, rfl, ?_, ?_, ?_, ?_⟩
    · have e : (wo N (2 ^ m)) % 2 ^ 0 = 0 := by simp [Nat.mod_one]
      rw [e]
      exact k2
    · exact (k0.alloc _).alloc _
    · exact k1.alloc _
    · go_grown
  case round =>
    obtain ⟨j, hj, rfl, hO, hA, hR, hbel⟩ := hrel
    by_cases hlt : j < 256
    · by_cases hjm : j = m
      · have HS : Hid ((wo N (2 ^ m)) % 2 ^ (j + 1) = (wo N (2 ^ m)) % 2 ^ j) := mod_succ_no (by rw [Hbit.out j]; simp [hjm])
        subst hjm
        generalize (wo N (2 ^ j)) % 2 ^ j = Y at hO HS
        have HO := hidIn hO
        have HA := hidIn hA
        have HR := hidIn hR
        clear hO hR hA
        go_wp2
        go_roundw
        case rel => exact ⟨j + 1, by omega, by go_num, by rw [HS.out]; exact HO.out, HA.out, HR.out, hbel⟩
        case measure => simp [intOf]; omega
      · have hd : (((j : Int) + 1) == ((m : Int) + 1)) = false := by simp; omega
        cases ha : N.testBit j
        · have HS : Hid ((wo N (2 ^ m)) % 2 ^ (j + 1) = (wo N (2 ^ m)) % 2 ^ j) := mod_succ_no (by rw [Hbit.out j, ha]; rfl)
          have Ha := hidIn ha
          clear ha
          generalize (wo N (2 ^ m)) % 2 ^ j = Y at hO HS
          have HO := hidIn hO
          have HA := hidIn hA
          have HR := hidIn hR
          obtain ⟨a0, a1, a2, a3, _, _, _, _, _⟩ := hA
          clear hO hR
          go_wp2_with fail
          refine (rhas_is N j hlt false Ha.out _).mono ?_
          rintro e w1 ⟨rfl, hb1⟩
          have HG := hidIn hb1
          clear hb1
          go_wp2
          go_roundw
          case rel => exact ⟨j + 1, by omega, by go_num, by rw [HS.out]; exact HO.out.keep HG.out HO.out.lt, HA.out.keep HG.out HA.out.lt, HR.out.keep HG.out HR.out.lt, hbel.trans (HG.out.mono hbel.size)⟩
          case measure => simp [intOf]; omega
        · have HS : Hid ((wo N (2 ^ m)) % 2 ^ (j + 1) = (wo N (2 ^ m)) % 2 ^ j ||| 2 ^ j) := mod_succ_yes (by rw [Hbit.out j, ha]; simp; omega)
          have Ha := hidIn ha
          clear ha
          generalize (wo N (2 ^ m)) % 2 ^ j = Y at hO HS
          have HO := hidIn hO
          have HA := hidIn hA
          have HR := hidIn hR
          obtain ⟨a0, a1, a2, a3, _, _, _, _, _⟩ := hA
          clear hO hR
          go_wp2_with fail
          refine (rhas_is N j hlt true Ha.out _).mono ?_
          rintro e w1 ⟨rfl, hb1⟩
          have HO2 := hidIn (HO.out.keep hb1 HO.out.lt)
          obtain ⟨o0, o1, o2, o3, p0, p1, p2, p3, _⟩ := HO2.out
          have HG := hidIn hb1
          clear hb1
          go_wp2_with fail
          refine (put_any Y j hlt _).mono ?_
          rintro e w3 ⟨rfl, hb3⟩
          have hG3 := Below.trans HG.out (hb3.mono HG.out.size)
          have HO3 := hidIn (HO.out.keep hG3 HO.out.lt)
          obtain ⟨q0, q1, q2, q3, r0, r1, r2, r3, _⟩ := HO3.out
          have HG3 := hidIn hG3
          clear hG3 hb3
          go_wp2
          go_roundw
          case rel =>
            refine ⟨j + 1, by omega, by go_num, by rw [HS.out]; exact HO3.out.put _, ?_, ?_, ?_⟩
            · exact (HA.out.keep HG3.out HA.out.lt).keep (below_put (b := w.heap.size + 2) (Below.refl _ w3) (Nat.le_refl _)) (by omega)
            · exact (HR.out.keep HG3.out HR.out.lt).keep (below_put (b := w.heap.size + 2) (Below.refl _ w3) (Nat.le_refl _)) (by omega)
            · exact below_put (hbel.trans (HG3.out.mono hbel.size)) (by omega)
          case measure => simp [intOf]; omega
    · obtain rfl : j = 256 := by omega
      rw [HX.out] at hO
      obtain ⟨c0, c1, c2, c3, _, _, _, _, _⟩ := hO
      obtain ⟨d0, d1, d2, d3, g0, g1, g2, g3, lt'⟩ := hR
      clear hA
      go_wp2
      refine bodyPost_ret (v := .tuple #[bs (wo N (2 ^ m)), .int .i64 0]) (by simp [results, Tryd.results18, go_sem, d0, d1, d2, d3]) rfl ⟨rfl, ?_⟩
      exact below_put hbel (by omega)
end Go.Proofs.YtjpnbjfomikhaaaDoor
