/- The document's answer for layer 1: And, Or, AndNot. -/
import Derived.Test.YtghjjfgeminkgaaDoorR1
namespace Go.Proofs.YtghjjfgeminkgaaDoor
open Go.RowKit

theorem HasBs.alloc {W : World} {b N : Nat} (h : HasBs W b N) (o : Obj) : HasBs (W.alloc o) b N := h.keep (Below.alloc (Below.refl _ W) (Nat.le_refl _) o) h.lt
theorem rhas_is (N m : Nat) (h : m < 256) (b : Bool) (hb : N.testBit m = b) (w : World) :
    Calls Tryd.prog 10 #[bs N, .int .i64 ((m : Int) + 1)] w fun e w' => e = .returned (.bool b) ∧ Below w.heap.size w w' := by
  rw [← hb]; exact rhas_any N m h w
theorem mod_succ_yes {X j : Nat} (h : X.testBit j = true) : X % 2 ^ (j + 1) = X % 2 ^ j ||| 2 ^ j := by
  apply Nat.eq_of_testBit_eq
  intro i
  rw [Nat.testBit_or, Nat.testBit_mod_two_pow, Nat.testBit_mod_two_pow, Nat.testBit_two_pow]
  by_cases e : j = i
  · subst e; simp [h]
  · have : (i < j + 1) = (i < j) := by simp; omega
    simp [e, this]
theorem mod_succ_no {X j : Nat} (h : X.testBit j = false) : X % 2 ^ (j + 1) = X % 2 ^ j := by
  apply Nat.eq_of_testBit_eq
  intro i
  rw [Nat.testBit_mod_two_pow, Nat.testBit_mod_two_pow]
  by_cases e : j = i
  · subst e; simp [h]
  · have : (i < j + 1) = (i < j) := by simp; omega
    simp [this]

set_option maxRecDepth 100000 in
set_option maxHeartbeats 2000000 in
theorem rAnd_any (N M : Nat) (hN : N < 2 ^ 256) (w : World) :
    Calls Tryd.prog 29 #[bs N, bs M] w fun e w' => e = .returned (bs (N &&& M)) ∧ Below w.heap.size w w' := by
  have hX : (N &&& M) % 2 ^ 256 = N &&& M := Nat.mod_eq_of_lt (and_lt hN)
  have HX := hidIn hX
  have hbit : ∀ j, (N &&& M).testBit j = _ := fun j => Nat.testBit_and N M j
  have Hbit := hidIn hbit
  clear hX hbit
  unfold bs
  go_enter Tryd.func29, Tryd.ntmps29
  go_wp2
  go_loopw [6] (fun i wr => ∃ j : Nat, j ≤ 256 ∧ i = .int .i64 ((j : Int) + 1) ∧ HasBs wr (w.heap.size + 3) ((N &&& M) % 2 ^ j) ∧ HasBs wr w.heap.size N ∧ HasBs wr (w.heap.size + 1) M ∧ HasBs wr (w.heap.size + 2) 0 ∧ Below w.heap.size w wr) (fun i _ => 300 - (intOf i).toNat)
  case atStart =>
    have k0 := hasBs_new w N
    have k1 := hasBs_new (w.alloc (.cells #[.int .u64 (wd N 0), .int .u64 (wd N 1), .int .u64 (wd N 2), .int .u64 (wd N 3)] 24)) M
    have k2 := hasBs_new ((w.alloc (.cells #[.int .u64 (wd N 0), .int .u64 (wd N 1), .int .u64 (wd N 2), .int .u64 (wd N 3)] 24)).alloc (.cells #[.int .u64 (wd M 0), .int .u64 (wd M 1), .int .u64 (wd M 2), .int .u64 (wd M 3)] 24)) 0
    have k3 := hasBs_new (((w.alloc (.cells #[.int .u64 (wd N 0), .int .u64 (wd N 1), .int .u64 (wd N 2), .int .u64 (wd N 3)] 24)).alloc (.cells #[.int .u64 (wd M 0), .int .u64 (wd M 1), .int .u64 (wd M 2), .int .u64 (wd M 3)] 24)).alloc (.cells #[.int .u64 (wd 0 0), .int .u64 (wd 0 1), .int .u64 (wd 0 2), .int .u64 (wd 0 3)] 24)) 0
    simp only [World.size_alloc, Nat.add_assoc, Nat.reduceAdd] at k1 k2 k3
    refine ⟨0, by omega, rfl, ?_, ?_, ?_, ?_, ?_⟩
    · have e : (N &&& M) % 2 ^ 0 = 0 := by simp [Nat.mod_one]
      rw [e]
      exact k3
    · exact ((k0.alloc _).alloc _).alloc _
    · exact (k1.alloc _).alloc _
    · exact k2.alloc _
    · go_grown
  case round =>
    obtain ⟨j, hj, rfl, hO, hA, hB, hR, hbel⟩ := hrel
    by_cases hlt : j < 256
    · cases ha : N.testBit j <;> cases hb : M.testBit j
      · have HS : Hid ((N &&& M) % 2 ^ (j + 1) = (N &&& M) % 2 ^ j) := mod_succ_no (by rw [Hbit.out j, ha, hb]; rfl)
        have Ha := hidIn ha
        have Hb := hidIn hb
        clear ha hb
        generalize (N &&& M) % 2 ^ j = Y at hO HS
        have HO := hidIn hO
        have HA := hidIn hA
        have HB := hidIn hB
        have HR := hidIn hR
        have lt3 := hO.lt
        obtain ⟨a0, a1, a2, a3, _, _, _, _, _⟩ := hA
        clear hO hB hR
        go_wp2_with fail
        refine (rhas_is N j hlt false Ha.out _).mono ?_
        rintro e w1 ⟨rfl, hb1⟩
        have HB1 := hidIn (HB.out.keep hb1 HB.out.lt)
        obtain ⟨b0, b1, b2, b3, _, _, _, _, _⟩ := HB1.out
        have hG := hb1
        have HG := hidIn hG
        clear hG hb1
        go_wp2
        go_roundw
        case rel => exact ⟨j + 1, by omega, by go_num, by rw [HS.out]; exact HO.out.keep HG.out HO.out.lt, HA.out.keep HG.out HA.out.lt, HB.out.keep HG.out HB.out.lt, HR.out.keep HG.out HR.out.lt, hbel.trans (HG.out.mono hbel.size)⟩
        case measure => simp [intOf]; omega
      · have HS : Hid ((N &&& M) % 2 ^ (j + 1) = (N &&& M) % 2 ^ j) := mod_succ_no (by rw [Hbit.out j, ha, hb]; rfl)
        have Ha := hidIn ha
        have Hb := hidIn hb
        clear ha hb
        generalize (N &&& M) % 2 ^ j = Y at hO HS
        have HO := hidIn hO
        have HA := hidIn hA
        have HB := hidIn hB
        have HR := hidIn hR
        have lt3 := hO.lt
        obtain ⟨a0, a1, a2, a3, _, _, _, _, _⟩ := hA
        clear hO hB hR
        go_wp2_with fail
        refine (rhas_is N j hlt false Ha.out _).mono ?_
        rintro e w1 ⟨rfl, hb1⟩
        have HB1 := hidIn (HB.out.keep hb1 HB.out.lt)
        obtain ⟨b0, b1, b2, b3, _, _, _, _, _⟩ := HB1.out
        have hG := hb1
        have HG := hidIn hG
        clear hG hb1
        go_wp2
        go_roundw
        case rel => exact ⟨j + 1, by omega, by go_num, by rw [HS.out]; exact HO.out.keep HG.out HO.out.lt, HA.out.keep HG.out HA.out.lt, HB.out.keep HG.out HB.out.lt, HR.out.keep HG.out HR.out.lt, hbel.trans (HG.out.mono hbel.size)⟩
        case measure => simp [intOf]; omega
      · have HS : Hid ((N &&& M) % 2 ^ (j + 1) = (N &&& M) % 2 ^ j) := mod_succ_no (by rw [Hbit.out j, ha, hb]; rfl)
        have Ha := hidIn ha
        have Hb := hidIn hb
        clear ha hb
        generalize (N &&& M) % 2 ^ j = Y at hO HS
        have HO := hidIn hO
        have HA := hidIn hA
        have HB := hidIn hB
        have HR := hidIn hR
        have lt3 := hO.lt
        obtain ⟨a0, a1, a2, a3, _, _, _, _, _⟩ := hA
        clear hO hB hR
        go_wp2_with fail
        refine (rhas_is N j hlt true Ha.out _).mono ?_
        rintro e w1 ⟨rfl, hb1⟩
        have HB1 := hidIn (HB.out.keep hb1 HB.out.lt)
        obtain ⟨b0, b1, b2, b3, _, _, _, _, _⟩ := HB1.out
        go_wp2_with fail
        refine (rhas_is M j hlt false Hb.out _).mono ?_
        rintro e w2 ⟨rfl, hb2⟩
        have hG := Below.trans hb1 (hb2.mono hb1.size)
        have HG := hidIn hG
        clear hG hb1
        go_wp2
        go_roundw
        case rel => exact ⟨j + 1, by omega, by go_num, by rw [HS.out]; exact HO.out.keep HG.out HO.out.lt, HA.out.keep HG.out HA.out.lt, HB.out.keep HG.out HB.out.lt, HR.out.keep HG.out HR.out.lt, hbel.trans (HG.out.mono hbel.size)⟩
        case measure => simp [intOf]; omega
      · have HS : Hid ((N &&& M) % 2 ^ (j + 1) = (N &&& M) % 2 ^ j ||| 2 ^ j) := mod_succ_yes (by rw [Hbit.out j, ha, hb]; rfl)
        have Ha := hidIn ha
        have Hb := hidIn hb
        clear ha hb
        generalize (N &&& M) % 2 ^ j = Y at hO HS
        have HO := hidIn hO
        have HA := hidIn hA
        have HB := hidIn hB
        have HR := hidIn hR
        have lt3 := hO.lt
        obtain ⟨a0, a1, a2, a3, _, _, _, _, _⟩ := hA
        clear hO hB hR
        go_wp2_with fail
        refine (rhas_is N j hlt true Ha.out _).mono ?_
        rintro e w1 ⟨rfl, hb1⟩
        have HB1 := hidIn (HB.out.keep hb1 HB.out.lt)
        obtain ⟨b0, b1, b2, b3, _, _, _, _, _⟩ := HB1.out
        go_wp2_with fail
        refine (rhas_is M j hlt true Hb.out _).mono ?_
        rintro e w2 ⟨rfl, hb2⟩
        have hG := Below.trans hb1 (hb2.mono hb1.size)
        have HO2 := hidIn (HO.out.keep hG HO.out.lt)
        obtain ⟨o0, o1, o2, o3, p0, p1, p2, p3, _⟩ := HO2.out
        have HG := hidIn hG
        clear hG hb1
        go_wp2_with fail
        refine (put_any Y j hlt _).mono ?_
        rintro e w3 ⟨rfl, hb3⟩
        have hG3 := Below.trans HG.out (hb3.mono HG.out.size)
        have HO3 := hidIn (HO.out.keep hG3 HO.out.lt)
        obtain ⟨q0, q1, q2, q3, r0, r1, r2, r3, _⟩ := HO3.out
        have HG3 := hidIn hG3
        clear hG3 hb3
        go_wp2
        go_roundw
        case rel =>
          refine ⟨j + 1, by omega, by go_num, by rw [HS.out]; exact HO3.out.put _, ?_, ?_, ?_, ?_⟩
          · exact (HA.out.keep HG3.out HA.out.lt).keep (below_put (b := w.heap.size + 3) (Below.refl _ w3) (Nat.le_refl _)) (by omega)
          · exact (HB.out.keep HG3.out HB.out.lt).keep (below_put (b := w.heap.size + 3) (Below.refl _ w3) (Nat.le_refl _)) (by omega)
          · exact (HR.out.keep HG3.out HR.out.lt).keep (below_put (b := w.heap.size + 3) (Below.refl _ w3) (Nat.le_refl _)) (by omega)
          · exact below_put (hbel.trans (HG3.out.mono hbel.size)) (by omega)
        case measure => simp [intOf]; omega
    · obtain rfl : j = 256 := by omega
      rw [HX.out] at hO
      obtain ⟨c0, c1, c2, c3, _, _, _, _, _⟩ := hO
      have hR' := hR
      obtain ⟨d0, d1, d2, d3, g0, g1, g2, g3, lt'⟩ := hR
      clear hA hB
      go_wp2
      refine bodyPost_ret (v := bs (N &&& M)) (by simp [results, Tryd.results29, go_sem, d0, d1, d2, d3]) rfl ⟨rfl, ?_⟩
      exact below_put hbel (by omega)
set_option maxRecDepth 100000 in
set_option maxHeartbeats 2000000 in
theorem rOr_any (N M : Nat) (hN : N < 2 ^ 256) (hM : M < 2 ^ 256) (w : World) :
    Calls Tryd.prog 31 #[bs N, bs M] w fun e w' => e = .returned (bs (N ||| M)) ∧ Below w.heap.size w w' := by
  have hX : (N ||| M) % 2 ^ 256 = N ||| M := Nat.mod_eq_of_lt (or_lt hN hM)
  have HX := hidIn hX
  have hbit : ∀ j, (N ||| M).testBit j = _ := fun j => Nat.testBit_or N M j
  have Hbit := hidIn hbit
  clear hX hbit
  unfold bs
  go_enter Tryd.func31, Tryd.ntmps31
  go_wp2
  go_loopw [6] (fun i wr => ∃ j : Nat, j ≤ 256 ∧ i = .int .i64 ((j : Int) + 1) ∧ HasBs wr (w.heap.size + 3) ((N ||| M) % 2 ^ j) ∧ HasBs wr w.heap.size N ∧ HasBs wr (w.heap.size + 1) M ∧ HasBs wr (w.heap.size + 2) 0 ∧ Below w.heap.size w wr) (fun i _ => 300 - (intOf i).toNat)
  case atStart =>
    have k0 := hasBs_new w N
    have k1 := hasBs_new (w.alloc (.cells #[.int .u64 (wd N 0), .int .u64 (wd N 1), .int .u64 (wd N 2), .int .u64 (wd N 3)] 24)) M
    have k2 := hasBs_new ((w.alloc (.cells #[.int .u64 (wd N 0), .int .u64 (wd N 1), .int .u64 (wd N 2), .int .u64 (wd N 3)] 24)).alloc (.cells #[.int .u64 (wd M 0), .int .u64 (wd M 1), .int .u64 (wd M 2), .int .u64 (wd M 3)] 24)) 0
    have k3 := hasBs_new (((w.alloc (.cells #[.int .u64 (wd N 0), .int .u64 (wd N 1), .int .u64 (wd N 2), .int .u64 (wd N 3)] 24)).alloc (.cells #[.int .u64 (wd M 0), .int .u64 (wd M 1), .int .u64 (wd M 2), .int .u64 (wd M 3)] 24)).alloc (.cells #[.int .u64 (wd 0 0), .int .u64 (wd 0 1), .int .u64 (wd 0 2), .int .u64 (wd 0 3)] 24)) 0
    simp only [World.size_alloc, Nat.add_assoc, Nat.reduceAdd] at k1 k2 k3
    refine ⟨0, by omega, rfl, ?_, ?_, ?_, ?_, ?_⟩
    · have e : (N ||| M) % 2 ^ 0 = 0 := by simp [Nat.mod_one]
      rw [e]
      exact k3
    · exact ((k0.alloc _).alloc _).alloc _
    · exact (k1.alloc _).alloc _
    · exact k2.alloc _
    · go_grown
  case round =>
    obtain ⟨j, hj, rfl, hO, hA, hB, hR, hbel⟩ := hrel
    by_cases hlt : j < 256
    · cases ha : N.testBit j <;> cases hb : M.testBit j
      · have HS : Hid ((N ||| M) % 2 ^ (j + 1) = (N ||| M) % 2 ^ j) := mod_succ_no (by rw [Hbit.out j, ha, hb]; rfl)
        have Ha := hidIn ha
        have Hb := hidIn hb
        clear ha hb
        generalize (N ||| M) % 2 ^ j = Y at hO HS
        have HO := hidIn hO
        have HA := hidIn hA
        have HB := hidIn hB
        have HR := hidIn hR
        have lt3 := hO.lt
        obtain ⟨a0, a1, a2, a3, _, _, _, _, _⟩ := hA
        clear hO hB hR
        go_wp2_with fail
        refine (rhas_is N j hlt false Ha.out _).mono ?_
        rintro e w1 ⟨rfl, hb1⟩
        have HB1 := hidIn (HB.out.keep hb1 HB.out.lt)
        obtain ⟨b0, b1, b2, b3, _, _, _, _, _⟩ := HB1.out
        go_wp2_with fail
        refine (rhas_is M j hlt false Hb.out _).mono ?_
        rintro e w2 ⟨rfl, hb2⟩
        have hG := Below.trans hb1 (hb2.mono hb1.size)
        have HG := hidIn hG
        clear hG hb1
        go_wp2
        go_roundw
        case rel => exact ⟨j + 1, by omega, by go_num, by rw [HS.out]; exact HO.out.keep HG.out HO.out.lt, HA.out.keep HG.out HA.out.lt, HB.out.keep HG.out HB.out.lt, HR.out.keep HG.out HR.out.lt, hbel.trans (HG.out.mono hbel.size)⟩
        case measure => simp [intOf]; omega
      · have HS : Hid ((N ||| M) % 2 ^ (j + 1) = (N ||| M) % 2 ^ j ||| 2 ^ j) := mod_succ_yes (by rw [Hbit.out j, ha, hb]; rfl)
        have Ha := hidIn ha
        have Hb := hidIn hb
        clear ha hb
        generalize (N ||| M) % 2 ^ j = Y at hO HS
        have HO := hidIn hO
        have HA := hidIn hA
        have HB := hidIn hB
        have HR := hidIn hR
        have lt3 := hO.lt
        obtain ⟨a0, a1, a2, a3, _, _, _, _, _⟩ := hA
        clear hO hB hR
        go_wp2_with fail
        refine (rhas_is N j hlt false Ha.out _).mono ?_
        rintro e w1 ⟨rfl, hb1⟩
        have HB1 := hidIn (HB.out.keep hb1 HB.out.lt)
        obtain ⟨b0, b1, b2, b3, _, _, _, _, _⟩ := HB1.out
        go_wp2_with fail
        refine (rhas_is M j hlt true Hb.out _).mono ?_
        rintro e w2 ⟨rfl, hb2⟩
        have hG := Below.trans hb1 (hb2.mono hb1.size)
        have HO2 := hidIn (HO.out.keep hG HO.out.lt)
        obtain ⟨o0, o1, o2, o3, p0, p1, p2, p3, _⟩ := HO2.out
        have HG := hidIn hG
        clear hG hb1
        go_wp2_with fail
        refine (put_any Y j hlt _).mono ?_
        rintro e w3 ⟨rfl, hb3⟩
        have hG3 := Below.trans HG.out (hb3.mono HG.out.size)
        have HO3 := hidIn (HO.out.keep hG3 HO.out.lt)
        obtain ⟨q0, q1, q2, q3, r0, r1, r2, r3, _⟩ := HO3.out
        have HG3 := hidIn hG3
        clear hG3 hb3
        go_wp2
        go_roundw
        case rel =>
          refine ⟨j + 1, by omega, by go_num, by rw [HS.out]; exact HO3.out.put _, ?_, ?_, ?_, ?_⟩
          · exact (HA.out.keep HG3.out HA.out.lt).keep (below_put (b := w.heap.size + 3) (Below.refl _ w3) (Nat.le_refl _)) (by omega)
          · exact (HB.out.keep HG3.out HB.out.lt).keep (below_put (b := w.heap.size + 3) (Below.refl _ w3) (Nat.le_refl _)) (by omega)
          · exact (HR.out.keep HG3.out HR.out.lt).keep (below_put (b := w.heap.size + 3) (Below.refl _ w3) (Nat.le_refl _)) (by omega)
          · exact below_put (hbel.trans (HG3.out.mono hbel.size)) (by omega)
        case measure => simp [intOf]; omega
      · have HS : Hid ((N ||| M) % 2 ^ (j + 1) = (N ||| M) % 2 ^ j ||| 2 ^ j) := mod_succ_yes (by rw [Hbit.out j, ha, hb]; rfl)
        have Ha := hidIn ha
        have Hb := hidIn hb
        clear ha hb
        generalize (N ||| M) % 2 ^ j = Y at hO HS
        have HO := hidIn hO
        have HA := hidIn hA
        have HB := hidIn hB
        have HR := hidIn hR
        have lt3 := hO.lt
        obtain ⟨a0, a1, a2, a3, _, _, _, _, _⟩ := hA
        clear hO hB hR
        go_wp2_with fail
        refine (rhas_is N j hlt true Ha.out _).mono ?_
        rintro e w1 ⟨rfl, hb1⟩
        have HB1 := hidIn (HB.out.keep hb1 HB.out.lt)
        obtain ⟨b0, b1, b2, b3, _, _, _, _, _⟩ := HB1.out
        have hG := hb1
        have HO2 := hidIn (HO.out.keep hG HO.out.lt)
        obtain ⟨o0, o1, o2, o3, p0, p1, p2, p3, _⟩ := HO2.out
        have HG := hidIn hG
        clear hG hb1
        go_wp2_with fail
        refine (put_any Y j hlt _).mono ?_
        rintro e w3 ⟨rfl, hb3⟩
        have hG3 := Below.trans HG.out (hb3.mono HG.out.size)
        have HO3 := hidIn (HO.out.keep hG3 HO.out.lt)
        obtain ⟨q0, q1, q2, q3, r0, r1, r2, r3, _⟩ := HO3.out
        have HG3 := hidIn hG3
        clear hG3 hb3
        go_wp2
        go_roundw
        case rel =>
          refine ⟨j + 1, by omega, by go_num, by rw [HS.out]; exact HO3.out.put _, ?_, ?_, ?_, ?_⟩
          · exact (HA.out.keep HG3.out HA.out.lt).keep (below_put (b := w.heap.size + 3) (Below.refl _ w3) (Nat.le_refl _)) (by omega)
          · exact (HB.out.keep HG3.out HB.out.lt).keep (below_put (b := w.heap.size + 3) (Below.refl _ w3) (Nat.le_refl _)) (by omega)
          · exact (HR.out.keep HG3.out HR.out.lt).keep (below_put (b := w.heap.size + 3) (Below.refl _ w3) (Nat.le_refl _)) (by omega)
          · exact below_put (hbel.trans (HG3.out.mono hbel.size)) (by omega)
        case measure => simp [intOf]; omega
      · have HS : Hid ((N ||| M) % 2 ^ (j + 1) = (N ||| M) % 2 ^ j ||| 2 ^ j) := mod_succ_yes (by rw [Hbit.out j, ha, hb]; rfl)
        have Ha := hidIn ha
        have Hb := hidIn hb
        clear ha hb
        generalize (N ||| M) % 2 ^ j = Y at hO HS
        have HO := hidIn hO
        have HA := hidIn hA
        have HB := hidIn hB
        have HR := hidIn hR
        have lt3 := hO.lt
        obtain ⟨a0, a1, a2, a3, _, _, _, _, _⟩ := hA
        clear hO hB hR
        go_wp2_with fail
        refine (rhas_is N j hlt true Ha.out _).mono ?_
        rintro e w1 ⟨rfl, hb1⟩
        have HB1 := hidIn (HB.out.keep hb1 HB.out.lt)
        obtain ⟨b0, b1, b2, b3, _, _, _, _, _⟩ := HB1.out
        have hG := hb1
        have HO2 := hidIn (HO.out.keep hG HO.out.lt)
        obtain ⟨o0, o1, o2, o3, p0, p1, p2, p3, _⟩ := HO2.out
        have HG := hidIn hG
        clear hG hb1
        go_wp2_with fail
        refine (put_any Y j hlt _).mono ?_
        rintro e w3 ⟨rfl, hb3⟩
        have hG3 := Below.trans HG.out (hb3.mono HG.out.size)
        have HO3 := hidIn (HO.out.keep hG3 HO.out.lt)
        obtain ⟨q0, q1, q2, q3, r0, r1, r2, r3, _⟩ := HO3.out
        have HG3 := hidIn hG3
        clear hG3 hb3
        go_wp2
        go_roundw
        case rel =>
          refine ⟨j + 1, by omega, by go_num, by rw [HS.out]; exact HO3.out.put _, ?_, ?_, ?_, ?_⟩
          · exact (HA.out.keep HG3.out HA.out.lt).keep (below_put (b := w.heap.size + 3) (Below.refl _ w3) (Nat.le_refl _)) (by omega)
          · exact (HB.out.keep HG3.out HB.out.lt).keep (below_put (b := w.heap.size + 3) (Below.refl _ w3) (Nat.le_refl _)) (by omega)
          · exact (HR.out.keep HG3.out HR.out.lt).keep (below_put (b := w.heap.size + 3) (Below.refl _ w3) (Nat.le_refl _)) (by omega)
          · exact below_put (hbel.trans (HG3.out.mono hbel.size)) (by omega)
        case measure => simp [intOf]; omega
    · obtain rfl : j = 256 := by omega
      rw [HX.out] at hO
      obtain ⟨c0, c1, c2, c3, _, _, _, _, _⟩ := hO
      have hR' := hR
      obtain ⟨d0, d1, d2, d3, g0, g1, g2, g3, lt'⟩ := hR
      clear hA hB
      go_wp2
      refine bodyPost_ret (v := bs (N ||| M)) (by simp [results, Tryd.results31, go_sem, d0, d1, d2, d3]) rfl ⟨rfl, ?_⟩
      exact below_put hbel (by omega)
set_option maxRecDepth 100000 in
set_option maxHeartbeats 2000000 in
theorem rAndNot_any (N M : Nat) (hN : N < 2 ^ 256) (w : World) :
    Calls Tryd.prog 33 #[bs N, bs M] w fun e w' => e = .returned (bs (wo N M)) ∧ Below w.heap.size w w' := by
  have hX : (wo N M) % 2 ^ 256 = wo N M := Nat.mod_eq_of_lt (wo_lt hN)
  have HX := hidIn hX
  have hbit : ∀ j, (wo N M).testBit j = _ := fun j => testBit_wo N M j
  have Hbit := hidIn hbit
  clear hX hbit
  unfold bs
  go_enter Tryd.func33, Tryd.ntmps33
  go_wp2
  go_loopw [6] (fun i wr => ∃ j : Nat, j ≤ 256 ∧ i = .int .i64 ((j : Int) + 1) ∧ HasBs wr (w.heap.size + 3) ((wo N M) % 2 ^ j) ∧ HasBs wr w.heap.size N ∧ HasBs wr (w.heap.size + 1) M ∧ HasBs wr (w.heap.size + 2) 0 ∧ Below w.heap.size w wr) (fun i _ => 300 - (intOf i).toNat)
  case atStart =>
    have k0 := hasBs_new w N
    have k1 := hasBs_new (w.alloc (.cells #[.int .u64 (wd N 0), .int .u64 (wd N 1), .int .u64 (wd N 2), .int .u64 (wd N 3)] 24)) M
    have k2 := hasBs_new ((w.alloc (.cells #[.int .u64 (wd N 0), .int .u64 (wd N 1), .int .u64 (wd N 2), .int .u64 (wd N 3)] 24)).alloc (.cells #[.int .u64 (wd M 0), .int .u64 (wd M 1), .int .u64 (wd M 2), .int .u64 (wd M 3)] 24)) 0
    have k3 := hasBs_new (((w.alloc (.cells #[.int .u64 (wd N 0), .int .u64 (wd N 1), .int .u64 (wd N 2), .int .u64 (wd N 3)] 24)).alloc (.cells #[.int .u64 (wd M 0), .int .u64 (wd M 1), .int .u64 (wd M 2), .int .u64 (wd M 3)] 24)).alloc (.cells #[.int .u64 (wd 0 0), .int .u64 (wd 0 1), .int .u64 (wd 0 2), .int .u64 (wd 0 3)] 24)) 0
    simp only [World.size_alloc, Nat.add_assoc, Nat.reduceAdd] at k1 k2 k3
    refine ⟨0, by omega, rfl, ?_, ?_, ?_, ?_, ?_⟩
    · have e : (wo N M) % 2 ^ 0 = 0 := by simp [Nat.mod_one]
      rw [e]
      exact k3
    · exact ((k0.alloc _).alloc _).alloc _
    · exact (k1.alloc _).alloc _
    · exact k2.alloc _
    · go_grown
  case round =>
    obtain ⟨j, hj, rfl, hO, hA, hB, hR, hbel⟩ := hrel
    by_cases hlt : j < 256
    · cases ha : N.testBit j <;> cases hb : M.testBit j
      · have HS : Hid ((wo N M) % 2 ^ (j + 1) = (wo N M) % 2 ^ j) := mod_succ_no (by rw [Hbit.out j, ha, hb]; rfl)
        have Ha := hidIn ha
        have Hb := hidIn hb
        clear ha hb
        generalize (wo N M) % 2 ^ j = Y at hO HS
        have HO := hidIn hO
        have HA := hidIn hA
        have HB := hidIn hB
        have HR := hidIn hR
        have lt3 := hO.lt
        obtain ⟨a0, a1, a2, a3, _, _, _, _, _⟩ := hA
        clear hO hB hR
        go_wp2_with fail
        refine (rhas_is N j hlt false Ha.out _).mono ?_
        rintro e w1 ⟨rfl, hb1⟩
        have HB1 := hidIn (HB.out.keep hb1 HB.out.lt)
        obtain ⟨b0, b1, b2, b3, _, _, _, _, _⟩ := HB1.out
        have hG := hb1
        have HG := hidIn hG
        clear hG hb1
        go_wp2
        go_roundw
        case rel => exact ⟨j + 1, by omega, by go_num, by rw [HS.out]; exact HO.out.keep HG.out HO.out.lt, HA.out.keep HG.out HA.out.lt, HB.out.keep HG.out HB.out.lt, HR.out.keep HG.out HR.out.lt, hbel.trans (HG.out.mono hbel.size)⟩
        case measure => simp [intOf]; omega
      · have HS : Hid ((wo N M) % 2 ^ (j + 1) = (wo N M) % 2 ^ j) := mod_succ_no (by rw [Hbit.out j, ha, hb]; rfl)
        have Ha := hidIn ha
        have Hb := hidIn hb
        clear ha hb
        generalize (wo N M) % 2 ^ j = Y at hO HS
        have HO := hidIn hO
        have HA := hidIn hA
        have HB := hidIn hB
        have HR := hidIn hR
        have lt3 := hO.lt
        obtain ⟨a0, a1, a2, a3, _, _, _, _, _⟩ := hA
        clear hO hB hR
        go_wp2_with fail
        refine (rhas_is N j hlt false Ha.out _).mono ?_
        rintro e w1 ⟨rfl, hb1⟩
        have HB1 := hidIn (HB.out.keep hb1 HB.out.lt)
        obtain ⟨b0, b1, b2, b3, _, _, _, _, _⟩ := HB1.out
        have hG := hb1
        have HG := hidIn hG
        clear hG hb1
        go_wp2
        go_roundw
        case rel => exact ⟨j + 1, by omega, by go_num, by rw [HS.out]; exact HO.out.keep HG.out HO.out.lt, HA.out.keep HG.out HA.out.lt, HB.out.keep HG.out HB.out.lt, HR.out.keep HG.out HR.out.lt, hbel.trans (HG.out.mono hbel.size)⟩
        case measure => simp [intOf]; omega
      · have HS : Hid ((wo N M) % 2 ^ (j + 1) = (wo N M) % 2 ^ j ||| 2 ^ j) := mod_succ_yes (by rw [Hbit.out j, ha, hb]; rfl)
        have Ha := hidIn ha
        have Hb := hidIn hb
        clear ha hb
        generalize (wo N M) % 2 ^ j = Y at hO HS
        have HO := hidIn hO
        have HA := hidIn hA
        have HB := hidIn hB
        have HR := hidIn hR
        have lt3 := hO.lt
        obtain ⟨a0, a1, a2, a3, _, _, _, _, _⟩ := hA
        clear hO hB hR
        go_wp2_with fail
        refine (rhas_is N j hlt true Ha.out _).mono ?_
        rintro e w1 ⟨rfl, hb1⟩
        have HB1 := hidIn (HB.out.keep hb1 HB.out.lt)
        obtain ⟨b0, b1, b2, b3, _, _, _, _, _⟩ := HB1.out
        go_wp2_with fail
        refine (rhas_is M j hlt false Hb.out _).mono ?_
        rintro e w2 ⟨rfl, hb2⟩
        have hG := Below.trans hb1 (hb2.mono hb1.size)
        have HO2 := hidIn (HO.out.keep hG HO.out.lt)
        obtain ⟨o0, o1, o2, o3, p0, p1, p2, p3, _⟩ := HO2.out
        have HG := hidIn hG
        clear hG hb1
        go_wp2_with fail
        refine (put_any Y j hlt _).mono ?_
        rintro e w3 ⟨rfl, hb3⟩
        have hG3 := Below.trans HG.out (hb3.mono HG.out.size)
        have HO3 := hidIn (HO.out.keep hG3 HO.out.lt)
        obtain ⟨q0, q1, q2, q3, r0, r1, r2, r3, _⟩ := HO3.out
        have HG3 := hidIn hG3
        clear hG3 hb3
        go_wp2
        go_roundw
        case rel =>
          refine ⟨j + 1, by omega, by go_num, by rw [HS.out]; exact HO3.out.put _, ?_, ?_, ?_, ?_⟩
          · exact (HA.out.keep HG3.out HA.out.lt).keep (below_put (b := w.heap.size + 3) (Below.refl _ w3) (Nat.le_refl _)) (by omega)
          · exact (HB.out.keep HG3.out HB.out.lt).keep (below_put (b := w.heap.size + 3) (Below.refl _ w3) (Nat.le_refl _)) (by omega)
          · exact (HR.out.keep HG3.out HR.out.lt).keep (below_put (b := w.heap.size + 3) (Below.refl _ w3) (Nat.le_refl _)) (by omega)
          · exact below_put (hbel.trans (HG3.out.mono hbel.size)) (by omega)
        case measure => simp [intOf]; omega
      · have HS : Hid ((wo N M) % 2 ^ (j + 1) = (wo N M) % 2 ^ j) := mod_succ_no (by rw [Hbit.out j, ha, hb]; rfl)
        have Ha := hidIn ha
        have Hb := hidIn hb
        clear ha hb
        generalize (wo N M) % 2 ^ j = Y at hO HS
        have HO := hidIn hO
        have HA := hidIn hA
        have HB := hidIn hB
        have HR := hidIn hR
        have lt3 := hO.lt
        obtain ⟨a0, a1, a2, a3, _, _, _, _, _⟩ := hA
        clear hO hB hR
        go_wp2_with fail
        refine (rhas_is N j hlt true Ha.out _).mono ?_
        rintro e w1 ⟨rfl, hb1⟩
        have HB1 := hidIn (HB.out.keep hb1 HB.out.lt)
        obtain ⟨b0, b1, b2, b3, _, _, _, _, _⟩ := HB1.out
        go_wp2_with fail
        refine (rhas_is M j hlt true Hb.out _).mono ?_
        rintro e w2 ⟨rfl, hb2⟩
        have hG := Below.trans hb1 (hb2.mono hb1.size)
        have HG := hidIn hG
        clear hG hb1
        go_wp2
        go_roundw
        case rel => exact ⟨j + 1, by omega, by go_num, by rw [HS.out]; exact HO.out.keep HG.out HO.out.lt, HA.out.keep HG.out HA.out.lt, HB.out.keep HG.out HB.out.lt, HR.out.keep HG.out HR.out.lt, hbel.trans (HG.out.mono hbel.size)⟩
        case measure => simp [intOf]; omega
    · obtain rfl : j = 256 := by omega
      rw [HX.out] at hO
      obtain ⟨c0, c1, c2, c3, _, _, _, _, _⟩ := hO
      have hR' := hR
      obtain ⟨d0, d1, d2, d3, g0, g1, g2, g3, lt'⟩ := hR
      clear hA hB
      go_wp2
      refine bodyPost_ret (v := bs (wo N M)) (by simp [results, Tryd.results33, go_sem, d0, d1, d2, d3]) rfl ⟨rfl, ?_⟩
      exact below_put hbel (by omega)
end Go.Proofs.YtghjjfgeminkgaaDoor
