/- dandelionlaw03.right. -/
import Derived.Test.YtmdpbohepdblcaaDoorH13
import Derived.Test.YtmdpbohepdblcaaDoorHW
namespace Go.Proofs.YtmdpbohepdblcaaDoor
open Go.RowKit

/-- N without the bits from a to j. -/
def CutB (N a j M : Nat) : Prop := M < 2 ^ 256 ∧ ∀ i, M.testBit i = (N.testBit i && (decide (i < a) || decide (j ≤ i)))
theorem cutB_start {N a : Nat} (hN : N < 2 ^ 256) : CutB N a a N := by
  refine ⟨hN, fun i => ?_⟩
  by_cases h : i < a
  · simp [h]
  · have : a ≤ i := by omega
    simp [this]
theorem cutB_step {N a j M : Nat} (h : CutB N a j M) (hj : a ≤ j) : CutB N a (j + 1) (wo M (2 ^ j)) := by
  refine ⟨wo_lt h.1, fun i => ?_⟩
  rw [testBit_wo, h.2 i, Nat.testBit_two_pow]
  by_cases e : j = i
  · subst e
    have h1 : ¬ j < a := by omega
    simp [h1]
  · by_cases h1 : i < a
    · simp [h1, e]
    · have h2 : (j ≤ i) ↔ (j + 1 ≤ i) := by omega
      simp [h1, e, h2]
theorem cutB_end {N a M : Nat} (hN : N < 2 ^ 256) (h : CutB N a 256 M) : M = N % 2 ^ a := by
  apply Nat.eq_of_testBit_eq
  intro i
  rw [h.2 i, Nat.testBit_mod_two_pow]
  by_cases h1 : i < a
  · simp [h1]
  · by_cases h2 : 256 ≤ i
    · have : N < 2 ^ i := Nat.lt_of_lt_of_le hN (Nat.pow_le_pow_right (by decide) h2)
      rw [Nat.testBit_lt_two_pow this]
      simp
    · simp [h1, h2]
theorem shl8 (c : Nat) (hc : c ≤ 5) : wrap64 (8 * 2 ^ min c 64) = 8 * ((2 ^ c : Nat) : Int) := by
  have hcs : c = 0 ∨ c = 1 ∨ c = 2 ∨ c = 3 ∨ c = 4 ∨ c = 5 := by omega
  rcases hcs with rfl | rfl | rfl | rfl | rfl | rfl <;> decide +kernel
theorem tmod_nat (x : Int) (m : Nat) (hm : 0 < m) : ∃ c : Nat, c < m ∧ (IntKind.u64.wrap x).tmod (m : Int) = (c : Int) := by
  have h0 : 0 ≤ IntKind.u64.wrap x := by rw [IntKind.wrap_u64]; omega
  rw [Int.tmod_eq_emod_of_nonneg h0]
  have h1 := Int.emod_nonneg (IntKind.u64.wrap x) (show (m : Int) ≠ 0 by omega)
  have h2 := Int.emod_lt_of_pos (IntKind.u64.wrap x) (show (0 : Int) < (m : Int) by omega)
  exact ⟨((IntKind.u64.wrap x) % (m : Int)).toNat, by omega, by omega⟩

set_option maxRecDepth 100000 in
set_option maxHeartbeats 2000000 in
theorem right_any (W S E H O G I : Int) (N c s h o g k : Nat) (hN : N < 2 ^ 256) (hW : (IntKind.u64.wrap W).tmod 6 = (c : Int)) (hc : c ≤ 5) (hk : 2 ^ c = k) (hS : (IntKind.u64.wrap S).tmod 128 = (s : Int)) (hs : s < 128)
    (hH : (IntKind.u64.wrap H).tmod 16 = (h : Int)) (hh : h < 16) (hO : (IntKind.u64.wrap O).tmod 24 = (o : Int)) (ho : o < 24) (hG : (IntKind.u64.wrap G).tmod 8 = (g : Int)) (hg : g < 8) (w : World) :
    Calls Tryd.prog 24 #[hd W S E H O G I N] w fun e w' => e = .returned (hd (8 * (k : Int)) s E h ((o + 1 : Nat) : Int) g I (N % 2 ^ (8 * k))) ∧ Below w.heap.size w w' := by
  have hsh := shl8 c hc
  have hkb := k_bd hc
  rw [hk] at hsh hkb
  obtain ⟨hk1, hk2⟩ := hkb
  clear hk hc
  have HN := hidIn hN
  clear hN
  go_enter Tryd.func24, Tryd.ntmps24
  go_wp2
  have HO := hidIn (show 1 + (o : Int) = ((o + 1 : Nat) : Int) from by omega)
  go_loopw [3] (fun i wr => ∃ j M : Nat, 8 * k ≤ j ∧ j ≤ 256 ∧ i = .int .i64 ((j : Int) + 1) ∧ CutB N (8 * k) j M ∧ HasHd wr w.heap.size (8 * (k : Int)) s E h (1 + (o : Int)) g I M ∧ HasHd wr (w.heap.size + 1) 0 0 0 0 0 0 0 0 ∧ Below w.heap.size w wr) (fun i _ => 257 - (intOf i).toNat)
  case atStart =>
    refine ⟨8 * k, N, Nat.le_refl _, by omega, by simp, cutB_start HN.out, ?_, ?_, ?_⟩
    · exact (hasHd_new w (8 * (k : Int)) s E h (1 + (o : Int)) g I N).keep (B := w.heap.size + 1) (by go_grown) (Nat.lt_succ_self _)
    · have h0 := hasHd_zero (w.alloc (hob (8 * (k : Int)) s E h (1 + (o : Int)) g I N))
      simp only [World.size_alloc] at h0
      exact h0
    · go_grown
  case round =>
    obtain ⟨j, M, hj1, hj2, rfl, hM, hH', hZ, hB⟩ := hrel
    clear hsh hW hS hH hO hG
    by_cases hlt : j < 256
    · have HW := hidIn (without_yes M j hlt)
      have HM := hidIn (cutB_step hM hj1)
      have HH := hidIn (And.intro hH' (And.intro hZ hB))
      have c7 := hH'.c7
      have c8 := hH'.c8
      have c9 := hH'.c9
      have ca := hH'.ca
      clear hM hH' hZ hB
      go_wp2_with fail
      refine (HW.out _).mono ?_
      rintro e w1 ⟨rfl, hb1⟩
      obtain ⟨hH', hZ, hB⟩ := HH.out
      have hH1 := hH'.keep hb1 hH'.lt
      have hZ1 := hZ.keep hb1 hZ.lt
      have hB1 : Below w.heap.size w w1 := hB.trans (hb1.mono hB.size)
      have H1 := hidIn (And.intro hH1 (And.intro hZ1 hB1))
      clear c7 c8 c9 ca HH hH' hZ hB hb1 HW
      generalize wo M (2 ^ j) = M' at *
      have c7 := hH1.c7
      have c8 := hH1.c8
      have c9 := hH1.c9
      have ca := hH1.ca
      have f7 := hH1.f7
      have f8 := hH1.f8
      have f9 := hH1.f9
      have fa := hH1.fa
      clear hH1 hZ1 hB1
      go_wp2
      go_roundw
      case rel =>
        obtain ⟨hH1, hZ1, hB1⟩ := H1.out
        have hz : w.heap.size ≠ w.heap.size + 1 := by omega
        exact ⟨j + 1, M', by omega, by omega, by go_num, HM.out, hH1.setN M', (((hZ1.other hz 7 _).other hz 8 _).other hz 9 _).other hz 10 _, (((hB1.setCell (p := ⟨w.heap.size, 7, none⟩) (Nat.le_refl _) _).setCell (p := ⟨w.heap.size, 8, none⟩) (Nat.le_refl _) _).setCell (p := ⟨w.heap.size, 9, none⟩) (Nat.le_refl _) _).setCell (p := ⟨w.heap.size, 10, none⟩) (Nat.le_refl _) _⟩
      case measure => simp [intOf]; omega
    · obtain rfl : j = 256 := by omega
      have hMe := cutB_end HN.out hM
      have HE := hidIn hMe
      clear hMe hM
      obtain ⟨c0, c1, c2, c3, c4, c5, c6, c7, c8, c9, ca, _, _, _, _, _, _, _, _, _, _, _, lt⟩ := hH'
      obtain ⟨d0, d1, d2, d3, d4, d5, d6, d7, d8, d9, da, g0, g1, g2, g3, g4, g5, g6, g7, g8, g9, ga, lt'⟩ := hZ
      go_wp2
      refine bodyPost_ret (v := hd (8 * (k : Int)) s E h (1 + (o : Int)) g I M) ?_ rfl ⟨?_, below_putHd hB (Nat.le_succ _) _ _ _ _ _ _ _ _ _ _ _⟩
      · simp [results, Tryd.results24, go_sem, *]
      · rw [HE.out, HO.out]
end Go.Proofs.YtmdpbohepdblcaaDoor
