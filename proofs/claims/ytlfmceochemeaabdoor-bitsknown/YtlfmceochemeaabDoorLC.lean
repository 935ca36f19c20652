/- The law BitsBack, walked to its end. -/
import Derived.Test.YtlfmceochemeaabDoorLB
namespace Go.Proofs.YtlfmceochemeaabDoor
open Go.RowKit Go.Shelf

theorem bits_same (X : Nat) (w : World) : (Op.equalIn 10000 24 (.agg #[.int .u64 (wd X 0), .int .u64 (wd X 1), .int .u64 (wd X 2), .int .u64 (wd X 3)]) (.agg #[.int .u64 (wd X 0), .int .u64 (wd X 1), .int .u64 (wd X 2), .int .u64 (wd X 3)])).run Tryd.prog w = Result.ok true w := by
  rw [eq_bits]; simp
theorem bytes_256 (N : Nat) (hN : N < 2 ^ 256) (w : World) :
    Calls Tryd.prog 13 #[bs N, .int .i64 256] w fun e w' => e = .returned (.tuple #[.string (bytesN N 32), .int .i64 0]) ∧ Below w.heap.size w w' :=
  bytes_ok N 32 hN (by decide) (by decide) (bl_256 hN) w
theorem read_256 (N : Nat) (hN : N < 2 ^ 256) (w : World) :
    Calls Tryd.prog 14 #[.string (bytesN N 32)] w fun e w' => e = .returned (.tuple #[bs N, .int .i64 0]) ∧ Below w.heap.size w w' := by
  have hs := bytesN_size N 32
  have := read_ok (bytesN N 32) (by omega) (by omega) w
  rw [hs, num_back hN] at this
  exact this
/-- What the walk holds between the calls: the argument's copy and those that came back. -/
structure Kept (w V : World) (N : Nat) (l : List Nat) : Prop where
  below : Below w.heap.size w V
  has : ∀ b ∈ l, HasBs V b N
theorem Kept.go {w V V' : World} {N : Nat} {l : List Nat} (h : Kept w V N l) (hb : Below V.heap.size V V') : Kept w V' N l :=
  ⟨h.below.trans (hb.mono h.below.size), fun b hb' => (h.has b hb').keep hb (h.has b hb').lt⟩
theorem Kept.new {w V : World} {N : Nat} {l : List Nat} (h : Kept w V N l) : Kept w (V.alloc (.cells #[.int .u64 (wd N 0), .int .u64 (wd N 1), .int .u64 (wd N 2), .int .u64 (wd N 3)] 24)) N (V.heap.size :: l) :=
  ⟨h.below.alloc h.below.size _, fun b hb => by
    rcases List.mem_cons.1 hb with rfl | hb
    · exact hasBs_new V N
    · exact (h.has b hb).grow _⟩
set_option maxRecDepth 100000 in
set_option maxHeartbeats 2000000 in
theorem back_walk (N : Nat) (hN : N < 2 ^ 256) (M : Int) (w : World) (ht : Tabs w) (hm : w.cell? ⟨1, 0, none⟩ = some (.int .i64 M)) :
    Calls Tryd.prog 4 #[bs N] w fun e w' => e = .returned (.bool true) ∧ Below w.heap.size w w' := by
  have hg : 1 < w.heap.size := block_lt_of_cell hm
  obtain ⟨S, hT, hP⟩ := parse_text N hN M w ht hm
  have HT := hidIn hT
  have HP := hidIn hP
  have HN := hidIn hN
  clear hN hT hP hm
  unfold bs
  go_enter Tryd.func4, Tryd.ntmps4
  go_wp2_with fail
  refine (list_cells N HN.out _ (ht.keep ((Below.refl _ w).alloc (Nat.le_refl _) _))).mono ?_
  rintro e w1 ⟨a, cap, rfl, hat, hb1⟩
  have hN1 := (hasBs_new w N).keep hb1 (by simp)
  have b1 : Below w.heap.size w w1 := ((Below.refl _ w).alloc (Nat.le_refl _) _).trans (hb1.mono (by simp))
  have HA := hidIn hat
  clear hb1 hat
  go_wp2_with fail
  refine (of_list N HN.out a cap w1 HA.out).mono ?_
  rintro e w2 ⟨rfl, hb2⟩
  have hN2 := hN1.keep hb2 hN1.lt
  have b2 : Below w.heap.size w w2 := b1.trans (hb2.mono b1.size)
  have hlt2 := hN2.lt
  clear hb2 hN1 b1
  have K2 : Kept w w2 N [w.heap.size] := ⟨b2, fun b hb => by rw [List.mem_singleton.1 hb]; exact hN2⟩
  obtain ⟨c0, c1, c2, c3, f0, f1, f2, f3, _⟩ := hN2
  generalize (lst N).length = len
  go_wp2_with fail
  have K3 := K2.new
  generalize w2.alloc _ = V3 at K3 ⊢
  generalize w2.heap.size = bx at K3 ⊢
  clear c0 c1 c2 c3 f0 f1 f2 f3 K2 hlt2 b2
  refine (bytes_256 N HN.out _).mono ?_
  rintro e w3 ⟨rfl, hb3⟩
  replace K3 := K3.go hb3
  clear hb3
  go_wp2_with fail
  refine (read_256 N HN.out _).mono ?_
  rintro e w4 ⟨rfl, hb4⟩
  replace K3 := K3.go hb4
  clear hb4
  obtain ⟨c0, c1, c2, c3, f0, f1, f2, f3, lt0⟩ := K3.has w.heap.size (by simp)
  go_wp2_with fail
  have K4 := K3.new
  generalize w4.alloc _ = V4 at K4 ⊢
  generalize w4.heap.size = by' at K4 ⊢
  clear c0 c1 c2 c3 f0 f1 f2 f3 lt0 K3
  refine (HT.out _ (ht.keep K4.below)).mono ?_
  rintro e w5 ⟨rfl, hb5⟩
  replace K4 := K4.go hb5
  clear hb5
  go_wp2_with fail
  refine (HP.out _ K4.below).mono ?_
  rintro e w6 ⟨rfl, hb6⟩
  replace K4 := K4.go hb6
  clear hb6
  have K5 := K4.new
  have hself := bits_same N
  have hsz := bytesN_size N 32
  obtain ⟨c0, c1, c2, c3, f0, f1, f2, f3, l0⟩ := K4.has w.heap.size (by simp)
  obtain ⟨d0, d1, d2, d3, _, _, _, _, l1⟩ := K4.has bx (by simp)
  obtain ⟨g0, g1, g2, g3, _, _, _, _, l2⟩ := K4.has by' (by simp)
  generalize hs : bytesN N 32 = s at hsz
  have Hs := hidIn hs
  clear hs
  go_wp2
  generalize w6.alloc _ = V6 at K5 ⊢
  have K6 : Kept w V6 N [w.heap.size] := ⟨K5.below, fun b hb => K5.has b (by rw [List.mem_singleton.1 hb]; simp)⟩
  clear c0 c1 c2 c3 f0 f1 f2 f3 l0 d0 d1 d2 d3 l1 g0 g1 g2 g3 l2 K5 K4 hself
  go_loopw [11] (fun i wr => ∃ k : Nat, 1 ≤ k ∧ k ≤ 33 ∧ i = .int .i64 (8 * (k : Int)) ∧ Kept w wr N [w.heap.size]) (fun i _ => (264 - intOf i).toNat)
  case atStart => exact ⟨1, by omega, by omega, rfl, K6⟩
  case round =>
    obtain ⟨k, hk1, hk2, rfl, K⟩ := hrel
    clear K6
    by_cases hlt : k ≤ 32
    · have hle : 8 * (k : Int) ≤ 256 := by omega
      obtain ⟨c0, c1, c2, c3, f0, f1, f2, f3, l0⟩ := K.has w.heap.size (by simp)
      have hq : 8 * (k : Int) / 8 = (k : Int) := by omega
      have hkk : (k : Int) ≤ 32 := by omega
      by_cases hbl : bl N ≤ 8 * k
      · have hex : ((bytesN N k).toList == (s.extract 0 k).toList) = true := by rw [← Hs.out, bytes_ahead N k hlt]; exact beq_self_eq_true _
        go_wp2_with fail
        refine (bytes_ok N k HN.out hk1 hlt hbl _).mono ?_
        rintro e w7 ⟨rfl, hb7⟩
        replace K := K.go hb7
        clear hb7 c0 c1 c2 c3 f0 f1 f2 f3 l0
        obtain ⟨c0, c1, c2, c3, f0, f1, f2, f3, l0⟩ := K.has w.heap.size (by simp)
        go_wp2_with fail
        refine (below_yes N HN.out (8 * (k : Int)) (by omega) hle (by omega) _).mono ?_
        rintro e w8 ⟨rfl, hb8⟩
        replace K := K.go hb8
        clear hb8 c0 c1 c2 c3 f0 f1 f2 f3 l0
        change ((strOfNums ((List.range k).map fun i => ((byteOf N i : Nat) : Int))).toList == (s.extract 0 k).toList) = true at hex
        go_wp2
        go_roundw
        case rel => exact ⟨k + 1, by omega, by omega, by go_num, K⟩
        case measure => simp [intOf]; omega
      · go_wp2_with fail
        refine (bytes_long N k HN.out hk1 hlt (by omega) _).mono ?_
        rintro e w7 ⟨rfl, hb7⟩
        replace K := K.go hb7
        clear hb7 c0 c1 c2 c3 f0 f1 f2 f3 l0
        obtain ⟨c0, c1, c2, c3, f0, f1, f2, f3, l0⟩ := K.has w.heap.size (by simp)
        go_wp2_with fail
        refine (below_no N HN.out (8 * (k : Int)) (by omega) _).mono ?_
        rintro e w8 ⟨rfl, hb8⟩
        replace K := K.go hb8
        clear hb8 c0 c1 c2 c3 f0 f1 f2 f3 l0
        go_wp2
        go_roundw
        case rel => exact ⟨k + 1, by omega, by omega, by go_num, K⟩
        case measure => simp [intOf]; omega
    · have hle : ¬ 8 * (k : Int) ≤ 256 := by omega
      go_wp2_with fail
      refine (works_any _ (ht.keep K.below)).mono ?_
      rintro e w9 ⟨rfl, hb9⟩
      replace K := K.go hb9
      go_wp2
      go_ret
      exact ⟨rfl, K.below⟩
end Go.Proofs.YtlfmceochemeaabDoor
