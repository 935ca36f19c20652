/- header.lay, header.Encode. -/
import Derived.Test.YtgfmlonhjmdfjaaDoorH5
import Derived.Laws.EntriesVeiled
namespace Go.Proofs.YtgfmlonhjmdfjaaDoor
open Go.RowKit

/-- What stands while lay lays. -/
structure LayInv (w V : World) (W S E H O G I : Int) (N : Nat) (s : ByteArray) : Prop where
  l : Lays V (w.heap.size + 1 + 1 + 1) (w.heap.size + 1 + 1) (w.heap.size + 1) s
  h : HasHd V w.heap.size W S E H O G I N
  b : Below w.heap.size w V
theorem LayInv.step {w V w1 : World} {W S E H O G I : Int} {N : Nat} {s : ByteArray} (h : LayInv w V W S E H O G I N s) (hb : Below V.heap.size V w1) (t : ByteArray) :
    LayInv w ((w1.setCell ⟨w.heap.size + 1, 0, none⟩ (.string t)).setCell ⟨w.heap.size + 1 + 1, 0, none⟩ (.int .i64 0)) W S E H O G I N t := by
  refine ⟨(h.l.keep hb).put (by omega) (by omega) (by omega) t, ?_, ?_⟩
  · refine (h.h.keep hb h.h.lt).keep (B := w.heap.size + 1) (((Below.refl _ w1).setCell (p := ⟨w.heap.size + 1, 0, none⟩) (Nat.le_refl _) _).setCell (p := ⟨w.heap.size + 1 + 1, 0, none⟩) (Nat.le_succ _) _) (Nat.lt_succ_self _)
  · exact ((h.b.trans (hb.mono h.b.size)).setCell (p := ⟨w.heap.size + 1, 0, none⟩) (Nat.le_succ _) _).setCell (p := ⟨w.heap.size + 1 + 1, 0, none⟩) (by show _ ≤ w.heap.size + 1 + 1; omega) _
/-- A number in n bytes. -/
def ly (v n : Nat) : ByteArray := strOfNums (Wi.layN v n)
theorem ly_size (v n : Nat) : (ly v n).size = n := lay_size v n
/-- The bits' bytes. -/
def bitsS (N k : Nat) : ByteArray := strOfNums ((List.range k).map fun i => ((byteOf N i : Nat) : Int))
theorem bitsS_size (N k : Nat) : (bitsS N k).size = k := by unfold bitsS; rw [strOfNums_size]; simp
/-- A header's bytes, without the seal. -/
def bodyS (c S E H O G I N k : Nat) : ByteArray := (((((((⟨#[]⟩ ++ ly (16 + c) 1) ++ ly S 1) ++ ly E 4) ++ ly H 1) ++ ly O 1) ++ ly G 1) ++ ly I 4) ++ bitsS N k
theorem app_size (a b : ByteArray) : (a ++ b).size = a.size + b.size := ByteArray.size_append

theorem number1_inv {w V : World} {W S E H O G I : Int} {N : Nat} {s : ByteArray} (hV : LayInv w V W S E H O G I N s) (v : Nat) (hv : v < 256) (hs : s.size ≤ 1000000) :
    Calls Tryd.prog 41 #[.int .u64 v, .int .i64 1, .pointer (some ⟨w.heap.size + 1 + 1 + 1, 0, none⟩)] V fun e V' => (∃ r, e = .returned r) ∧ LayInv w V' W S E H O G I N (s ++ ly v 1) := by
  refine (number1_ok v hv s _ _ _ V hV.l (by omega) hs).mono ?_
  rintro e V' ⟨he, w1, hb1, rfl⟩
  exact ⟨he, hV.step hb1 _⟩
theorem number4_inv {w V : World} {W S E H O G I : Int} {N : Nat} {s : ByteArray} (hV : LayInv w V W S E H O G I N s) (v : Nat) (hv : v < 4294967296) (hs : s.size ≤ 1000000) :
    Calls Tryd.prog 41 #[.int .u64 v, .int .i64 4, .pointer (some ⟨w.heap.size + 1 + 1 + 1, 0, none⟩)] V fun e V' => (∃ r, e = .returned r) ∧ LayInv w V' W S E H O G I N (s ++ ly v 4) := by
  refine (number4_ok v hv s _ _ _ V hV.l (by omega) hs).mono ?_
  rintro e V' ⟨he, w1, hb1, rfl⟩
  exact ⟨he, hV.step hb1 _⟩

theorem LayInv.grow {w V V' : World} {W S E H O G I : Int} {N : Nat} {s : ByteArray} (hV : LayInv w V W S E H O G I N s) (hb : Below V.heap.size V V') : LayInv w V' W S E H O G I N s :=
  ⟨hV.l.keep hb, hV.h.keep hb hV.h.lt, hV.b.trans (hb.mono hV.b.size)⟩
theorem add_inv {w V : World} {W S E H O G I : Int} {N : Nat} {s : ByteArray} (hV : LayInv w V W S E H O G I N s) (p : ByteArray) (hs : s.size ≤ 1000000) (hp : p.size ≤ 1000000) :
    Calls Tryd.prog 40 #[.string p, .int .i64 0, .pointer (some ⟨w.heap.size + 1 + 1, 0, none⟩), .pointer (some ⟨w.heap.size + 1, 0, none⟩)] V fun e V' => (∃ r, e = .returned r) ∧ LayInv w V' W S E H O G I N (s ++ p) := by
  refine (add_ok p s _ _ V (by omega) hV.l.f hV.l.o hV.l.gf hV.l.go hs hp).mono ?_
  rintro e V' ⟨he, rfl⟩
  exact ⟨he, hV.step (Below.refl _ _) _⟩
set_option maxRecDepth 100000 in
set_option maxHeartbeats 2000000 in
theorem lay_ok (c S E H O G I N k : Nat) (hc : cOf (8 * (k : Int)) = c) (hk : IsW (8 * (k : Int))) (hS : S < 256) (hE : E < 4294967296) (hH : H < 256) (hO : O < 256) (hG : G < 256) (hI : I < 4294967296) (hN : N < 2 ^ 256) (hb : bl N ≤ 8 * k) (w : World) (ht : Wid w) :
    Calls Tryd.prog 25 #[hd (8 * (k : Int)) S E H O G I N] w fun e w' => e = .returned (.tuple #[.string (bodyS c S E H O G I N k), .int .i64 0]) ∧ Below w.heap.size w w' := by
  have hk1 : 1 ≤ k ∧ k ≤ 32 := by unfold IsW at hk; omega
  obtain ⟨hk1, hk2⟩ := hk1
  have hc5 : c ≤ 5 := by have := cOf_bd (8 * (k : Int)); omega
  have HC := hidIn (codeOf_yes (8 * (k : Int)) hk)
  rw [hc] at HC
  have HK := hidIn hk
  clear hk hc
  go_enter Tryd.func25, Tryd.ntmps25
  go_wp2_with fail
  refine (HC.out _ (ht.keep (by go_grown))).mono ?_
  rintro e V ⟨rfl, hw⟩
  have hV : LayInv w V (8 * (k : Int)) S E H O G I N ⟨#[]⟩ := by
    rw [hw]
    refine ⟨⟨?_, ?_, ?_, ?_, ?_, ?_, ?_, ?_⟩, ?_, ?_⟩
    · simp [go_sem]
    · simp [go_sem]
    · simp [go_sem]
    · simp [go_sem]
    · simp [go_sem]
    · simp
    · simp
    · simp
    · exact (hasHd_new w (8 * (k : Int)) S E H O G I N).keep (B := w.heap.size + 1) (by go_grown) (Nat.lt_succ_self _)
    · go_grown
  clear hw
  have cs := hV.h.c1
  have e16 : (16 : Int) + (c : Int) = ((16 + c : Nat) : Int) := by omega
  have E16 := hidIn e16
  clear e16
  have hs0 : (⟨#[]⟩ : ByteArray).size ≤ 100 := by decide
  go_wp2_with fail
  rw [E16.out]
  refine (number1_inv hV (16 + c) (by omega) (by omega)).mono ?_
  rintro e V1 ⟨⟨_, rfl⟩, hV1⟩
  have hs1 := app_size ⟨#[]⟩ (ly (16 + c) 1)
  rw [ly_size] at hs1
  clear hV
  have hV := hV1
  clear hV1
  have cs := hV.h.c1
  go_wp2_with fail
  refine (number1_inv hV S (hS) (by omega)).mono ?_
  rintro e V2 ⟨⟨_, rfl⟩, hV2⟩
  have hs2 := app_size ((⟨#[]⟩ ++ ly (16 + c) 1)) (ly S 1)
  rw [ly_size] at hs2
  clear hV
  have hV := hV2
  clear hV2
  clear cs
  have cs := hV.h.c2
  go_wp2_with fail
  refine (number4_inv hV E (hE) (by omega)).mono ?_
  rintro e V3 ⟨⟨_, rfl⟩, hV3⟩
  have hs3 := app_size (((⟨#[]⟩ ++ ly (16 + c) 1) ++ ly S 1)) (ly E 4)
  rw [ly_size] at hs3
  clear hV
  have hV := hV3
  clear hV3
  clear cs
  have cs := hV.h.c3
  go_wp2_with fail
  refine (number1_inv hV H (hH) (by omega)).mono ?_
  rintro e V4 ⟨⟨_, rfl⟩, hV4⟩
  have hs4 := app_size ((((⟨#[]⟩ ++ ly (16 + c) 1) ++ ly S 1) ++ ly E 4)) (ly H 1)
  rw [ly_size] at hs4
  clear hV
  have hV := hV4
  clear hV4
  clear cs
  have cs := hV.h.c4
  go_wp2_with fail
  refine (number1_inv hV O (hO) (by omega)).mono ?_
  rintro e V5 ⟨⟨_, rfl⟩, hV5⟩
  have hs5 := app_size (((((⟨#[]⟩ ++ ly (16 + c) 1) ++ ly S 1) ++ ly E 4) ++ ly H 1)) (ly O 1)
  rw [ly_size] at hs5
  clear hV
  have hV := hV5
  clear hV5
  clear cs
  have cs := hV.h.c5
  go_wp2_with fail
  refine (number1_inv hV G (hG) (by omega)).mono ?_
  rintro e V6 ⟨⟨_, rfl⟩, hV6⟩
  have hs6 := app_size ((((((⟨#[]⟩ ++ ly (16 + c) 1) ++ ly S 1) ++ ly E 4) ++ ly H 1) ++ ly O 1)) (ly G 1)
  rw [ly_size] at hs6
  clear hV
  have hV := hV6
  clear hV6
  clear cs
  have cs := hV.h.c6
  go_wp2_with fail
  refine (number4_inv hV I (hI) (by omega)).mono ?_
  rintro e V7 ⟨⟨_, rfl⟩, hV7⟩
  have hs7 := app_size (((((((⟨#[]⟩ ++ ly (16 + c) 1) ++ ly S 1) ++ ly E 4) ++ ly H 1) ++ ly O 1) ++ ly G 1)) (ly I 4)
  rw [ly_size] at hs7
  clear hV
  have hV := hV7
  clear hV7
  have c0 := hV.h.c0
  have c7 := hV.h.c7
  have c8 := hV.h.c8
  have c9 := hV.h.c9
  have ca := hV.h.ca
  go_wp2_with fail
  refine (bytes_ok N k hN hk1 hk2 hb _).mono ?_
  rintro e V8 ⟨rfl, hb8⟩
  have hV8 := hV.grow hb8
  have ha := hV8.l.a
  clear hV c0 c7 c8 c9 ca hb8
  have hz8 := bitsS_size N k
  go_wp2_with fail
  refine (add_inv hV8 (bitsS N k) (by omega) (by omega)).mono ?_
  rintro e V9 ⟨⟨_, rfl⟩, hV9⟩
  have hf := hV9.l.f
  have ho := hV9.l.o
  have HB := hidIn hV9.b
  clear hV8 ha hV9
  go_wp2
  go_ret2
  exact ⟨rfl, HB.out⟩
end Go.Proofs.YtgfmlonhjmdfjaaDoor
