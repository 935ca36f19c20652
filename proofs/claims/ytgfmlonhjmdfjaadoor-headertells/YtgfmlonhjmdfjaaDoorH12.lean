/- header.Decode where the seal is right. -/
import Derived.Test.YtgfmlonhjmdfjaaDoorH11
namespace Go.Proofs.YtgfmlonhjmdfjaaDoor
open Go.RowKit

/-- The bits of a header's bytes. -/
def dN (b : ByteArray) (k : Nat) : Nat := numTo (b.extract 13 b.size) k
theorem dN_lt (b : ByteArray) (k : Nat) (h : k ≤ 32) : dN b k < 2 ^ 256 := numTo_lt _ _ h
/-- What stands in a header's bytes may be. -/
def OkB (b : ByteArray) (k : Nat) : Prop := OkH (8 * (k : Int)) (Wi.tk b 1 1) (Wi.tk b 6 1) (Wi.tk b 7 1) (Wi.tk b 8 1) (dN b k)
set_option maxRecDepth 100000 in
set_option maxHeartbeats 1000000 in
theorem decode_bad (s b : ByteArray) (c : Nat) (hc : c ≤ 5) (h : 0 < s.size) (h1 : s[0].toNat = 16 + c) (hl : s.size = 15 + 2 ^ c) (he : Wi.sealS b = s) (hok : ¬ OkB b (2 ^ c)) (w : World) (ht : Wid w) :
    Calls Tryd.prog 18 #[.string s] w fun e w' => e = .returned (.tuple #[hd0, .int .i64 4]) ∧ Below w.heap.size w w' := by
  have hW := widthOf_ok s h c h1 hc
  rw [wOf_k] at hW
  have HW := hidIn hW
  have HS := hidIn (size_k (2 ^ c) (isW_k hc))
  have hk := k_bd hc
  have hsb := Wi.sealS_size b
  rw [he] at hsb
  have hbs : b.size = 13 + 2 ^ c := by omega
  have hO := Wi.open_ok b (by omega)
  rw [he] at hO
  have HO := hidIn hO
  have HR := hidIn (read_hd b (8 * ((2 ^ c : Nat) : Int)) (2 ^ c) hk.1 hk.2 hbs)
  have hNlt := dN_lt b (2 ^ c) hk.2
  have HC := hidIn (check_bad (8 * ((2 ^ c : Nat) : Int)) (Wi.tk b 1 1) (Wi.tk b 2 4) (Wi.tk b 6 1) (Wi.tk b 7 1) (Wi.tk b 8 1) (Wi.tk b 9 4) (dN b (2 ^ c)) hNlt hok)
  change Hid (∀ w : World, Calls Tryd.prog 33 #[.string b, .int .i64 (8 * ((2 ^ c : Nat) : Int))] w fun e w' => e = .returned (.tuple #[hd (8 * ((2 ^ c : Nat) : Int)) (Wi.tk b 1 1) (Wi.tk b 2 4) (Wi.tk b 6 1) (Wi.tk b 7 1) (Wi.tk b 8 1) (Wi.tk b 9 4) (dN b (2 ^ c)), .int .i64 0]) ∧ Below w.heap.size w w') at HR
  clear hW h1 hO he hok hNlt
  generalize dN b (2 ^ c) = N at *
  generalize Wi.tk b 1 1 = S at *
  generalize Wi.tk b 2 4 = E at *
  generalize Wi.tk b 6 1 = H at *
  generalize Wi.tk b 7 1 = O at *
  generalize Wi.tk b 8 1 = G at *
  generalize Wi.tk b 9 4 = I at *
  generalize 2 ^ c = k at *
  have hle : ((s.size : Int) != 15 + (k : Int)) = false := by rw [bne_eq_false_iff_eq]; omega
  clear hl hbs hsb
  have hn := hasHd_zero w
  have htn := ht.keep ((Below.refl _ w).alloc (Nat.le_refl _) hob0)
  go_enter Tryd.func18, Tryd.ntmps18
  go_wp2_with fail
  refine (HW.out _ htn).mono ?_
  rintro e w1 ⟨rfl, hw⟩
  replace hw := hw.symm
  subst hw
  go_wp2_with fail
  refine (HS.out _ htn).mono ?_
  rintro e w1 ⟨rfl, hw⟩
  replace hw := hw.symm
  subst hw
  go_wp2_with fail
  refine (HO.out _).mono ?_
  rintro e w2 ⟨rfl, hb2⟩
  have hn2 := hn.keep hb2 hn.lt
  have hB2 : Below w.heap.size w w2 := ((Below.refl _ w).alloc (Nat.le_refl _) _).trans (hb2.mono (by simp))
  clear hn hb2 htn HW HS HO
  go_wp2_with fail
  refine (HR.out _).mono ?_
  rintro e w3 ⟨rfl, hb3⟩
  have hn3 := hn2.keep hb3 hn2.lt
  have hB3 : Below w.heap.size w w3 := hB2.trans (hb3.mono hB2.size)
  clear hn2 hb3 hB2 HR
  have hn4 := hasHd_new w3 (8 * (k : Int)) S E H O G I N
  have hn3' := hn3.keep ((Below.refl _ w3).alloc (Nat.le_refl _) (hob (8 * (k : Int)) S E H O G I N)) hn3.lt
  have hB4 : Below w.heap.size w (w3.alloc (hob (8 * (k : Int)) S E H O G I N)) := hB3.alloc hB3.size _
  have HZ := hidIn hn3.lt
  have H4 := hidIn (And.intro hn4 (And.intro hn3' hB4))
  clear hn4 hn3' hB4 hn3 hB3
  go_upto_region 9 with fail
  have hz : w.heap.size < w3.heap.size := HZ.out
  generalize w3.alloc _ = w4 at *
  generalize w3.heap.size = hb at *
  obtain ⟨hn4, hn3', hB4⟩ := H4.out
  clear H4
  have e0 := hn4.c0
  have e1 := hn4.c1
  have e2 := hn4.c2
  have e3 := hn4.c3
  have e4 := hn4.c4
  have e5 := hn4.c5
  have e6 := hn4.c6
  have e7 := hn4.c7
  have e8 := hn4.c8
  have e9 := hn4.c9
  have ea := hn4.ca
  go_wp2_with fail
  refine (HC.out _ (ht.keep hB4)).mono ?_
  rintro e w5 ⟨rfl, hb5⟩
  have hn5 := hn4.keep hb5 hn4.lt
  have hn6 := hn3'.keep hb5 hn3'.lt
  have hB5 : Below w.heap.size w w5 := hB4.trans (hb5.mono hB4.size)
  clear e0 e1 e2 e3 e4 e5 e6 e7 e8 e9 ea hn4 hn3' hB4 hb5 HC
  obtain ⟨c0, c1, c2, c3, c4, c5, c6, c7, c8, c9, ca, f0, f1, f2, f3, f4, f5, f6, f7, f8, f9, fa, lt⟩ := hn6
  obtain ⟨d0, d1, d2, d3, d4, d5, d6, d7, d8, d9, da, g0, g1, g2, g3, g4, g5, g6, g7, g8, g9, ga, lt'⟩ := hn5
  clear g0 g1 g2 g3 g4 g5 g6 g7 g8 g9 ga
  go_wp2
  refine bodyPost_ret (v := .tuple #[hd0, .int .i64 4]) ?_ rfl ⟨rfl, below_putHd hB5 (Nat.le_refl _) _ _ _ _ _ _ _ _ _ _ _⟩
  simp [results, Tryd.results18, go_sem, *]
set_option maxRecDepth 100000 in
set_option maxHeartbeats 1000000 in
theorem decode_ok' (s b : ByteArray) (c : Nat) (hc : c ≤ 5) (h : 0 < s.size) (h1 : s[0].toNat = 16 + c) (hl : s.size = 15 + 2 ^ c) (he : Wi.sealS b = s) (hok : OkB b (2 ^ c)) (w : World) (ht : Wid w) :
    Calls Tryd.prog 18 #[.string s] w fun e w' => e = .returned (.tuple #[hd (8 * ((2 ^ c : Nat) : Int)) (Wi.tk b 1 1) (Wi.tk b 2 4) (Wi.tk b 6 1) (Wi.tk b 7 1) (Wi.tk b 8 1) (Wi.tk b 9 4) (dN b (2 ^ c)), .int .i64 0]) ∧ Below w.heap.size w w' := by
  have hW := widthOf_ok s h c h1 hc
  rw [wOf_k] at hW
  have HW := hidIn hW
  have HS := hidIn (size_k (2 ^ c) (isW_k hc))
  have hk := k_bd hc
  have hsb := Wi.sealS_size b
  rw [he] at hsb
  have hbs : b.size = 13 + 2 ^ c := by omega
  have hO := Wi.open_ok b (by omega)
  rw [he] at hO
  have HO := hidIn hO
  have HR := hidIn (read_hd b (8 * ((2 ^ c : Nat) : Int)) (2 ^ c) hk.1 hk.2 hbs)
  have hNlt := dN_lt b (2 ^ c) hk.2
  have HC := hidIn (check_ok (8 * ((2 ^ c : Nat) : Int)) (Wi.tk b 1 1) (Wi.tk b 2 4) (Wi.tk b 6 1) (Wi.tk b 7 1) (Wi.tk b 8 1) (Wi.tk b 9 4) (dN b (2 ^ c)) hNlt hok)
  change Hid (∀ w : World, Calls Tryd.prog 33 #[.string b, .int .i64 (8 * ((2 ^ c : Nat) : Int))] w fun e w' => e = .returned (.tuple #[hd (8 * ((2 ^ c : Nat) : Int)) (Wi.tk b 1 1) (Wi.tk b 2 4) (Wi.tk b 6 1) (Wi.tk b 7 1) (Wi.tk b 8 1) (Wi.tk b 9 4) (dN b (2 ^ c)), .int .i64 0]) ∧ Below w.heap.size w w') at HR
  clear hW h1 hO he hok hNlt
  generalize dN b (2 ^ c) = N at *
  generalize Wi.tk b 1 1 = S at *
  generalize Wi.tk b 2 4 = E at *
  generalize Wi.tk b 6 1 = H at *
  generalize Wi.tk b 7 1 = O at *
  generalize Wi.tk b 8 1 = G at *
  generalize Wi.tk b 9 4 = I at *
  generalize 2 ^ c = k at *
  have hle : ((s.size : Int) != 15 + (k : Int)) = false := by rw [bne_eq_false_iff_eq]; omega
  clear hl hbs hsb
  have hn := hasHd_zero w
  have htn := ht.keep ((Below.refl _ w).alloc (Nat.le_refl _) hob0)
  go_enter Tryd.func18, Tryd.ntmps18
  go_wp2_with fail
  refine (HW.out _ htn).mono ?_
  rintro e w1 ⟨rfl, hw⟩
  replace hw := hw.symm
  subst hw
  go_wp2_with fail
  refine (HS.out _ htn).mono ?_
  rintro e w1 ⟨rfl, hw⟩
  replace hw := hw.symm
  subst hw
  go_wp2_with fail
  refine (HO.out _).mono ?_
  rintro e w2 ⟨rfl, hb2⟩
  have hn2 := hn.keep hb2 hn.lt
  have hB2 : Below w.heap.size w w2 := ((Below.refl _ w).alloc (Nat.le_refl _) _).trans (hb2.mono (by simp))
  clear hn hb2 htn HW HS HO
  go_wp2_with fail
  refine (HR.out _).mono ?_
  rintro e w3 ⟨rfl, hb3⟩
  have hn3 := hn2.keep hb3 hn2.lt
  have hB3 : Below w.heap.size w w3 := hB2.trans (hb3.mono hB2.size)
  clear hn2 hb3 hB2 HR
  have hn4 := hasHd_new w3 (8 * (k : Int)) S E H O G I N
  have hn3' := hn3.keep ((Below.refl _ w3).alloc (Nat.le_refl _) (hob (8 * (k : Int)) S E H O G I N)) hn3.lt
  have hB4 : Below w.heap.size w (w3.alloc (hob (8 * (k : Int)) S E H O G I N)) := hB3.alloc hB3.size _
  have HZ := hidIn hn3.lt
  have H4 := hidIn (And.intro hn4 (And.intro hn3' hB4))
  clear hn4 hn3' hB4 hn3 hB3
  go_upto_region 9 with fail
  have hz : w.heap.size < w3.heap.size := HZ.out
  generalize w3.alloc _ = w4 at *
  generalize w3.heap.size = hb at *
  obtain ⟨hn4, hn3', hB4⟩ := H4.out
  clear H4
  have e0 := hn4.c0
  have e1 := hn4.c1
  have e2 := hn4.c2
  have e3 := hn4.c3
  have e4 := hn4.c4
  have e5 := hn4.c5
  have e6 := hn4.c6
  have e7 := hn4.c7
  have e8 := hn4.c8
  have e9 := hn4.c9
  have ea := hn4.ca
  go_wp2_with fail
  refine (HC.out _ (ht.keep hB4)).mono ?_
  rintro e w5 ⟨rfl, hb5⟩
  have hn5 := hn4.keep hb5 hn4.lt
  have hn6 := hn3'.keep hb5 hn3'.lt
  have hB5 : Below w.heap.size w w5 := hB4.trans (hb5.mono hB4.size)
  clear e0 e1 e2 e3 e4 e5 e6 e7 e8 e9 ea hn4 hn3' hB4 hb5 HC
  obtain ⟨c0, c1, c2, c3, c4, c5, c6, c7, c8, c9, ca, f0, f1, f2, f3, f4, f5, f6, f7, f8, f9, fa, lt⟩ := hn6
  obtain ⟨d0, d1, d2, d3, d4, d5, d6, d7, d8, d9, da, g0, g1, g2, g3, g4, g5, g6, g7, g8, g9, ga, lt'⟩ := hn5
  clear g0 g1 g2 g3 g4 g5 g6 g7 g8 g9 ga
  go_wp2
  refine bodyPost_ret (v := .tuple #[hd (8 * (k : Int)) S E H O G I N, .int .i64 0]) ?_ rfl ⟨rfl, below_putHd hB5 (Nat.le_refl _) _ _ _ _ _ _ _ _ _ _ _⟩
  simp [results, Tryd.results18, go_sem, *]
end Go.Proofs.YtgfmlonhjmdfjaaDoor
