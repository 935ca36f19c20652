/- header.Encode, Hop, With. -/
import Derived.Test.YtgfmlonhjmdfjaaDoorH6
namespace Go.Proofs.YtgfmlonhjmdfjaaDoor
open Go.RowKit

/-- The header of zeros. -/
abbrev hd0 : Value := .agg #[.int .i64 0, .int .i64 0, .int .u32 0, .int .i64 0, .int .i64 0, .int .i64 0, .int .u32 0, .int .u64 0, .int .u64 0, .int .u64 0, .int .u64 0]
theorem hd0_eq : hd 0 0 0 0 0 0 0 0 = hd0 := by simp only [hd, wd_zero]; rfl
/-- A block of zeros. -/
abbrev hob0 : Obj := .cells #[.int .i64 0, .int .i64 0, .int .u32 0, .int .i64 0, .int .i64 0, .int .i64 0, .int .u32 0, .int .u64 0, .int .u64 0, .int .u64 0, .int .u64 0] 27
theorem hasHd_zero (w : World) : HasHd (w.alloc hob0) w.heap.size 0 0 0 0 0 0 0 0 := by
  have h := hasHd_new w 0 0 0 0 0 0 0 0
  simp only [hob, wd_zero] at h
  exact h
/-- The eleven stores of a whole header. -/
abbrev World.putHd (w : World) (b : Nat) (W S E H O G I : Int) (a0 a1 a2 a3 : Int) : World :=
  ((((((((((w.setCell ⟨b, 0, none⟩ (.int .i64 W)).setCell ⟨b, 1, none⟩ (.int .i64 S)).setCell ⟨b, 2, none⟩ (.int .u32 E)).setCell ⟨b, 3, none⟩ (.int .i64 H)).setCell ⟨b, 4, none⟩ (.int .i64 O)).setCell ⟨b, 5, none⟩ (.int .i64 G)).setCell ⟨b, 6, none⟩ (.int .u32 I)).setCell ⟨b, 7, none⟩ (.int .u64 a0)).setCell ⟨b, 8, none⟩ (.int .u64 a1)).setCell ⟨b, 9, none⟩ (.int .u64 a2)).setCell ⟨b, 10, none⟩ (.int .u64 a3)
theorem below_putHd {B b : Nat} {w0 w : World} (h : Below B w0 w) (hB : B ≤ b) (W S E H O G I a0 a1 a2 a3 : Int) : Below B w0 (World.putHd w b W S E H O G I a0 a1 a2 a3) :=
  ((((((((((h.setCell (p := ⟨b, 0, none⟩) hB _).setCell (p := ⟨b, 1, none⟩) hB _).setCell (p := ⟨b, 2, none⟩) hB _).setCell (p := ⟨b, 3, none⟩) hB _).setCell (p := ⟨b, 4, none⟩) hB _).setCell (p := ⟨b, 5, none⟩) hB _).setCell (p := ⟨b, 6, none⟩) hB _).setCell (p := ⟨b, 7, none⟩) hB _).setCell (p := ⟨b, 8, none⟩) hB _).setCell (p := ⟨b, 9, none⟩) hB _).setCell (p := ⟨b, 10, none⟩) hB _
theorem bodyS_size (c S E H O G I N k : Nat) : (bodyS c S E H O G I N k).size = 13 + k := by
  unfold bodyS
  simp only [app_size, ly_size, bitsS_size]
  have : (⟨#[]⟩ : ByteArray).size = 0 := rfl
  omega

set_option maxHeartbeats 400000 in
theorem encode_ok (c S E H O G I N k : Nat) (hc : cOf (8 * (k : Int)) = c) (hok : OkH (8 * (k : Int)) S H O G N) (hE : E < 4294967296) (hI : I < 4294967296) (hN : N < 2 ^ 256) (w : World) (ht : Wid w) :
    Calls Tryd.prog 11 #[hd (8 * (k : Int)) S E H O G I N] w fun e w' => e = .returned (.tuple #[.string (Wi.sealS (bodyS c S E H O G I N k)), .int .i64 0]) ∧ Below w.heap.size w w' := by
  have HC := hidIn (check_ok (8 * (k : Int)) S E H O G I N hN hok)
  have hsz := bodyS_size c S E H O G I N k
  have hk32 : k ≤ 32 := by have := hok.1; unfold IsW at this; omega
  have HL := hidIn (lay_ok c S E H O G I N k hc hok.1 (by have := hok.2.2.1; omega) hE (by have := hok.2.2.2.1; omega) (by have := hok.2.2.2.2.1; omega) (by have := hok.2.2.2.2.2; omega) hI hN (by have := hok.2.1; omega))
  clear hok hc hE hI hN
  generalize bodyS c S E H O G I N k = B at hsz HL ⊢
  go_enter Tryd.func11, Tryd.ntmps11
  go_wp2_with fail
  refine (HC.out _ (ht.keep (by go_grown))).mono ?_
  rintro e w1 ⟨rfl, hb1⟩
  have hn := (hasHd_new w (8 * (k : Int)) S E H O G I N).keep hb1 (by simp)
  have hB1 : Below w.heap.size w w1 := ((Below.refl _ w).alloc (Nat.le_refl _) _).trans (hb1.mono (by simp))
  obtain ⟨c0, c1, c2, c3, c4, c5, c6, c7, c8, c9, ca, _, _, _, _, _, _, _, _, _, _, _, lt⟩ := hn
  clear hb1 HC
  go_wp2_with fail
  refine (HL.out _ (ht.keep hB1)).mono ?_
  rintro e w2 ⟨rfl, hb2⟩
  have hB2 : Below w.heap.size w w2 := hB1.trans (hb2.mono hB1.size)
  clear hb2 c0 c1 c2 c3 c4 c5 c6 c7 c8 c9 ca HL
  go_wp2_with fail
  refine (Wi.seal_any B (by omega) _).mono ?_
  rintro e w3 ⟨rfl, hb3⟩
  go_wp2
  go_ret2
  exact ⟨rfl, hB2.trans (hb3.mono hB2.size)⟩
set_option maxHeartbeats 400000 in
theorem encode_bad (W S E H O G I : Int) (N : Nat) (hN : N < 2 ^ 256) (hok : ¬ OkH W S H O G N) (w : World) (ht : Wid w) :
    Calls Tryd.prog 11 #[hd W S E H O G I N] w fun e w' => e = .returned (.tuple #[.string ⟨#[]⟩, .int .i64 2]) ∧ Below w.heap.size w w' := by
  have HC := hidIn (check_bad W S E H O G I N hN hok)
  clear hok
  go_enter Tryd.func11, Tryd.ntmps11
  go_wp2_with fail
  refine (HC.out _ (ht.keep (by go_grown))).mono ?_
  rintro e w1 ⟨rfl, hb1⟩
  have hB1 : Below w.heap.size w w1 := ((Below.refl _ w).alloc (Nat.le_refl _) _).trans (hb1.mono (by simp))
  go_wp2
  go_ret2
  exact ⟨rfl, hB1⟩

set_option maxHeartbeats 400000 in
theorem hop_bad (W S E H O G I : Int) (N : Nat) (hN : N < 2 ^ 256) (hok : ¬ OkH W S H O G N) (w : World) (ht : Wid w) :
    Calls Tryd.prog 13 #[hd W S E H O G I N] w fun e w' => e = .returned (.tuple #[hd0, .int .i64 2]) ∧ Below w.heap.size w w' := by
  have HC := hidIn (check_bad W S E H O G I N hN hok)
  clear hok
  go_enter Tryd.func13, Tryd.ntmps13
  go_wp2_with fail
  refine (HC.out _ (ht.keep (by go_grown))).mono ?_
  rintro e w1 ⟨rfl, hb1⟩
  have hB1 : Below w.heap.size w w1 := (((Below.refl _ w).alloc (Nat.le_refl _) _).alloc (by simp) _).trans (hb1.mono (by simp; omega))
  have hn0 := (hasHd_zero (w.alloc (hob W S E H O G I N))).keep hb1 (by simp)
  simp only [World.size_alloc] at hn0
  obtain ⟨c0, c1, c2, c3, c4, c5, c6, c7, c8, c9, ca, f0, f1, f2, f3, f4, f5, f6, f7, f8, f9, fa, lt⟩ := hn0
  clear hb1 HC
  go_wp2
  refine bodyPost_ret (v := .tuple #[hd0, .int .i64 2]) ?_ rfl ⟨rfl, below_putHd hB1 (Nat.le_succ _) _ _ _ _ _ _ _ _ _ _ _⟩
  simp [results, Tryd.results13, go_sem, *]
end Go.Proofs.YtgfmlonhjmdfjaaDoor
