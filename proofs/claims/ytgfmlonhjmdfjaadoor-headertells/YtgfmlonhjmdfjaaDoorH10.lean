/- header.read. -/
import Derived.Test.YtgfmlonhjmdfjaaDoorH9
import Derived.Deep.Cut
namespace Go.Proofs.YtgfmlonhjmdfjaaDoor
open Go.RowKit

/-- What stands while read reads. -/
structure RdInv (w V : World) (b : ByteArray) (a : Int) (W S E H O G I : Int) (N : Nat) : Prop where
  r : Rds V w.heap.size (w.heap.size + 1 + 1) (w.heap.size + 1 + 1 + 1) b a
  z : HasHd V (w.heap.size + 1) 0 0 0 0 0 0 0 0
  h : HasHd V (w.heap.size + 1 + 1 + 1 + 1) W S E H O G I N
  b : Below w.heap.size w V
theorem RdInv.grow {w V V' : World} {b : ByteArray} {a W S E H O G I : Int} {N : Nat} (h : RdInv w V b a W S E H O G I N) (hb : Below V.heap.size V V') : RdInv w V' b a W S E H O G I N :=
  ⟨h.r.keep hb h.r.ls h.r.la h.r.lf, h.z.keep hb h.z.lt, h.h.keep hb h.h.lt, h.b.trans (hb.mono h.b.size)⟩
theorem HasHd.other {w : World} {c b : Nat} {W S E H O G I : Int} {N : Nat} (h : HasHd w b W S E H O G I N) (hc : c ≠ b) (o : Nat) (v : Value) : HasHd (w.setCell ⟨c, o, none⟩ v) b W S E H O G I N := by
  obtain ⟨c0, c1, c2, c3, c4, c5, c6, c7, c8, c9, ca, f0, f1, f2, f3, f4, f5, f6, f7, f8, f9, fa, lt⟩ := h
  refine ⟨?_, ?_, ?_, ?_, ?_, ?_, ?_, ?_, ?_, ?_, ?_, ?_, ?_, ?_, ?_, ?_, ?_, ?_, ?_, ?_, ?_, ?_, ?_⟩
  all_goals simp [*, go_sem]
theorem Rds.other {w : World} {sb ab fb c : Nat} {b : ByteArray} {a : Int} (h : Rds w sb ab fb b a) (h1 : c ≠ sb) (h2 : c ≠ ab) (h3 : c ≠ fb) (o : Nat) (v : Value) : Rds (w.setCell ⟨c, o, none⟩ v) sb ab fb b a := by
  obtain ⟨a, f, o, gf, go, la, lf, lo⟩ := h
  refine ⟨?_, ?_, ?_, ?_, ?_, ?_, ?_, ?_⟩
  all_goals simp [*, go_sem]
theorem HasHd.setS {w : World} {b : Nat} {W S E H O G I : Int} {N : Nat} (h : HasHd w b W S E H O G I N) (x : Int) : HasHd (w.setCell ⟨b, 1, none⟩ (.int .i64 x)) b W x E H O G I N := by
  obtain ⟨c0, c1, c2, c3, c4, c5, c6, c7, c8, c9, ca, f0, f1, f2, f3, f4, f5, f6, f7, f8, f9, fa, lt⟩ := h
  refine ⟨?_, ?_, ?_, ?_, ?_, ?_, ?_, ?_, ?_, ?_, ?_, ?_, ?_, ?_, ?_, ?_, ?_, ?_, ?_, ?_, ?_, ?_, ?_⟩
  all_goals simp [*, go_sem]
theorem RdInv.setS {w V : World} {b : ByteArray} {a W S E H O G I : Int} {N : Nat} (h : RdInv w V b a W S E H O G I N) (x : Int) : RdInv w (V.setCell ⟨w.heap.size + 1 + 1 + 1 + 1, 1, none⟩ (.int .i64 x)) b a W x E H O G I N :=
  ⟨h.r.other (by omega) (by omega) (by omega) _ _, h.z.other (by omega) _ _, h.h.setS x, h.b.setCell (p := ⟨w.heap.size + 1 + 1 + 1 + 1, 1, none⟩) (by show _ ≤ w.heap.size + 1 + 1 + 1 + 1; omega) _⟩
theorem HasHd.setE {w : World} {b : Nat} {W S E H O G I : Int} {N : Nat} (h : HasHd w b W S E H O G I N) (x : Int) : HasHd (w.setCell ⟨b, 2, none⟩ (.int .u32 x)) b W S x H O G I N := by
  obtain ⟨c0, c1, c2, c3, c4, c5, c6, c7, c8, c9, ca, f0, f1, f2, f3, f4, f5, f6, f7, f8, f9, fa, lt⟩ := h
  refine ⟨?_, ?_, ?_, ?_, ?_, ?_, ?_, ?_, ?_, ?_, ?_, ?_, ?_, ?_, ?_, ?_, ?_, ?_, ?_, ?_, ?_, ?_, ?_⟩
  all_goals simp [*, go_sem]
theorem RdInv.setE {w V : World} {b : ByteArray} {a W S E H O G I : Int} {N : Nat} (h : RdInv w V b a W S E H O G I N) (x : Int) : RdInv w (V.setCell ⟨w.heap.size + 1 + 1 + 1 + 1, 2, none⟩ (.int .u32 x)) b a W S x H O G I N :=
  ⟨h.r.other (by omega) (by omega) (by omega) _ _, h.z.other (by omega) _ _, h.h.setE x, h.b.setCell (p := ⟨w.heap.size + 1 + 1 + 1 + 1, 2, none⟩) (by show _ ≤ w.heap.size + 1 + 1 + 1 + 1; omega) _⟩
theorem HasHd.setH {w : World} {b : Nat} {W S E H O G I : Int} {N : Nat} (h : HasHd w b W S E H O G I N) (x : Int) : HasHd (w.setCell ⟨b, 3, none⟩ (.int .i64 x)) b W S E x O G I N := by
  obtain ⟨c0, c1, c2, c3, c4, c5, c6, c7, c8, c9, ca, f0, f1, f2, f3, f4, f5, f6, f7, f8, f9, fa, lt⟩ := h
  refine ⟨?_, ?_, ?_, ?_, ?_, ?_, ?_, ?_, ?_, ?_, ?_, ?_, ?_, ?_, ?_, ?_, ?_, ?_, ?_, ?_, ?_, ?_, ?_⟩
  all_goals simp [*, go_sem]
theorem RdInv.setH {w V : World} {b : ByteArray} {a W S E H O G I : Int} {N : Nat} (h : RdInv w V b a W S E H O G I N) (x : Int) : RdInv w (V.setCell ⟨w.heap.size + 1 + 1 + 1 + 1, 3, none⟩ (.int .i64 x)) b a W S E x O G I N :=
  ⟨h.r.other (by omega) (by omega) (by omega) _ _, h.z.other (by omega) _ _, h.h.setH x, h.b.setCell (p := ⟨w.heap.size + 1 + 1 + 1 + 1, 3, none⟩) (by show _ ≤ w.heap.size + 1 + 1 + 1 + 1; omega) _⟩
theorem HasHd.setO {w : World} {b : Nat} {W S E H O G I : Int} {N : Nat} (h : HasHd w b W S E H O G I N) (x : Int) : HasHd (w.setCell ⟨b, 4, none⟩ (.int .i64 x)) b W S E H x G I N := by
  obtain ⟨c0, c1, c2, c3, c4, c5, c6, c7, c8, c9, ca, f0, f1, f2, f3, f4, f5, f6, f7, f8, f9, fa, lt⟩ := h
  refine ⟨?_, ?_, ?_, ?_, ?_, ?_, ?_, ?_, ?_, ?_, ?_, ?_, ?_, ?_, ?_, ?_, ?_, ?_, ?_, ?_, ?_, ?_, ?_⟩
  all_goals simp [*, go_sem]
theorem RdInv.setO {w V : World} {b : ByteArray} {a W S E H O G I : Int} {N : Nat} (h : RdInv w V b a W S E H O G I N) (x : Int) : RdInv w (V.setCell ⟨w.heap.size + 1 + 1 + 1 + 1, 4, none⟩ (.int .i64 x)) b a W S E H x G I N :=
  ⟨h.r.other (by omega) (by omega) (by omega) _ _, h.z.other (by omega) _ _, h.h.setO x, h.b.setCell (p := ⟨w.heap.size + 1 + 1 + 1 + 1, 4, none⟩) (by show _ ≤ w.heap.size + 1 + 1 + 1 + 1; omega) _⟩
theorem HasHd.setG {w : World} {b : Nat} {W S E H O G I : Int} {N : Nat} (h : HasHd w b W S E H O G I N) (x : Int) : HasHd (w.setCell ⟨b, 5, none⟩ (.int .i64 x)) b W S E H O x I N := by
  obtain ⟨c0, c1, c2, c3, c4, c5, c6, c7, c8, c9, ca, f0, f1, f2, f3, f4, f5, f6, f7, f8, f9, fa, lt⟩ := h
  refine ⟨?_, ?_, ?_, ?_, ?_, ?_, ?_, ?_, ?_, ?_, ?_, ?_, ?_, ?_, ?_, ?_, ?_, ?_, ?_, ?_, ?_, ?_, ?_⟩
  all_goals simp [*, go_sem]
theorem RdInv.setG {w V : World} {b : ByteArray} {a W S E H O G I : Int} {N : Nat} (h : RdInv w V b a W S E H O G I N) (x : Int) : RdInv w (V.setCell ⟨w.heap.size + 1 + 1 + 1 + 1, 5, none⟩ (.int .i64 x)) b a W S E H O x I N :=
  ⟨h.r.other (by omega) (by omega) (by omega) _ _, h.z.other (by omega) _ _, h.h.setG x, h.b.setCell (p := ⟨w.heap.size + 1 + 1 + 1 + 1, 5, none⟩) (by show _ ≤ w.heap.size + 1 + 1 + 1 + 1; omega) _⟩
theorem HasHd.setI {w : World} {b : Nat} {W S E H O G I : Int} {N : Nat} (h : HasHd w b W S E H O G I N) (x : Int) : HasHd (w.setCell ⟨b, 6, none⟩ (.int .u32 x)) b W S E H O G x N := by
  obtain ⟨c0, c1, c2, c3, c4, c5, c6, c7, c8, c9, ca, f0, f1, f2, f3, f4, f5, f6, f7, f8, f9, fa, lt⟩ := h
  refine ⟨?_, ?_, ?_, ?_, ?_, ?_, ?_, ?_, ?_, ?_, ?_, ?_, ?_, ?_, ?_, ?_, ?_, ?_, ?_, ?_, ?_, ?_, ?_⟩
  all_goals simp [*, go_sem]
theorem RdInv.setI {w V : World} {b : ByteArray} {a W S E H O G I : Int} {N : Nat} (h : RdInv w V b a W S E H O G I N) (x : Int) : RdInv w (V.setCell ⟨w.heap.size + 1 + 1 + 1 + 1, 6, none⟩ (.int .u32 x)) b a W S E H O G x N :=
  ⟨h.r.other (by omega) (by omega) (by omega) _ _, h.z.other (by omega) _ _, h.h.setI x, h.b.setCell (p := ⟨w.heap.size + 1 + 1 + 1 + 1, 6, none⟩) (by show _ ≤ w.heap.size + 1 + 1 + 1 + 1; omega) _⟩
theorem HasHd.setN {w : World} {b : Nat} {W S E H O G I : Int} {N : Nat} (h : HasHd w b W S E H O G I N) (X : Nat) : HasHd ((((w.setCell ⟨b, 7, none⟩ (.int .u64 (wd X 0))).setCell ⟨b, 8, none⟩ (.int .u64 (wd X 1))).setCell ⟨b, 9, none⟩ (.int .u64 (wd X 2))).setCell ⟨b, 10, none⟩ (.int .u64 (wd X 3))) b W S E H O G I X := by
  obtain ⟨c0, c1, c2, c3, c4, c5, c6, c7, c8, c9, ca, f0, f1, f2, f3, f4, f5, f6, f7, f8, f9, fa, lt⟩ := h
  refine ⟨?_, ?_, ?_, ?_, ?_, ?_, ?_, ?_, ?_, ?_, ?_, ?_, ?_, ?_, ?_, ?_, ?_, ?_, ?_, ?_, ?_, ?_, ?_⟩
  all_goals simp [*, go_sem]
theorem rdnum_inv {w V : World} {b : ByteArray} {W S E H O G I : Int} {N : Nat} (a n : Nat) (hV : RdInv w V b a W S E H O G I N) (hb : b.size ≤ 1000000) (hn : n = 1 ∨ n = 2 ∨ n = 4 ∨ n = 8) (h : a + n ≤ b.size) :
    Calls Tryd.prog 49 #[.int .i64 n, .pointer (some ⟨w.heap.size, 0, none⟩), .pointer (some ⟨w.heap.size + 1 + 1, 0, none⟩), .pointer (some ⟨w.heap.size + 1 + 1 + 1, 0, none⟩)] V fun e V' => e = .returned (.int .u64 (Wi.tk b a n : Nat)) ∧ RdInv w V' b ((a + n : Nat) : Int) W S E H O G I N := by
  refine (rdnum_ok b a n hb hn h _ _ _ V hV.r (by omega)).mono ?_
  rintro e V' ⟨he, rfl⟩
  refine ⟨he, hV.r.put (by omega) (by omega) (by omega) _, (hV.z.other (by omega) _ _).other (by omega) _ _, (hV.h.other (by omega) _ _).other (by omega) _ _, ?_⟩
  exact (hV.b.setCell (p := ⟨w.heap.size + 1 + 1 + 1, 0, none⟩) (by show _ ≤ w.heap.size + 1 + 1 + 1; omega) _).setCell (p := ⟨w.heap.size + 1 + 1, 0, none⟩) (by show _ ≤ w.heap.size + 1 + 1; omega) _
theorem rdnum1 {w V : World} {b : ByteArray} {W S E H O G I : Int} {N : Nat} (a : Nat) (a0 a1 : Int) (T : Nat) (hT : Wi.tk b a 1 = T) (ha : a0 = (a : Int)) (ha1 : a1 = a0 + 1) (hV : RdInv w V b a0 W S E H O G I N) (hb : b.size ≤ 1000000) (h : a + 1 ≤ b.size) :
    Calls Tryd.prog 49 #[.int .i64 1, .pointer (some ⟨w.heap.size, 0, none⟩), .pointer (some ⟨w.heap.size + 1 + 1, 0, none⟩), .pointer (some ⟨w.heap.size + 1 + 1 + 1, 0, none⟩)] V fun e V' => e = .returned (.int .u64 (T : Nat)) ∧ RdInv w V' b a1 W S E H O G I N := by
  subst ha
  subst hT
  refine (rdnum_inv a 1 hV hb (by simp) h).mono ?_
  rintro e V' ⟨he, hV'⟩
  refine ⟨he, ?_⟩
  rw [ha1, show (a : Int) + 1 = ((a + 1 : Nat) : Int) from by omega]
  exact hV'
theorem rdnum4 {w V : World} {b : ByteArray} {W S E H O G I : Int} {N : Nat} (a : Nat) (a0 a1 : Int) (T : Nat) (hT : Wi.tk b a 4 = T) (ha : a0 = (a : Int)) (ha1 : a1 = a0 + 4) (hV : RdInv w V b a0 W S E H O G I N) (hb : b.size ≤ 1000000) (h : a + 4 ≤ b.size) :
    Calls Tryd.prog 49 #[.int .i64 4, .pointer (some ⟨w.heap.size, 0, none⟩), .pointer (some ⟨w.heap.size + 1 + 1, 0, none⟩), .pointer (some ⟨w.heap.size + 1 + 1 + 1, 0, none⟩)] V fun e V' => e = .returned (.int .u64 (T : Nat)) ∧ RdInv w V' b a1 W S E H O G I N := by
  subst ha
  subst hT
  refine (rdnum_inv a 4 hV hb (by simp) h).mono ?_
  rintro e V' ⟨he, hV'⟩
  refine ⟨he, ?_⟩
  rw [ha1, show (a : Int) + 4 = ((a + 4 : Nat) : Int) from by omega]
  exact hV'

set_option maxRecDepth 100000 in
set_option maxHeartbeats 2000000 in
theorem read_hd (b : ByteArray) (W : Int) (k : Nat) (hk1 : 1 ≤ k) (hk2 : k ≤ 32) (hs : b.size = 13 + k) (w : World) :
    Calls Tryd.prog 33 #[.string b, .int .i64 W] w fun e w' => e = .returned (.tuple #[hd W (Wi.tk b 1 1) (Wi.tk b 2 4) (Wi.tk b 6 1) (Wi.tk b 7 1) (Wi.tk b 8 1) (Wi.tk b 9 4) (numTo (b.extract 13 b.size) k), .int .i64 0]) ∧ Below w.heap.size w w' := by
  have hb : b.size ≤ 1000000 := by omega
  have hT1 : Wi.tk b 1 1 < 256 := Wi.tk_lt b 1 1
  have hT2 : Wi.tk b 2 4 < 4294967296 := Wi.tk_lt b 2 4
  have hT3 : Wi.tk b 6 1 < 256 := Wi.tk_lt b 6 1
  have hT4 : Wi.tk b 7 1 < 256 := Wi.tk_lt b 7 1
  have hT5 : Wi.tk b 8 1 < 256 := Wi.tk_lt b 8 1
  have hT6 : Wi.tk b 9 4 < 4294967296 := Wi.tk_lt b 9 4
  have hx : (b.extract 13 b.size).size = k := by simp; omega
  have HR := hidIn (read_ok (b.extract 13 b.size) (by omega) (by omega))
  rw [hx] at HR
  generalize e1 : Wi.tk b 1 1 = T1 at *
  generalize e2 : Wi.tk b 2 4 = T2 at *
  generalize e3 : Wi.tk b 6 1 = T3 at *
  generalize e4 : Wi.tk b 7 1 = T4 at *
  generalize e5 : Wi.tk b 8 1 = T5 at *
  generalize e6 : Wi.tk b 9 4 = T6 at *
  generalize numTo (b.extract 13 b.size) k = X at *
  have HT := hidIn (And.intro e1 (And.intro e2 (And.intro e3 (And.intro e4 (And.intro e5 e6)))))
  clear e1 e2 e3 e4 e5 e6 hx
  have HS := hidIn hs
  clear hs
  go_enter Tryd.func33, Tryd.ntmps33
  go_wp2_with fail
  generalize hw : ((((w.alloc _).alloc _).alloc _).alloc _).alloc _ = V
  have hV : RdInv w V b 1 W 0 0 0 0 0 0 0 := by
    rw [← hw]
    refine ⟨⟨?_, ?_, ?_, ?_, ?_, ?_, ?_, ?_⟩, ?_, ?_, ?_⟩
    · simp [go_sem]
    · simp [go_sem]
    · simp [go_sem]
    · simp [go_sem]
    · simp [go_sem]
    · simp; omega
    · simp
    · simp
    · have h := (hasHd_zero (w.alloc (.cells #[.string b] 9)))
      simp only [World.size_alloc] at h
      exact h.keep (B := w.heap.size + 1 + 1) (by go_grown) (Nat.lt_succ_self _)
    · have h := hasHd_new ((((w.alloc (.cells #[.string b] 9)).alloc hob0).alloc (.cells #[.int .i64 1] 3)).alloc (.cells #[.int .i64 0] 28)) W 0 0 0 0 0 0 0
      simp only [World.size_alloc, hob, wd_zero] at h
      exact h
    · go_grown
  clear hw
  refine (rdnum1 1 1 2 T1 HT.out.1 rfl rfl hV hb (by have := HS.out; omega)).mono ?_
  rintro e V1 ⟨rfl, hV1⟩
  have c0 := hV1.h.c1
  have f0 := hV1.h.f1
  have hL1 := hV1.setS (T1 : Int)
  clear hV
  have hV := hidIn hL1
  clear hV1 hL1
  go_wp2_with fail
  generalize hw : World.setCell _ _ _ = U1 at hV
  clear hw c0 f0
  refine (rdnum4 2 2 6 T2 HT.out.2.1 rfl rfl hV.out hb (by have := HS.out; omega)).mono ?_
  rintro e V2 ⟨rfl, hV2⟩
  have c0 := hV2.h.c2
  have f0 := hV2.h.f2
  have hL2 := hV2.setE (T2 : Int)
  clear hV
  have hV := hidIn hL2
  clear hV2 hL2
  go_wp2_with fail
  generalize hw : World.setCell _ _ _ = U2 at hV
  clear hw c0 f0
  refine (rdnum1 6 6 7 T3 HT.out.2.2.1 rfl rfl hV.out hb (by have := HS.out; omega)).mono ?_
  rintro e V3 ⟨rfl, hV3⟩
  have c0 := hV3.h.c3
  have f0 := hV3.h.f3
  have hL3 := hV3.setH (T3 : Int)
  clear hV
  have hV := hidIn hL3
  clear hV3 hL3
  go_wp2_with fail
  generalize hw : World.setCell _ _ _ = U3 at hV
  clear hw c0 f0
  refine (rdnum1 7 7 8 T4 HT.out.2.2.2.1 rfl rfl hV.out hb (by have := HS.out; omega)).mono ?_
  rintro e V4 ⟨rfl, hV4⟩
  have c0 := hV4.h.c4
  have f0 := hV4.h.f4
  have hL4 := hV4.setO (T4 : Int)
  clear hV
  have hV := hidIn hL4
  clear hV4 hL4
  go_wp2_with fail
  generalize hw : World.setCell _ _ _ = U4 at hV
  clear hw c0 f0
  refine (rdnum1 8 8 9 T5 HT.out.2.2.2.2.1 rfl rfl hV.out hb (by have := HS.out; omega)).mono ?_
  rintro e V5 ⟨rfl, hV5⟩
  have c0 := hV5.h.c5
  have f0 := hV5.h.f5
  have hL5 := hV5.setG (T5 : Int)
  clear hV
  have hV := hidIn hL5
  clear hV5 hL5
  go_wp2_with fail
  generalize hw : World.setCell _ _ _ = U5 at hV
  clear hw c0 f0
  refine (rdnum4 9 9 13 T6 HT.out.2.2.2.2.2 rfl rfl hV.out hb (by have := HS.out; omega)).mono ?_
  rintro e V6 ⟨rfl, hV6⟩
  have c0 := hV6.h.c6
  have f0 := hV6.h.f6
  have hL6 := hV6.setI (T6 : Int)
  clear hV
  have hV := hidIn hL6
  clear hV6 hL6
  have hsb : (13 : Int) ≤ (b.size : Int) := by have := HS.out; omega
  have hcf := hV.out.r.f
  have hcs := hV.out.r.s
  have hca := hV.out.r.a
  go_wp2_with fail
  refine (HR.out _).mono ?_
  rintro e V7 ⟨rfl, hb7⟩
  have hV7 := hV.out.grow hb7
  obtain ⟨_, hZ, hH, hB7⟩ := hV7
  clear hV hcf hcs hca c0 f0 hb7 HT HR hT1 hT2 hT3 hT4 hT5 hT6 hsb hb
  have hz0 : w.heap.size ≤ w.heap.size + 1 := by omega
  have hz1 : w.heap.size ≤ w.heap.size + 1 + 1 + 1 + 1 := by omega
  have hz2 : w.heap.size + 1 + 1 + 1 + 1 ≠ w.heap.size + 1 := by omega
  generalize w.heap.size + 1 + 1 + 1 + 1 = hb at *
  generalize w.heap.size + 1 + 1 + 1 = fb at *
  generalize w.heap.size + 1 + 1 = ab at *
  generalize w.heap.size + 1 = zb at *
  have hBs := hasBs_new V7 X
  have hZ8 := hZ.keep ((Below.refl _ V7).alloc (Nat.le_refl _) (.cells #[.int .u64 (wd X 0), .int .u64 (wd X 1), .int .u64 (wd X 2), .int .u64 (wd X 3)] 25)) hZ.lt
  have hH8 := hH.keep ((Below.refl _ V7).alloc (Nat.le_refl _) (.cells #[.int .u64 (wd X 0), .int .u64 (wd X 1), .int .u64 (wd X 2), .int .u64 (wd X 3)] 25)) hH.lt
  have hB8 : Below w.heap.size w (V7.alloc (.cells #[.int .u64 (wd X 0), .int .u64 (wd X 1), .int .u64 (wd X 2), .int .u64 (wd X 3)] 25)) := hB7.alloc hB7.size _
  clear hZ hH hB7
  have H8 := hidIn (And.intro hBs (And.intro hZ8 (And.intro hH8 hB8)))
  clear hBs hZ8 hH8 hB8
  go_upto_region 13 with fail
  generalize V7.alloc _ = V8 at *
  generalize V7.heap.size = qb at *
  obtain ⟨hBs, hZ8, hH8, hB8⟩ := H8.out
  clear H8
  have hH9 := hidIn (hH8.setN X)
  have hZ9 := hidIn ((((hZ8.other hz2 7 (.int .u64 (wd X 0))).other hz2 8 (.int .u64 (wd X 1))).other hz2 9 (.int .u64 (wd X 2))).other hz2 10 (.int .u64 (wd X 3)))
  have hB9 := hidIn ((((hB8.setCell (p := ⟨hb, 7, none⟩) hz1 (.int .u64 (wd X 0))).setCell (p := ⟨hb, 8, none⟩) hz1 (.int .u64 (wd X 1))).setCell (p := ⟨hb, 9, none⟩) hz1 (.int .u64 (wd X 2))).setCell (p := ⟨hb, 10, none⟩) hz1 (.int .u64 (wd X 3)))
  have p0 := hBs.c0
  have p1 := hBs.c1
  have p2 := hBs.c2
  have p3 := hBs.c3
  have q0 := hH8.f7
  have q1 := hH8.f8
  have q2 := hH8.f9
  have q3 := hH8.fa
  have r0 := hH8.c7
  have r1 := hH8.c8
  have r2 := hH8.c9
  have r3 := hH8.ca
  clear hBs hZ8 hH8 hB8
  go_upto_region 16 with fail
  generalize World.setCell _ _ _ = V9 at hH9 hZ9 hB9 ⊢
  obtain ⟨c0, c1, c2, c3, c4, c5, c6, c7, c8, c9, ca, f0, f1, f2, f3, f4, f5, f6, f7, f8, f9, fa, lt⟩ := hH9.out
  obtain ⟨z0, z1, z2, z3, z4, z5, z6, z7, z8, z9, za, y0, y1, y2, y3, y4, y5, y6, y7, y8, y9, ya, ylt⟩ := hZ9.out
  clear hH9 hZ9 p0 p1 p2 p3 q0 q1 q2 q3 r0 r1 r2 r3 f0 f1 f2 f3 f4 f5 f6 f7 f8 f9 fa
  go_wp2
  refine bodyPost_ret (v := .tuple #[hd W T1 T2 T3 T4 T5 T6 X, .int .i64 0]) ?_ rfl ⟨rfl, below_putHd hB9.out hz0 _ _ _ _ _ _ _ _ _ _ _⟩
  simp [results, Tryd.results33, go_sem, *]
end Go.Proofs.YtgfmlonhjmdfjaaDoor
