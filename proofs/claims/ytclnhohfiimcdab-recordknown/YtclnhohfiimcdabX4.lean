/- taking, its closures; takeStamp, DecodeStamp. -/
import Derived.Test.YtclnhohfiimcdabX3
namespace Go.Proofs.Ytclnhohfiimcdab
open Go.RowKit

/-- What is taken, and how far. -/
structure TkM (V : World) (B : Nat) (b : ByteArray) (a : Nat) : Prop where
  s : V.heap[B]? = some (.cells #[.string b] 9)
  a : V.heap[B + 1]? = some (.cells #[.int .i64 (a : Int)] 3)
abbrev TkS (B : Nat) : Nat → Prop := fun k => k = B + 1
abbrev takeF (B : Nat) : Value := .func (.func 23) #[] #[.pointer (some ⟨B, 0, none⟩), .pointer (some ⟨B + 1, 0, none⟩)]
abbrev endF (B : Nat) : Value := .func (.func 25) #[] #[.pointer (some ⟨B + 1, 0, none⟩), .pointer (some ⟨B, 0, none⟩)]
theorem TkM.keep {V V' : World} {B a : Nat} {b : ByteArray} (h : TkM V B b a) (hb : Below V.heap.size V V') : TkM V' B b a := ⟨(hb.block _ (block_lt h.s)).trans h.s, (hb.block _ (block_lt h.a)).trans h.a⟩
theorem TkM.fr {V V' : World} {B a : Nat} {b : ByteArray} (h : TkM V B b a) (hf : Fr (fun k => k ≠ B ∧ k ≠ B + 1) V V') : TkM V' B b a := ⟨(hf.block _ (block_lt h.s) (by omega)).trans h.s, (hf.block _ (block_lt h.a) (by omega)).trans h.a⟩
theorem Fr.setNew {S : Nat → Prop} {a w : World} (h : Fr S a w) {p : Addr} (hp : a.heap.size ≤ p.block) (u : Value) : Fr S a (w.setCell p u) :=
  ⟨h.os, h.tape, h.output, by simpa [World.setCell] using h.size, fun k hk hs => (Below.heap_setCell _ _ _ _ (by omega)).trans (h.block k hk hs)⟩
theorem set3 {w : World} {b : Nat} {T : TypeId} {c0 c1 c2 : Value} (v0 v1 v2 : Value) (h : w.heap[b]? = some (.cells #[c0, c1, c2] T)) :
    (((w.setCell ⟨b, 0, none⟩ v0).setCell ⟨b, 1, none⟩ v1).setCell ⟨b, 2, none⟩ v2).heap[b]? = some (.cells #[v0, v1, v2] T) := by
  have h1 := heap_setCell_same _ b 2 _ T v2 (heap_setCell_same _ b 1 _ T v1 (heap_setCell_same w b 0 _ T v0 h))
  simpa using h1
set_option maxHeartbeats 1000000 in
theorem taking_any (b : ByteArray) (w : World) : Calls Try.prog 14 #[.string b] w fun e w' => e = .returned (.tuple #[takeF w.heap.size, endF w.heap.size]) ∧ TkM w' w.heap.size b 0 ∧ Below w.heap.size w w' := by
  go_enter Try.func14, Try.ntmps14
  go_wp2_with fail
  go_ret2
  refine ⟨rfl, ⟨?_, ?_⟩, by go_grown⟩
  · rw [Below.heap_alloc _ _ _ (by simp)]
    exact heap_alloc_last w _
  · have := heap_alloc_last (w.alloc (.cells #[.string b] 9)) (.cells #[.int .i64 0] 3)
    rw [World.size_alloc] at this
    exact this
theorem wtake_any (b : ByteArray) (a n : Nat) (hb : b.size ≤ maxLen) (hn : n = 1 ∨ n = 2 ∨ n = 4) (w : World) :
    ∃ c : Int, Calls Try.prog 24 #[.string b, .int .i64 a, .int .i64 n] w fun e w' => e = .returned (.tuple #[.int .u64 (tkz b a n : Nat), .int .i64 c]) ∧ w' = w := by
  unfold tkz
  by_cases h : a + n ≤ b.size
  · rw [if_pos h]
    exact ⟨0, Wi.take_ok b a n hb (by omega) h w⟩
  · rw [if_neg h]
    exact ⟨4, Wi.take_form b a n hb (by omega) (by omega) w⟩
set_option maxHeartbeats 1000000 in
theorem take_any {V : World} {B a : Nat} {b : ByteArray} (h : TkM V B b a) (n : Nat) (hb : b.size ≤ maxLen) (ha : a ≤ 1000000) (hn : n = 1 ∨ n = 2 ∨ n = 4) :
    Calls Try.prog 23 #[.int .i64 n, .pointer (some ⟨B, 0, none⟩), .pointer (some ⟨B + 1, 0, none⟩)] V fun e V' => e = .returned (.int .u64 (tkz b a n : Nat)) ∧ TkM V' B b (a + n) ∧ Fr (TkS B) V V' := by
  obtain ⟨c, hc⟩ := wtake_any b a n hb hn V
  have HW := hidIn hc
  have c0 := cell_of_row _ _ 0 _ _ _ h.s
  have c1 := cell_of_row _ _ 0 _ _ _ h.a
  simp at c0 c1
  have f1 := frozen_new h.a 0
  have Hh := hidIn h
  have hn4 : n ≤ 4 := by omega
  have Hn := hidIn hn
  obtain ⟨T, hT⟩ : ∃ T, tkz b a n = T := ⟨_, rfl⟩
  rw [hT] at HW ⊢
  have hsum : IntKind.i64.wrap ((a : Int) + (n : Int)) = ((a + n : Nat) : Int) := by rw [IntKind.wrap_i64]; omega
  clear hc hn h hb hT
  go_enter Try.func23, Try.ntmps23
  go_wp2_with fail
  refine HW.out.mono ?_
  rintro e w2 ⟨rfl, hw2⟩
  rw [hw2]
  clear hw2 w2 HW
  go_wp2_with fail
  go_returns
  refine ⟨rfl, ⟨?_, ?_⟩, (Fr.refl (TkS B) V).set (p := ⟨B + 1, 0, none⟩) rfl _⟩
  · exact (Below.heap_setCell _ _ _ _ (by show B ≠ B + 1; omega)).trans Hh.out.s
  · have := heap_setCell_same V (B + 1) 0 _ _ (.int .i64 ((a + n : Nat) : Int)) Hh.out.a
    simpa using this
set_option maxHeartbeats 1000000 in
theorem atEnd_any {V : World} {B a : Nat} {b : ByteArray} (h : TkM V B b a) :
    Calls Try.prog 25 #[.pointer (some ⟨B + 1, 0, none⟩), .pointer (some ⟨B, 0, none⟩)] V fun e V' => e = .returned (.bool (decide (a = b.size))) ∧ V' = V := by
  have c0 := cell_of_row _ _ 0 _ _ _ h.s
  have c1 := cell_of_row _ _ 0 _ _ _ h.a
  simp at c0 c1
  clear h
  have hd : ((a : Int) == (b.size : Int)) = decide (a = b.size) := by
    by_cases h : a = b.size
    · simp [h]
    · have : ¬ ((a : Int) = (b.size : Int)) := by omega
      rw [decide_eq_false h]
      simpa using this
  go_enter Try.func25, Try.ntmps25
  go_wp2_with fail
  go_ret
  exact ⟨by simp, rfl⟩
set_option maxRecDepth 100000 in
set_option maxHeartbeats 1000000 in
theorem takeStamp_any {V : World} {B : Nat} {b : ByteArray} (h : TkM V B b 0) (hb : b.size ≤ maxLen) :
    Calls Try.prog 15 #[takeF B] V fun e V' => e = .returned (stV (tkz b 0 1 : Nat) (tkz b 1 4 : Nat) (tkz b 5 4 : Nat)) ∧ TkM V' B b 9 ∧ Fr (TkS B) V V' := by
  obtain ⟨V1, hV1⟩ : ∃ V1, V.alloc (stO 0 0 0) = V1 := ⟨_, rfl⟩
  have b1 : Below V.heap.size V V1 := by rw [← hV1]; exact (Below.refl _ V).alloc (Nat.le_refl _) _
  have hX : V1.heap[V.heap.size]? = some (stO 0 0 0) := by rw [← hV1]; exact heap_alloc_last V _
  have H1 := hidIn (h.keep b1)
  have hBV : B + 1 < V.heap.size := block_lt h.a
  obtain ⟨X, hXe⟩ : ∃ X, V.heap.size = X := ⟨_, rfl⟩
  have HF1 : Hid (Fr (TkS B) V V1) := hidIn (Fr.of_below b1)
  rw [hXe] at hX hBV
  have Hbx : Hid (V.heap.size ≤ X) := hidIn (by omega)
  have HW := hidIn hV1
  have HX := hidIn hX
  have HXe := hidIn hXe
  have Hb := hidIn hb
  have t0 := tkz_lt b 0 1
  have t1 := tkz_lt b 1 4
  have t2 := tkz_lt b 5 4
  obtain ⟨T0, hT0⟩ : ∃ T, tkz b 0 1 = T := ⟨_, rfl⟩
  obtain ⟨T1, hT1⟩ : ∃ T, tkz b 1 4 = T := ⟨_, rfl⟩
  obtain ⟨T2, hT2⟩ : ∃ T, tkz b 5 4 = T := ⟨_, rfl⟩
  rw [hT0] at t0 ⊢
  rw [hT1] at t1 ⊢
  rw [hT2] at t2 ⊢
  simp at t0 t1 t2
  have HT0 := hidIn hT0
  have HT1 := hidIn hT1
  have HT2 := hidIn hT2
  clear hV1 b1 h hX hXe hb hT0 hT1 hT2
  go_enter Try.func15, Try.ntmps15
  go_upto_region 1 with fail
  rw [HW.out, HXe.out]
  clear HW HXe
  go_wp2_with fail
  refine (take_any H1.out 1 Hb.out (by omega) (.inl rfl)).mono ?_
  rintro e w2 ⟨rfl, h2, hf2⟩
  rw [HT0.out]
  have H2 := hidIn h2
  have HF2 := hidIn hf2
  clear h2 hf2 H1
  go_wp2_with fail
  refine (take_any H2.out 4 Hb.out (by omega) (.inr (.inr rfl))).mono ?_
  rintro e w3 ⟨rfl, h3, hf3⟩
  rw [HT1.out]
  have H3 := hidIn h3
  have HF3 := hidIn (HF2.out.trans hf3)
  clear h3 hf3 H2 HF2
  go_wp2_with fail
  refine (take_any H3.out 4 Hb.out (by omega) (.inr (.inr rfl))).mono ?_
  rintro e w4 ⟨rfl, h4, hf4⟩
  rw [HT2.out]
  have hf4' := HF3.out.trans hf4
  have hX4 := (hf4'.block X (block_lt HX.out) (by unfold TkS; omega)).trans HX.out
  have H4 := hidIn h4
  have HF4 := hidIn (HF1.out.trans hf4')
  have HX4 := hidIn hX4
  have g0 := frozen_new hX4 0
  have g1 := frozen_new hX4 1
  have g2 := frozen_new hX4 2
  have x0 := cell_of_row _ _ 0 _ _ _ hX4
  have x1 := cell_of_row _ _ 1 _ _ _ hX4
  have x2 := cell_of_row _ _ 2 _ _ _ hX4
  simp at x0 x1 x2
  clear h4 hf4 H3 HF3 hf4' hX4 HX
  have hbx : V.heap.size ≤ X := Hbx.out
  go_wp2_with fail
  have hV := set3 (.int .i64 (T0 : Int)) (.int .u32 (T1 : Int)) (.int .u32 (T2 : Int)) HX4.out
  have HFV := hidIn (((HF4.out.setNew (p := ⟨X, 0, none⟩) hbx (.int .i64 (T0 : Int))).setNew (p := ⟨X, 1, none⟩) hbx (.int .u32 (T1 : Int))).setNew (p := ⟨X, 2, none⟩) hbx (.int .u32 (T2 : Int)))
  have hS : Fr (fun k => k ≠ B ∧ k ≠ B + 1) w4 (((w4.setCell ⟨X, 0, none⟩ (.int .i64 (T0 : Int))).setCell ⟨X, 1, none⟩ (.int .u32 (T1 : Int))).setCell ⟨X, 2, none⟩ (.int .u32 (T2 : Int))) := (((Fr.refl (fun k => k ≠ B ∧ k ≠ B + 1) w4).set (p := ⟨X, 0, none⟩) (by show X ≠ B ∧ X ≠ B + 1; omega) _).set (p := ⟨X, 1, none⟩) (by show X ≠ B ∧ X ≠ B + 1; omega) _).set (p := ⟨X, 2, none⟩) (by show X ≠ B ∧ X ≠ B + 1; omega) _
  have HT := hidIn (H4.out.fr hS)
  generalize ((w4.setCell _ _).setCell _ _).setCell _ _ = W at hV HFV HT ⊢
  clear x0 x1 x2 g0 g1 g2 hS
  have e0 := cell_of_row _ _ 0 _ _ _ hV
  have e1 := cell_of_row _ _ 1 _ _ _ hV
  have e2 := cell_of_row _ _ 2 _ _ _ hV
  simp at e0 e1 e2
  exact bodyPost_ret (v := stV (T0 : Int) (T1 : Int) (T2 : Int)) (by simp [results, Try.results15, asAddr, Result.andThen, go_sem, e0, e1, e2]) rfl ⟨rfl, HT.out, HFV.out⟩
/-- What DecodeStamp answers. -/
def dsA (b : ByteArray) : (Int × Int × Int) × Int := if stOk b then (((tkz b 0 1 : Nat), (tkz b 1 4 : Nat), (tkz b 5 4 : Nat)), 0) else ((0, 0, 0), 4)
set_option maxRecDepth 100000 in
set_option maxHeartbeats 1000000 in
theorem decSt_any (b : ByteArray) (hb : b.size ≤ maxLen) (w : World) :
    Calls Try.prog 10 #[.string b] w fun e w' => e = .returned (.tuple #[stV (dsA b).1.1 (dsA b).1.2.1 (dsA b).1.2.2, .int .i64 (dsA b).2]) ∧ Below w.heap.size w w' := by
  obtain ⟨V1, hV1⟩ : ∃ V1, w.alloc (stO 0 0 0) = V1 := ⟨_, rfl⟩
  have b1 : Below w.heap.size w V1 := by rw [← hV1]; exact (Below.refl _ w).alloc (Nat.le_refl _) _
  have hX : V1.heap[w.heap.size]? = some (stO 0 0 0) := by rw [← hV1]; exact heap_alloc_last w _
  have HX := hidIn hX
  have HB := hidIn b1
  have HW := hidIn hV1
  have Hb := hidIn hb
  obtain ⟨res, hres⟩ : ∃ res, dsA b = res := ⟨_, rfl⟩
  rw [hres]
  have Hres := hidIn hres
  clear hV1 b1 hX hb hres
  go_enter Try.func10, Try.ntmps10
  go_upto_region 1 with fail
  rw [HW.out]
  clear HW
  go_wp2_with fail
  refine (taking_any b _).mono ?_
  rintro e w2 ⟨rfl, h2, hb2⟩
  have hX2 := (hb2.block _ (block_lt HX.out)).trans HX.out
  obtain ⟨B, hB⟩ : ∃ B, V1.heap.size = B := ⟨_, rfl⟩
  have hBl : w.heap.size < B := by rw [← hB]; exact block_lt HX.out
  rw [hB] at h2 ⊢
  have H2 := hidIn h2
  have HX2 := hidIn hX2
  have HB2 := hidIn (HB.out.trans (hb2.mono HB.out.size))
  clear h2 hX2 hb2 hB HX HB
  go_wp2_with fail
  refine (takeStamp_any H2.out Hb.out).mono ?_
  rintro e w3 ⟨rfl, h3, hf3⟩
  have hX3 := (hf3.block _ (block_lt HX2.out) (by unfold TkS; omega)).trans HX2.out
  have HB3 := hidIn (HB2.out.trans (hf3.below HB2.out.size (fun k hk => by unfold TkS at hk; omega)))
  obtain ⟨T0, hT0⟩ : ∃ T, tkz b 0 1 = T := ⟨_, rfl⟩
  obtain ⟨T1, hT1⟩ : ∃ T, tkz b 1 4 = T := ⟨_, rfl⟩
  obtain ⟨T2, hT2⟩ : ∃ T, tkz b 5 4 = T := ⟨_, rfl⟩
  have hok : stOk b = (decide (9 = b.size) && mayS (T0 : Int) (T1 : Int) (T2 : Int)) := by unfold stOk; rw [hT0, hT1, hT2]
  have HA : Hid (res = if stOk b then (((T0 : Int), (T1 : Int), (T2 : Int)), 0) else ((0, 0, 0), 4)) := hidIn (by rw [← Hres.out]; unfold dsA; rw [hT0, hT1, hT2])
  rw [hT0, hT1, hT2]
  obtain ⟨W, hW⟩ : ∃ W, w3.alloc (stO (T0 : Int) (T1 : Int) (T2 : Int)) = W := ⟨_, rfl⟩
  have bW : Below w3.heap.size w3 W := by rw [← hW]; exact (Below.refl _ w3).alloc (Nat.le_refl _) _
  have hS : W.heap[w3.heap.size]? = some (stO (T0 : Int) (T1 : Int) (T2 : Int)) := by rw [← hW]; exact heap_alloc_last w3 _
  have HTk := hidIn (h3.keep bW)
  have hXW := (bW.block _ (block_lt hX3)).trans hX3
  have HXW := hidIn hXW
  have HSW := hidIn hS
  have HBW := hidIn (HB3.out.trans (bW.mono HB3.out.size))
  have hlt3 : w.heap.size < w3.heap.size := block_lt hX3
  obtain ⟨sb, hsb⟩ : ∃ sb, w3.heap.size = sb := ⟨_, rfl⟩
  rw [hsb] at HSW hlt3
  have HWd := hidIn hW
  have Hsb := hidIn hsb
  have Hok := hidIn hok
  have HE : Hid (Calls Try.prog 25 #[.pointer (some ⟨B + 1, 0, none⟩), .pointer (some ⟨B, 0, none⟩)] W fun e V' => e = .returned (.bool (decide (9 = b.size))) ∧ V' = W) := hidIn (atEnd_any HTk.out)
  clear h3 hf3 hX3 HB3 HX2 HB2 H2 hT0 hT1 hT2 hok hW bW hS hXW hsb
  go_upto_region 3 with fail
  rw [HWd.out, Hsb.out]
  clear HWd Hsb
  obtain ⟨d1, hd1⟩ : ∃ d1, decide (9 = b.size) = d1 := ⟨_, rfl⟩
  rw [hd1] at HE Hok
  clear hd1
  have s0 := cell_of_row _ _ 0 _ _ _ HSW.out
  have s1 := cell_of_row _ _ 1 _ _ _ HSW.out
  have s2 := cell_of_row _ _ 2 _ _ _ HSW.out
  have y0 := cell_of_row _ _ 0 _ _ _ HXW.out
  have y1 := cell_of_row _ _ 1 _ _ _ HXW.out
  have y2 := cell_of_row _ _ 2 _ _ _ HXW.out
  have g0 := frozen_new HXW.out 0
  have g1 := frozen_new HXW.out 1
  have g2 := frozen_new HXW.out 2
  simp at s0 s1 s2 y0 y1 y2
  go_wp2_with fail
  refine HE.out.mono ?_
  rintro e w5 ⟨rfl, hw5⟩
  rw [hw5]
  clear hw5 w5 HE
  cases d1
  · go_wp2_with fail
    have hV := set3 (.int .i64 0) (.int .u32 0) (.int .u32 0) HXW.out
    have HBV := hidIn (((HBW.out.setCell (p := ⟨w.heap.size, 0, none⟩) (Nat.le_refl _) (.int .i64 0)).setCell (p := ⟨w.heap.size, 1, none⟩) (Nat.le_refl _) (.int .u32 0)).setCell (p := ⟨w.heap.size, 2, none⟩) (Nat.le_refl _) (.int .u32 0))
    generalize ((World.setCell _ _ _).setCell _ _).setCell _ _ = Z at hV HBV ⊢
    clear y0 y1 y2 g0 g1 g2
    have e0 := cell_of_row _ _ 0 _ _ _ hV
    have e1 := cell_of_row _ _ 1 _ _ _ hV
    have e2 := cell_of_row _ _ 2 _ _ _ hV
    simp at e0 e1 e2
    have hr := HA.out
    rw [Hok.out] at hr
    simp at hr
    exact bodyPost_ret (v := .tuple #[stV 0 0 0, .int .i64 4]) (by simp [results, Try.results10, asAddr, Result.andThen, go_sem, e0, e1, e2]) rfl ⟨by rw [hr], HBV.out⟩
  go_wp2_with fail
  refine (mayS_any _ _ _ _).mono ?_
  rintro e w6 ⟨rfl, hb6⟩
  have hX6 := (hb6.block _ (block_lt HXW.out)).trans HXW.out
  have hS6 := (hb6.block _ (block_lt HSW.out)).trans HSW.out
  have HB6 := hidIn (HBW.out.trans (hb6.mono HBW.out.size))
  clear hb6 s0 s1 s2 y0 y1 y2 g0 g1 g2 HXW HSW HTk HBW
  obtain ⟨d2, hd2⟩ : ∃ d2, mayS (T0 : Int) (T1 : Int) (T2 : Int) = d2 := ⟨_, rfl⟩
  rw [hd2] at Hok ⊢
  clear hd2
  have HXW := hidIn hX6
  have HBW := HB6
  have s0 := cell_of_row _ _ 0 _ _ _ hS6
  have s1 := cell_of_row _ _ 1 _ _ _ hS6
  have s2 := cell_of_row _ _ 2 _ _ _ hS6
  have y0 := cell_of_row _ _ 0 _ _ _ hX6
  have y1 := cell_of_row _ _ 1 _ _ _ hX6
  have y2 := cell_of_row _ _ 2 _ _ _ hX6
  have g0 := frozen_new hX6 0
  have g1 := frozen_new hX6 1
  have g2 := frozen_new hX6 2
  simp at s0 s1 s2 y0 y1 y2
  clear hX6 hS6
  cases d2
  · go_wp2_with fail
    have hV := set3 (.int .i64 0) (.int .u32 0) (.int .u32 0) HXW.out
    have HBV := hidIn (((HBW.out.setCell (p := ⟨w.heap.size, 0, none⟩) (Nat.le_refl _) (.int .i64 0)).setCell (p := ⟨w.heap.size, 1, none⟩) (Nat.le_refl _) (.int .u32 0)).setCell (p := ⟨w.heap.size, 2, none⟩) (Nat.le_refl _) (.int .u32 0))
    generalize ((World.setCell _ _ _).setCell _ _).setCell _ _ = Z at hV HBV ⊢
    clear y0 y1 y2 g0 g1 g2
    have e0 := cell_of_row _ _ 0 _ _ _ hV
    have e1 := cell_of_row _ _ 1 _ _ _ hV
    have e2 := cell_of_row _ _ 2 _ _ _ hV
    simp at e0 e1 e2
    have hr := HA.out
    rw [Hok.out] at hr
    simp at hr
    exact bodyPost_ret (v := .tuple #[stV 0 0 0, .int .i64 4]) (by simp [results, Try.results10, asAddr, Result.andThen, go_sem, e0, e1, e2]) rfl ⟨by rw [hr], HBV.out⟩
  · go_wp2_with fail
    have hV := set3 (.int .i64 (T0 : Int)) (.int .u32 (T1 : Int)) (.int .u32 (T2 : Int)) HXW.out
    have HBV := hidIn (((HBW.out.setCell (p := ⟨w.heap.size, 0, none⟩) (Nat.le_refl _) (.int .i64 (T0 : Int))).setCell (p := ⟨w.heap.size, 1, none⟩) (Nat.le_refl _) (.int .u32 (T1 : Int))).setCell (p := ⟨w.heap.size, 2, none⟩) (Nat.le_refl _) (.int .u32 (T2 : Int)))
    generalize ((World.setCell _ _ _).setCell _ _).setCell _ _ = Z at hV HBV ⊢
    clear y0 y1 y2 g0 g1 g2
    have e0 := cell_of_row _ _ 0 _ _ _ hV
    have e1 := cell_of_row _ _ 1 _ _ _ hV
    have e2 := cell_of_row _ _ 2 _ _ _ hV
    simp at e0 e1 e2
    have hr := HA.out
    rw [Hok.out] at hr
    simp at hr
    exact bodyPost_ret (v := .tuple #[stV (T0 : Int) (T1 : Int) (T2 : Int), .int .i64 0]) (by simp [results, Try.results10, asAddr, Result.andThen, go_sem, e0, e1, e2]) rfl ⟨by rw [hr], HBV.out⟩
end Go.Proofs.Ytclnhohfiimcdab
