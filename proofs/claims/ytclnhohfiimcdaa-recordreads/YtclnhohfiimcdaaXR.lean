/- RecordReads. -/
import Derived.Test.YtclnhohfiimcdaaXG
import Derived.Test.YtclnhohfiimcdaaXS
namespace Go.Proofs.Ytclnhohfiimcdaa
open Go.RowKit

theorem row_writeA {w : World} {base n cap sz : Nat} {a : Option Addr} {e : TypeId} {xs : List Value} (hr : w.ownsRow base e sz (.slice a n cap) n xs) (h0 : 0 < n) : ∃ g, a = some ⟨g, 0, none⟩ ∧ base ≤ g ∧ g < w.heap.size ∧ (∀ j, j < n * sz → ∃ v, w.cell? ⟨g, j, none⟩ = some v) ∧ (∀ j, w.frozen? ⟨g, j, none⟩ = false) := by
  rcases hr.2 with ⟨_, h⟩ | ⟨g, cap', cur, h, hb, hh, h1, _, h3, _⟩
  · omega
  · simp at h
    obtain ⟨rfl, rfl⟩ := h
    refine ⟨g, rfl, hb, block_lt hh, fun j hj => ?_, fun j => frozen_new hh j⟩
    have : n * sz ≤ cap * sz := Nat.mul_le_mul_right _ h1
    rw [cell_of_row w g j cur e _ hh]
    exact ⟨cur[j]'(by omega), Array.getElem?_eq_getElem _⟩
/-- While the law writes over what was read: both records; the first one's row is its own. -/
structure RdM (w V : World) (xb yb : Nat) (r : Rc) (va vb : Value) (n : Nat) : Prop where
  x : V.heap[xb]? = some (recO r va)
  y : V.heap[yb]? = some (recO r vb)
  row : ∃ xs, V.ownsRow w.heap.size 36 2 va n xs
  s : V.ownsRow xb 36 2 vb n (fl ac r.adjs)
  u : ∀ j, va.ownBlock = some j → j < xb
  b : Below w.heap.size w V
  l : xb < yb
theorem RdM.keep {w V V' : World} {xb yb n : Nat} {r : Rc} {va vb : Value} (h : RdM w V xb yb r va vb n) (hb : Below V.heap.size V V') : RdM w V' xb yb r va vb n :=
  ⟨(hb.block _ (block_lt h.x)).trans h.x, (hb.block _ (block_lt h.y)).trans h.y, h.row.elim fun xs hr => ⟨xs, row_below hr hb (Nat.le_refl _)⟩, row_below h.s hb (Nat.le_refl _), h.u, h.b.trans (hb.mono h.b.size), h.l⟩
theorem RdM.set {w V : World} {xb yb n g cap : Nat} {r : Rc} {vb : Value} (h : RdM w V xb yb r (.slice (some ⟨g, 0, none⟩) n cap) vb n) (hg : w.heap.size ≤ g) (j : Nat) (z : Value) : RdM w (V.setCell ⟨g, j, none⟩ z) xb yb r (.slice (some ⟨g, 0, none⟩) n cap) vb n := by
  have hu := h.u g rfl
  have hl := h.l
  have hF := (Fr.refl (fun k => k = g) V).set (p := ⟨g, j, none⟩) rfl z
  refine ⟨(hF.block _ (block_lt h.x) (by omega)).trans h.x, (hF.block _ (block_lt h.y) (by omega)).trans h.y, h.row.elim fun xs hr => ⟨_, row_set hr j z⟩, row_fr h.s hF (fun i hi e => by have := (h.s.lt i hi).1; omega), h.u, h.b.setCell (p := ⟨g, j, none⟩) hg z, h.l⟩
set_option maxRecDepth 100000 in
set_option maxHeartbeats 2000000 in
theorem recordReads_walk (b : ByteArray) (hb : b.size ≤ maxLen) (w : World) :
    Calls Try.prog 4 #[.string b] w fun e w' => e = .returned (.bool true) ∧ Below w.heap.size w w' := by
  have HD := hidIn (fun w1 => decode_any b hb w1)
  have HDD := hidIn (fun w1 => ddecode_any b hb w1)
  obtain ⟨⟨⟨O, E, Q, C, I, L⟩, cd⟩, hde⟩ : ∃ p, deA b = p := ⟨_, rfl⟩
  rw [hde] at HD HDD
  have HSm := hidIn (fun w1 va vb (ha : SlAt ac 2 w1 va L) (hb : SlAt ac 2 w1 vb L) => dsame_any (r := ⟨O, E, Q, C, I, L⟩) (s := ⟨O, E, Q, C, I, L⟩) ha hb)
  rw [sameB_self] at HSm
  simp only at HD HDD HSm
  obtain ⟨n, hln⟩ : ∃ n, L.length = n := ⟨_, rfl⟩
  rw [hln] at HD HDD
  have Hln := hidIn hln
  clear hde hln hb
  have hcc : (cd != cd) = false := by simp
  have hce : (cd == cd) = true := by simp
  go_enter Try.func4, Try.ntmps4
  go_wp2_with fail
  refine (HD.out _).mono ?_
  rintro e w2 ⟨⟨va, rfl, hrow⟩, hb2⟩
  obtain ⟨aa, acap, rfl⟩ := row_shape hrow
  obtain ⟨V2, hV2⟩ : ∃ V2, w2.alloc (recO ⟨O, E, Q, C, I, L⟩ (.slice aa n acap)) = V2 := ⟨_, rfl⟩
  have bV : Below w2.heap.size w2 V2 := by rw [← hV2]; exact (Below.refl _ w2).alloc (Nat.le_refl _) _
  have hX : V2.heap[w2.heap.size]? = some (recO ⟨O, E, Q, C, I, L⟩ (.slice aa n acap)) := by rw [← hV2]; exact heap_alloc_last w2 _
  have HU : Hid (∀ j, (Value.slice aa n acap).ownBlock = some j → j < w2.heap.size) := hidIn fun j hj => (hrow.lt j hj).2
  have Hrow := hidIn (row_below hrow bV (Nat.le_refl _))
  have HBV := hidIn (hb2.trans (bV.mono hb2.size))
  have HX := hidIn hX
  have HW2 := hidIn hV2
  obtain ⟨xb, hxb⟩ : ∃ xb, w2.heap.size = xb := ⟨_, rfl⟩
  rw [hxb] at HU HX
  have Hxb := hidIn hxb
  clear hrow hb2 hV2 bV hX hxb
  simp only
  go_upto_region 2 with fail
  rw [show w2.alloc _ = V2 from HW2.out, Hxb.out]
  clear HW2 Hxb
  go_wp2_with fail
  refine (HDD.out _).mono ?_
  rintro e w3 ⟨⟨vb, rfl, hrow3⟩, hb3⟩
  obtain ⟨ba, bcap, rfl⟩ := row_shape hrow3
  obtain ⟨V3, hV3⟩ : ∃ V3, w3.alloc (recO ⟨O, E, Q, C, I, L⟩ (.slice ba n bcap)) = V3 := ⟨_, rfl⟩
  have bV : Below w3.heap.size w3 V3 := by rw [← hV3]; exact (Below.refl _ w3).alloc (Nat.le_refl _) _
  have hY : V3.heap[w3.heap.size]? = some (recO ⟨O, E, Q, C, I, L⟩ (.slice ba n bcap)) := by rw [← hV3]; exact heap_alloc_last w3 _
  have b3 := hb3.trans (bV.mono hb3.size)
  have hxl := block_lt HX.out
  have hRA := row_below Hrow.out b3 (Nat.le_refl _)
  have HM : Hid (RdM w V3 xb w3.heap.size ⟨O, E, Q, C, I, L⟩ (.slice aa n acap) (.slice ba n bcap) n) := hidIn ⟨(b3.block _ hxl).trans HX.out, hY, ⟨_, hRA⟩, row_low (row_below hrow3 bV (Nat.le_refl _)) (by omega), HU.out, HBV.out.trans (b3.mono HBV.out.size), Nat.lt_of_lt_of_le hxl hb3.size⟩
  have HSA := hidIn (slAt_of_row (cs := ac) (sz := 2) (fun _ => rfl) hRA Hln.out)
  have hnb := HSA.out.ads.choose_spec.choose_spec.2.1
  rw [Hln.out] at hnb
  have HW3 := hidIn hV3
  obtain ⟨yb, hyb⟩ : ∃ yb, w3.heap.size = yb := ⟨_, rfl⟩
  rw [hyb] at HM
  have Hyb := hidIn hyb
  have HS1 := hidIn (HSm.out V3 _ _ HSA.out (slAt_of_row (cs := ac) (sz := 2) (fun _ => rfl) HM.out.s Hln.out))
  clear hrow3 hb3 hV3 bV hY b3 hxl hRA hyb HSA HU Hrow HX HBV HDD
  have x0 := cell_of_row _ _ 0 _ _ _ HM.out.x
  have x1 := cell_of_row _ _ 1 _ _ _ HM.out.x
  have x2 := cell_of_row _ _ 2 _ _ _ HM.out.x
  have x3 := cell_of_row _ _ 3 _ _ _ HM.out.x
  have x4 := cell_of_row _ _ 4 _ _ _ HM.out.x
  have x5 := cell_of_row _ _ 5 _ _ _ HM.out.x
  have y0 := cell_of_row _ _ 0 _ _ _ HM.out.y
  have y1 := cell_of_row _ _ 1 _ _ _ HM.out.y
  have y2 := cell_of_row _ _ 2 _ _ _ HM.out.y
  have y3 := cell_of_row _ _ 3 _ _ _ HM.out.y
  have y4 := cell_of_row _ _ 4 _ _ _ HM.out.y
  have y5 := cell_of_row _ _ 5 _ _ _ HM.out.y
  simp at x0 x1 x2 x3 x4 x5 y0 y1 y2 y3 y4 y5
  simp only
  go_upto_region 3 with fail
  rw [show w3.alloc _ = V3 from HW3.out, Hyb.out]
  clear HW3 Hyb
  go_wp2_with fail
  refine HS1.out.mono ?_
  rintro e w4 ⟨rfl, hb4⟩
  have HM4 := hidIn (HM.out.keep hb4)
  clear hb4 HM HS1 x0 x1 x2 x3 x4 x5 y0 y1 y2 y3 y4 y5
  go_wp2_with fail
  go_loopw [7] (fun i wr => ∃ k : Nat, k ≤ n ∧ i = .int .i64 k ∧ Hid (RdM w wr xb yb ⟨O, E, Q, C, I, L⟩ (.slice aa n acap) (.slice ba n bcap) n)) (fun i _ => n - (intOf i).toNat)
  case atStart => exact ⟨0, Nat.zero_le _, rfl, HM4⟩
  case round =>
    clear HM4
    obtain ⟨k, hk, rfl, HM⟩ := hrel
    have x5 := cell_of_row _ _ 5 _ _ _ HM.out.x
    simp at x5
    by_cases hlt : k < n
    · obtain ⟨xs, hr⟩ := HM.out.row
      obtain ⟨g, rfl, hgb, hgl, hgc, hgf⟩ := row_writeA hr (by omega)
      obtain ⟨v0, c0⟩ := hgc (k * 2) (by omega)
      obtain ⟨v1, c1⟩ := hgc (k * 2 + 1) (by omega)
      have q0 := hgf (k * 2)
      have q1 := hgf (k * 2 + 1)
      have hki : (k : Int) < (n : Int) := by omega
      have HM2 := hidIn ((HM.out.set hgb (k * 2) (.int .i64 0)).set hgb (k * 2 + 1) (.int .i64 0))
      clear hr hgc hgf
      go_wp2_with fail
      go_roundw
      case rel => exact ⟨k + 1, by omega, by go_num, hidIn HM2.out⟩
      case measure => simp [intOf]; omega
    · have hki : ¬ ((k : Int) < (n : Int)) := by omega
      go_wp2_with fail
      refine (HD.out _).mono ?_
      rintro e w5 ⟨⟨vc, rfl, hrow⟩, hb5⟩
      obtain ⟨ca, ccap, rfl⟩ := row_shape hrow
      obtain ⟨V5, hV5⟩ : ∃ V5, w5.alloc (recO ⟨O, E, Q, C, I, L⟩ (.slice ca n ccap)) = V5 := ⟨_, rfl⟩
      have bV : Below w5.heap.size w5 V5 := by rw [← hV5]; exact (Below.refl _ w5).alloc (Nat.le_refl _) _
      have hZ : V5.heap[w5.heap.size]? = some (recO ⟨O, E, Q, C, I, L⟩ (.slice ca n ccap)) := by rw [← hV5]; exact heap_alloc_last w5 _
      have HM5 := hidIn (HM.out.keep (hb5.trans (bV.mono hb5.size)))
      have HS5 := hidIn (HSm.out V5 _ _ (slAt_of_row (cs := ac) (sz := 2) (fun _ => rfl) (row_below hrow bV (Nat.le_refl _)) Hln.out) (slAt_of_row (cs := ac) (sz := 2) (fun _ => rfl) HM5.out.s Hln.out))
      have HW5 := hidIn hV5
      obtain ⟨zb, hzb⟩ : ∃ zb, w5.heap.size = zb := ⟨_, rfl⟩
      rw [hzb] at hZ
      have Hzb := hidIn hzb
      have z0 := cell_of_row _ _ 0 _ _ _ hZ
      have z1 := cell_of_row _ _ 1 _ _ _ hZ
      have z2 := cell_of_row _ _ 2 _ _ _ hZ
      have z3 := cell_of_row _ _ 3 _ _ _ hZ
      have z4 := cell_of_row _ _ 4 _ _ _ hZ
      have z5 := cell_of_row _ _ 5 _ _ _ hZ
      have y0 := cell_of_row _ _ 0 _ _ _ HM5.out.y
      have y1 := cell_of_row _ _ 1 _ _ _ HM5.out.y
      have y2 := cell_of_row _ _ 2 _ _ _ HM5.out.y
      have y3 := cell_of_row _ _ 3 _ _ _ HM5.out.y
      have y4 := cell_of_row _ _ 4 _ _ _ HM5.out.y
      have y5 := cell_of_row _ _ 5 _ _ _ HM5.out.y
      simp at z0 z1 z2 z3 z4 z5 y0 y1 y2 y3 y4 y5
      clear hrow hb5 hV5 bV hZ hzb HM x5
      simp only
      go_upto_region 10 with fail
      rw [show w5.alloc _ = V5 from HW5.out, Hzb.out]
      clear HW5 Hzb
      go_wp2_with fail
      refine HS5.out.mono ?_
      rintro e w6 ⟨rfl, hb6⟩
      have HM6 := hidIn (HM5.out.keep hb6)
      clear hb6 HS5 HM5 z0 z1 z2 z3 z4 z5 y0 y1 y2 y3 y4 y5
      go_wp2_with fail
      refine (rworks_any _).mono ?_
      rintro e w7 ⟨rfl, hb7⟩
      have HM7 := hidIn (HM6.out.keep hb7)
      clear hb7 HM6
      go_wp2_with fail
      go_ret
      exact ⟨rfl, HM7.out.b⟩
end Go.Proofs.Ytclnhohfiimcdaa
