/- record.Decode. -/
import Derived.Test.YtclnhohfiimcdabX4
namespace Go.Proofs.Ytclnhohfiimcdab
open Go.RowKit

abbrev zeroO : Obj := .cells #[.int .i64 0, .int .u32 0, .int .u32 0, .int .i64 0, .bool false, .slice none 0 0] 30
def zeroR : Rc := ⟨0, 0, 0, 0, false, []⟩
/-- What Decode answers. -/
def deA (b : ByteArray) : Rc × Int := if rdOk b then (rdR b, 0) else (zeroR, 4)
/-- While Decode reads: how far, the answer's block, the record's. -/
structure DcM (w V : World) (B rb : Nat) (b : ByteArray) (a : Nat) (r : Rc) (va : Value) : Prop where
  tk : TkM V B b a
  x : V.heap[w.heap.size]? = some (zeroO)
  q : V.heap[rb]? = some (recO r va)
  row : V.ownsRow (rb + 1) 35 2 va r.adjs.length (fl ac r.adjs)
  b : Below w.heap.size w V
  l1 : w.heap.size < B
  l2 : B + 1 < rb
theorem DcM.fr {w V V' : World} {B rb : Nat} {b : ByteArray} {a a' : Nat} {r : Rc} {va : Value} (h : DcM w V B rb b a r va) (ht : TkM V' B b a') (hf : Fr (TkS B) V V') : DcM w V' B rb b a' r va := by
  have h1 := h.l1
  have h2 := h.l2
  exact ⟨ht, (hf.block _ (block_lt h.x) (by unfold TkS; omega)).trans h.x, (hf.block _ (block_lt h.q) (by unfold TkS; omega)).trans h.q, row_fr h.row hf (fun j hj e => by have := (h.row.lt j hj).1; unfold TkS at e; omega), h.b.trans (hf.below h.b.size (fun k hk => by unfold TkS at hk; omega)), h1, h2⟩
theorem DcM.take {w V : World} {B rb : Nat} {b : ByteArray} {a : Nat} {r : Rc} {va : Value} (h : DcM w V B rb b a r va) (n : Nat) (hb : b.size ≤ maxLen) (ha : a ≤ 1000000) (hn : n = 1 ∨ n = 2 ∨ n = 4) :
    Calls Try.prog 23 #[.int .i64 n, .pointer (some ⟨B, 0, none⟩), .pointer (some ⟨B + 1, 0, none⟩)] V fun e V' => e = .returned (.int .u64 (tkz b a n : Nat)) ∧ DcM w V' B rb b (a + n) r va := by
  refine (take_any h.tk n hb ha hn).mono ?_
  rintro e V' ⟨h1, h2, h3⟩
  exact ⟨h1, h.fr h2 h3⟩
theorem DcM.keep {w V V' : World} {B rb : Nat} {b : ByteArray} {a : Nat} {r : Rc} {va : Value} (h : DcM w V B rb b a r va) (hb : Below V.heap.size V V') : DcM w V' B rb b a r va :=
  h.fr (h.tk.keep hb) (Fr.of_below hb)
/-- A field of the record is stored. -/
theorem DcM.set {w V : World} {B rb : Nat} {b : ByteArray} {a : Nat} {r r' : Rc} {va va' : Value} (h : DcM w V B rb b a r va) (i : Nat) (u : Value) (hr : #[Value.int .i64 r.origin, .int .u32 r.epoch, .int .u32 r.seq, .int .i64 r.claim, .bool r.ing, va].setIfInBounds i u = #[.int .i64 r'.origin, .int .u32 r'.epoch, .int .u32 r'.seq, .int .i64 r'.claim, .bool r'.ing, va']) (hrow : V.ownsRow (rb + 1) 35 2 va' r'.adjs.length (fl ac r'.adjs)) : DcM w (V.setCell ⟨rb, i, none⟩ u) B rb b a r' va' := by
  have h1 := h.l1
  have h2 := h.l2
  have hF := (Fr.refl (fun k => k = rb) V).set (p := ⟨rb, i, none⟩) rfl u
  refine ⟨⟨(hF.block _ (block_lt h.tk.s) (by omega)).trans h.tk.s, (hF.block _ (block_lt h.tk.a) (by omega)).trans h.tk.a⟩, (hF.block _ (block_lt h.x) (by omega)).trans h.x, ?_, row_fr hrow hF (fun j hj e => by have := (hrow.lt j hj).1; omega), h.b.setCell (p := ⟨rb, i, none⟩) (by show w.heap.size ≤ rb; omega) u, h1, h2⟩
  have := heap_setCell_same V rb i _ _ u h.q
  rw [hr] at this
  exact this
theorem set6 {w : World} {b : Nat} {T : TypeId} {c0 c1 c2 c3 c4 c5 : Value} (v0 v1 v2 v3 v4 v5 : Value) (h : w.heap[b]? = some (.cells #[c0, c1, c2, c3, c4, c5] T)) :
    ((((((w.setCell ⟨b, 0, none⟩ v0).setCell ⟨b, 1, none⟩ v1).setCell ⟨b, 2, none⟩ v2).setCell ⟨b, 3, none⟩ v3).setCell ⟨b, 4, none⟩ v4).setCell ⟨b, 5, none⟩ v5).heap[b]? = some (.cells #[v0, v1, v2, v3, v4, v5] T) := by
  have h1 := heap_setCell_same _ b 5 _ T v5 (heap_setCell_same _ b 4 _ T v4 (heap_setCell_same _ b 3 _ T v3 (heap_setCell_same _ b 2 _ T v2 (heap_setCell_same _ b 1 _ T v1 (heap_setCell_same w b 0 _ T v0 h)))))
  simpa using h1
theorem fr6 {S : Nat → Prop} {w w' : World} {b : Nat} (h : Fr S w w') (hb : S b) (v0 v1 v2 v3 v4 v5 : Value) : Fr S w ((((((w'.setCell ⟨b, 0, none⟩ v0).setCell ⟨b, 1, none⟩ v1).setCell ⟨b, 2, none⟩ v2).setCell ⟨b, 3, none⟩ v3).setCell ⟨b, 4, none⟩ v4).setCell ⟨b, 5, none⟩ v5) :=
  (((((h.set (p := ⟨b, 0, none⟩) hb _).set (p := ⟨b, 1, none⟩) hb _).set (p := ⟨b, 2, none⟩) hb _).set (p := ⟨b, 3, none⟩) hb _).set (p := ⟨b, 4, none⟩) hb _).set (p := ⟨b, 5, none⟩) hb _
set_option maxRecDepth 100000 in
set_option maxHeartbeats 2000000 in
theorem decode_any (b : ByteArray) (hb : b.size ≤ maxLen) (w : World) :
    Calls Try.prog 7 #[.string b] w fun e w' => (∃ v, e = .returned (.tuple #[recV (deA b).1 v, .int .i64 (deA b).2]) ∧ w'.ownsRow w.heap.size 35 2 v (deA b).1.adjs.length (fl ac (deA b).1.adjs)) ∧ Below w.heap.size w w' := by
  obtain ⟨V1, hV1⟩ : ∃ V1, w.alloc (zeroO) = V1 := ⟨_, rfl⟩
  have b1 : Below w.heap.size w V1 := by rw [← hV1]; exact (Below.refl _ w).alloc (Nat.le_refl _) _
  have hX : V1.heap[w.heap.size]? = some (zeroO) := by rw [← hV1]; exact heap_alloc_last w _
  have HX := hidIn hX
  have HB := hidIn b1
  have HW := hidIn hV1
  have Hb := hidIn hb
  obtain ⟨res, hres⟩ : ∃ res, deA b = res := ⟨_, rfl⟩
  rw [hres]
  have Hres := hidIn hres
  clear hV1 b1 hX hb hres
  go_enter Try.func7, Try.ntmps7
  go_upto_region 1 with fail
  rw [show w.alloc _ = V1 from HW.out]
  clear HW
  go_wp2_with fail
  refine (taking_any b _).mono ?_
  rintro e w2 ⟨rfl, h2, hb2⟩
  have hX2 := (hb2.block _ (block_lt HX.out)).trans HX.out
  obtain ⟨B, hB⟩ : ∃ B, V1.heap.size = B := ⟨_, rfl⟩
  have hBl : w.heap.size < B := by rw [← hB]; exact block_lt HX.out
  rw [hB] at h2 ⊢
  have H2 := hidIn h2
  have HX2 := hidIn hX2
  have HB2 := hidIn (HB.out.trans (hb2.mono HB.out.size))
  clear h2 hX2 hb2 hB HX HB
  go_wp2_with fail
  refine (takeStamp_any H2.out Hb.out).mono ?_
  rintro e w3 ⟨rfl, h3, hf3⟩
  have hX3 := (hf3.block _ (block_lt HX2.out) (by unfold TkS; omega)).trans HX2.out
  have HB3 := hidIn (HB2.out.trans (hf3.below HB2.out.size (fun k hk => by unfold TkS at hk; omega)))
  obtain ⟨T0, hT0⟩ : ∃ T, tkz b 0 1 = T := ⟨_, rfl⟩
  obtain ⟨T1, hT1⟩ : ∃ T, tkz b 1 4 = T := ⟨_, rfl⟩
  obtain ⟨T2, hT2⟩ : ∃ T, tkz b 5 4 = T := ⟨_, rfl⟩
  rw [hT0, hT1, hT2]
  obtain ⟨W1, hW1⟩ : ∃ W, w3.alloc (stO (T0 : Int) (T1 : Int) (T2 : Int)) = W := ⟨_, rfl⟩
  obtain ⟨W2, hW2⟩ : ∃ W, W1.alloc (recO ⟨(T0 : Int), (T1 : Int), (T2 : Int), 0, false, []⟩ (.slice none 0 0)) = W := ⟨_, rfl⟩
  have bW1 : Below w3.heap.size w3 W1 := by rw [← hW1]; exact (Below.refl _ w3).alloc (Nat.le_refl _) _
  have bW2 : Below W1.heap.size W1 W2 := by rw [← hW2]; exact (Below.refl _ W1).alloc (Nat.le_refl _) _
  have hS : W1.heap[w3.heap.size]? = some (stO (T0 : Int) (T1 : Int) (T2 : Int)) := by rw [← hW1]; exact heap_alloc_last w3 _
  have hR : W2.heap[W1.heap.size]? = some (recO ⟨(T0 : Int), (T1 : Int), (T2 : Int), 0, false, []⟩ (.slice none 0 0)) := by rw [← hW2]; exact heap_alloc_last W1 _
  have bW : Below w3.heap.size w3 W2 := bW1.trans (bW2.mono bW1.size)
  obtain ⟨rb, hrb⟩ : ∃ rb, W1.heap.size = rb := ⟨_, rfl⟩
  have hlr : B + 1 < rb := by rw [← hrb]; have := block_lt h3.a; have := bW1.size; omega
  have HM : Hid (DcM w W2 B rb b 9 ⟨(T0 : Int), (T1 : Int), (T2 : Int), 0, false, []⟩ (.slice none 0 0)) := hidIn ⟨h3.keep bW, (bW.block _ (block_lt hX3)).trans hX3, by rw [← hrb]; exact hR, World.ownsRow_nil _ _ _ _, HB3.out.trans (bW.mono HB3.out.size), hBl, hlr⟩
  have hrb2 : w3.heap.size + 1 = rb := by rw [← hrb, ← hW1]; simp
  have HT0 := hidIn hT0
  have HT1 := hidIn hT1
  have HT2 := hidIn hT2
  have HW1 := hidIn hW1
  have HW2 := hidIn hW2
  have Hrb := hidIn hrb
  have s0 := cell_of_row _ _ 0 _ _ _ hS
  have s1 := cell_of_row _ _ 1 _ _ _ hS
  have s2 := cell_of_row _ _ 2 _ _ _ hS
  simp at s0 s1 s2
  clear h3 hf3 hX3 HB3 HX2 HB2 H2 hT0 hT1 hT2 hW1 hW2 hS hR bW1 bW2 bW hrb hrb2
  go_upto_region 3 with fail
  rw [HW1.out]
  clear HW1
  go_upto_region 4 with fail
  rw [show W1.alloc _ = W2 from HW2.out, Hrb.out]
  clear HW2 Hrb s0 s1 s2
  obtain ⟨T3, hT3⟩ : ∃ T, tkz b 9 2 = T := ⟨_, rfl⟩
  have t3 := tkz_lt b 9 2
  rw [hT3] at t3
  simp at t3
  have HT3 := hidIn hT3
  clear hT3
  go_wp2_with fail
  refine (HM.out.take 2 Hb.out (by omega) (.inr (.inl rfl))).mono ?_
  rintro e w4 ⟨rfl, h4⟩
  rw [HT3.out]
  have x3 := cell_of_row _ _ 3 _ _ _ h4.q
  simp at x3
  have f3 := frozen_new h4.q 3
  have HM4 : Hid (DcM w (w4.setCell ⟨rb, 3, none⟩ (.int .i64 (T3 : Int))) B rb b 11 ⟨(T0 : Int), (T1 : Int), (T2 : Int), (T3 : Int), false, []⟩ (.slice none 0 0)) := hidIn (h4.set 3 _ rfl h4.row)
  clear h4 HM
  go_upto_region 5 with fail
  generalize World.setCell _ _ _ = V4 at HM4 ⊢
  clear x3 f3
  obtain ⟨T4, hT4⟩ : ∃ T, tkz b 11 1 = T := ⟨_, rfl⟩
  have t4 := tkz_lt b 11 1
  rw [hT4] at t4
  simp at t4
  have HT4 := hidIn hT4
  clear hT4
  go_wp2_with fail
  refine (HM4.out.take 1 Hb.out (by omega) (.inl rfl)).mono ?_
  rintro e w5 ⟨rfl, h5⟩
  rw [HT4.out]
  have HM5 := hidIn h5
  clear h5 HM4
  go_wp2_with fail
  refine (oneIf_any true _).mono ?_
  rintro e w6 ⟨rfl, hw6⟩
  rw [hw6, show ((ingN true : Nat) : Int) = 1 from rfl]
  clear hw6 w6
  obtain ⟨ib, hib⟩ : ∃ ib, ((T4 : Int) == 1) = ib := ⟨_, rfl⟩
  have x4 := cell_of_row _ _ 4 _ _ _ HM5.out.q
  simp at x4
  have f4 := frozen_new HM5.out.q 4
  have HM6 : Hid (DcM w (w5.setCell ⟨rb, 4, none⟩ (.bool ib)) B rb b 12 ⟨(T0 : Int), (T1 : Int), (T2 : Int), (T3 : Int), ib, []⟩ (.slice none 0 0)) := hidIn (HM5.out.set 4 _ rfl HM5.out.row)
  clear HM5
  go_upto_region 7 with fail
  have Hib := hidIn hib
  generalize World.setCell _ _ _ = V6 at HM6 ⊢
  clear x4 f4 hib
  obtain ⟨N, hN⟩ : ∃ T, tkz b 12 1 = T := ⟨_, rfl⟩
  have tN := tkz_lt b 12 1
  rw [hN] at tN
  simp at tN
  have HN := hidIn hN
  clear hN
  go_wp2_with fail
  refine (HM6.out.take 1 Hb.out (by omega) (.inl rfl)).mono ?_
  rintro e w7 ⟨rfl, h7⟩
  rw [HN.out]
  have HM7 : Hid (DcM w w7 B rb b (13 + 3 * 0) ⟨(T0 : Int), (T1 : Int), (T2 : Int), (T3 : Int), ib, rdA b 0⟩ (.slice none 0 0)) := hidIn h7
  clear h7 HM6
  have hBr := HM7.out.l1
  go_wp2_with fail
  go_loopw [37] (fun i wr => ∃ k : Nat, k ≤ N ∧ i = .int .u64 k ∧ Hid (∃ va, DcM w wr B rb b (13 + 3 * k) ⟨(T0 : Int), (T1 : Int), (T2 : Int), (T3 : Int), ib, rdA b k⟩ va)) (fun i _ => N - (intOf i).toNat)
  case atStart => exact ⟨0, Nat.zero_le _, rfl, hidIn ⟨_, HM7.out⟩⟩
  case round =>
    clear HM7
    obtain ⟨k, hk, rfl, HR⟩ := hrel
    obtain ⟨va, hM⟩ := HR.out
    clear HR
    by_cases hlt : k < N
    · have hki : (k : Int) < (N : Int) := by omega
      obtain ⟨X, hX⟩ : ∃ T, tkz b (13 + 3 * k) 1 = T := ⟨_, rfl⟩
      obtain ⟨Y, hY⟩ : ∃ T, tkz b (13 + 3 * k + 1) 2 = T := ⟨_, rfl⟩
      have hX1 := tkz_lt b (13 + 3 * k) 1
      have hY1 := tkz_lt b (13 + 3 * k + 1) 2
      rw [hX] at hX1
      rw [hY] at hY1
      simp at hX1 hY1
      have HX := hidIn hX
      have HY := hidIn hY
      have HM := hidIn hM
      clear hX hY hM
      go_wp2_with fail
      refine (HM.out.take 1 Hb.out (by omega) (.inl rfl)).mono ?_
      rintro e w3 ⟨rfl, h3⟩
      rw [HX.out]
      have HM3 := hidIn h3
      clear h3 HM
      go_wp2_with fail
      refine (HM3.out.take 2 Hb.out (by omega) (.inr (.inl rfl))).mono ?_
      rintro e w4 ⟨rfl, h4⟩
      rw [HY.out]
      have hlen : (rdA b k).length ≤ 300 := by rw [rdA_len]; omega
      have hE : rdA b (k + 1) = rdA b k ++ [((X : Int), (Y : Int))] := by rw [rdA_succ, show 14 + 3 * k = 13 + 3 * k + 1 from by omega, HX.out, HY.out]
      have hrs : rb < w4.heap.size := block_lt h4.q
      obtain ⟨g, cap, w6, hrun, hown, hlie, hgrow, hb6⟩ := append_adj h4.row ((X : Int), (Y : Int)) (by show ((rdA b k).length + 1) * 16 ≤ _; omega) (by omega)
      have hM6 : DcM w w6 B rb b (13 + 3 * k + 1 + 2) ⟨(T0 : Int), (T1 : Int), (T2 : Int), (T3 : Int), ib, rdA b k⟩ va → True := fun _ => trivial
      have hr6 : w6.heap[rb]? = some (recO ⟨(T0 : Int), (T1 : Int), (T2 : Int), (T3 : Int), ib, rdA b k⟩ va) := (hb6.block _ (Nat.lt_succ_self _)).trans h4.q
      have l1 := h4.l1
      have l2 := h4.l2
      have HM8 : Hid (DcM w (w6.setCell ⟨rb, 5, none⟩ (.slice (some ⟨g, 0, none⟩) ((rdA b k).length + 1) cap)) B rb b (13 + 3 * (k + 1)) ⟨(T0 : Int), (T1 : Int), (T2 : Int), (T3 : Int), ib, rdA b (k + 1)⟩ (.slice (some ⟨g, 0, none⟩) ((rdA b k).length + 1) cap)) := hidIn (by
        have hF := (Fr.refl (fun k => k = rb) w6).set (p := ⟨rb, 5, none⟩) rfl (.slice (some ⟨g, 0, none⟩) ((rdA b k).length + 1) cap)
        refine ⟨⟨(hF.block _ (by have := hb6.size; have := block_lt h4.tk.s; omega) (by omega)).trans ((hb6.block _ (by omega)).trans h4.tk.s), ?_⟩, (hF.block _ (by have := hb6.size; have := block_lt h4.x; omega) (by omega)).trans ((hb6.block _ (by omega)).trans h4.x), ?_, ?_, (h4.b.trans (hb6.mono (by omega))).setCell (p := ⟨rb, 5, none⟩) (by show w.heap.size ≤ rb; omega) _, l1, l2⟩
        · have := (hF.block (B + 1) (by have := hb6.size; have := block_lt h4.tk.a; omega) (by omega)).trans ((hb6.block _ (by omega)).trans h4.tk.a)
          exact this
        · have := heap_setCell_same w6 rb 5 _ _ (.slice (some ⟨g, 0, none⟩) ((rdA b k).length + 1) cap) hr6
          simpa using this
        · have := row_fr hown hF (fun j hj e => by have := (hown.lt j hj).1; omega)
          simp only
          rw [hE, List.length_append]
          exact this)
      have d5 := cell_of_row _ _ 5 _ _ _ h4.q
      have k5 := cell_of_row _ _ 5 _ _ _ hr6
      simp at d5 k5
      have f5 := frozen_new hr6 5
      have HRun := hidIn hrun
      clear h4 HM3 hrun hown hlie hgrow hb6 hM6 hr6 hE
      simp only at HRun
      go_wp2_with (refine l_append rfl _ _ 28 rfl HRun.out ?_)
      go_roundw
      case rel => exact ⟨k + 1, by omega, by go_num, hidIn ⟨_, HM8.out⟩⟩
      case measure => simp [intOf]; omega
    · have hki : ¬ ((k : Int) < (N : Int)) := by omega
      have hkN : k = N := by omega
      rw [hkN] at hM
      obtain ⟨R, hRd⟩ : ∃ R : Rc, (⟨(T0 : Int), (T1 : Int), (T2 : Int), (T3 : Int), ib, rdA b N⟩ : Rc) = R := ⟨_, rfl⟩
      have hR2 : rdR b = R := by
        rw [← hRd]
        unfold rdR
        rw [HT0.out, HT1.out, HT2.out, HT3.out, HT4.out, HN.out, ← Hib.out]
        congr 1
        by_cases h : T4 = 1
        · rw [h]; rfl
        · have : ¬ ((T4 : Int) = 1) := by omega
          simp [h]; omega
      have hok : rdOk b = (decide (13 + 3 * N = b.size) && (decide (T4 ≤ 1) && recOk R)) := by unfold rdOk; rw [HN.out, HT4.out, hR2]
      have HRes : Hid (res = if rdOk b then (R, 0) else (zeroR, 4)) := hidIn (by rw [← Hres.out]; unfold deA; rw [hR2])
      have Hok := hidIn hok
      have HRd := hidIn hRd
      have HE := hidIn (atEnd_any hM.tk)
      have HM := hidIn hM
      obtain ⟨aa, acap, rfl⟩ := row_shape hM.row
      clear hM hkN hR2 hok hRd
      obtain ⟨d1, hd1⟩ : ∃ d1, decide (13 + 3 * N = b.size) = d1 := ⟨_, rfl⟩
      rw [hd1] at HE Hok
      clear hd1
      simp only at HM
      obtain ⟨ln, hln⟩ : ∃ ln, (rdA b N).length = ln := ⟨_, rfl⟩
      have Hln := hidIn hln
      rw [hln] at HM
      clear hln
      go_wp2_with fail
      refine HE.out.mono ?_
      rintro e w3 ⟨rfl, hw3⟩
      rw [hw3]
      clear hw3 w3 HE
      have y0 := cell_of_row _ _ 0 _ _ _ HM.out.x
      have z0 := cell_of_row _ _ 0 _ _ _ HM.out.q
      have g0 := frozen_new HM.out.x 0
      have y1 := cell_of_row _ _ 1 _ _ _ HM.out.x
      have z1 := cell_of_row _ _ 1 _ _ _ HM.out.q
      have g1 := frozen_new HM.out.x 1
      have y2 := cell_of_row _ _ 2 _ _ _ HM.out.x
      have z2 := cell_of_row _ _ 2 _ _ _ HM.out.q
      have g2 := frozen_new HM.out.x 2
      have y3 := cell_of_row _ _ 3 _ _ _ HM.out.x
      have z3 := cell_of_row _ _ 3 _ _ _ HM.out.q
      have g3 := frozen_new HM.out.x 3
      have y4 := cell_of_row _ _ 4 _ _ _ HM.out.x
      have z4 := cell_of_row _ _ 4 _ _ _ HM.out.q
      have g4 := frozen_new HM.out.x 4
      have y5 := cell_of_row _ _ 5 _ _ _ HM.out.x
      have z5 := cell_of_row _ _ 5 _ _ _ HM.out.q
      have g5 := frozen_new HM.out.x 5
      simp at y0 z0 y1 z1 y2 z2 y3 z3 y4 z4 y5 z5
      cases d1
      · clear z0 z1 z2 z3 z4 z5
        go_wp2_with fail
        have hV := set6 (.int .i64 0) (.int .u32 0) (.int .u32 0) (.int .i64 0) (.bool false) (.slice none 0 0) HM.out.x
        have HFV := hidIn (fr6 (S := fun k => k = w.heap.size) (Fr.refl _ wr) rfl (.int .i64 0) (.int .u32 0) (.int .u32 0) (.int .i64 0) (.bool false) (.slice none 0 0))
        have HBV := hidIn (HM.out.b.trans (HFV.out.below HM.out.b.size (fun k hk => by omega)))
        generalize (((((World.setCell _ _ _).setCell _ _).setCell _ _).setCell _ _).setCell _ _).setCell _ _ = Z at hV HFV HBV ⊢
        clear y0 y1 y2 y3 y4 y5 g0 g1 g2 g3 g4 g5
        have e0 := cell_of_row _ _ 0 _ _ _ hV
        have e1 := cell_of_row _ _ 1 _ _ _ hV
        have e2 := cell_of_row _ _ 2 _ _ _ hV
        have e3 := cell_of_row _ _ 3 _ _ _ hV
        have e4 := cell_of_row _ _ 4 _ _ _ hV
        have e5 := cell_of_row _ _ 5 _ _ _ hV
        simp at e0 e1 e2 e3 e4 e5
        have hr := HRes.out
        rw [Hok.out] at hr
        simp at hr
        refine bodyPost_ret (v := .tuple #[.agg #[.int .i64 0, .int .u32 0, .int .u32 0, .int .i64 0, .bool false, .slice none 0 0], .int .i64 4]) (by simp [results, Try.results7, asAddr, Result.andThen, go_sem, e0, e1, e2, e3, e4, e5]) rfl ⟨⟨.slice none 0 0, ?_, ?_⟩, HBV.out⟩
        · rw [hr]; rfl
        · rw [hr]
          exact World.ownsRow_nil _ _ _ _
      go_wp2_with fail
      refine (oneIf_any ib _).mono ?_
      rintro e w3 ⟨rfl, hw3⟩
      rw [hw3]
      clear hw3 w3
      by_cases h41 : T4 ≤ 1
      case neg =>
        have hne : ((T4 : Int) != ((ingN ib : Nat) : Int)) = true := by
          have : ingN ib ≤ 1 := by unfold ingN; split <;> omega
          simp; omega
        have Hok2 : Hid (rdOk b = false) := hidIn (by rw [Hok.out]; simp [h41])
        clear Hok
        have Hok := Hok2
        clear z0 z1 z2 z3 z4 z5
        go_wp2_with fail
        have hV := set6 (.int .i64 0) (.int .u32 0) (.int .u32 0) (.int .i64 0) (.bool false) (.slice none 0 0) HM.out.x
        have HFV := hidIn (fr6 (S := fun k => k = w.heap.size) (Fr.refl _ wr) rfl (.int .i64 0) (.int .u32 0) (.int .u32 0) (.int .i64 0) (.bool false) (.slice none 0 0))
        have HBV := hidIn (HM.out.b.trans (HFV.out.below HM.out.b.size (fun k hk => by omega)))
        generalize (((((World.setCell _ _ _).setCell _ _).setCell _ _).setCell _ _).setCell _ _).setCell _ _ = Z at hV HFV HBV ⊢
        clear y0 y1 y2 y3 y4 y5 g0 g1 g2 g3 g4 g5
        have e0 := cell_of_row _ _ 0 _ _ _ hV
        have e1 := cell_of_row _ _ 1 _ _ _ hV
        have e2 := cell_of_row _ _ 2 _ _ _ hV
        have e3 := cell_of_row _ _ 3 _ _ _ hV
        have e4 := cell_of_row _ _ 4 _ _ _ hV
        have e5 := cell_of_row _ _ 5 _ _ _ hV
        simp at e0 e1 e2 e3 e4 e5
        have hr := HRes.out
        rw [Hok.out] at hr
        simp at hr
        refine bodyPost_ret (v := .tuple #[.agg #[.int .i64 0, .int .u32 0, .int .u32 0, .int .i64 0, .bool false, .slice none 0 0], .int .i64 4]) (by simp [results, Try.results7, asAddr, Result.andThen, go_sem, e0, e1, e2, e3, e4, e5]) rfl ⟨⟨.slice none 0 0, ?_, ?_⟩, HBV.out⟩
        · rw [hr]; rfl
        · rw [hr]
          exact World.ownsRow_nil _ _ _ _
      have hne : ((T4 : Int) != ((ingN ib : Nat) : Int)) = false := by
        rw [← Hib.out]
        unfold ingN
        by_cases h : T4 = 1
        · rw [h]; rfl
        · have : T4 = 0 := by omega
          rw [this]; rfl
      have HCk := hidIn (rcheck_any (r := ⟨(T0 : Int), (T1 : Int), (T2 : Int), (T3 : Int), ib, rdA b N⟩) (va := .slice aa ln acap) (w := wr) (slAt_of_row (cs := ac) (fun _ => rfl) HM.out.row rfl))
      obtain ⟨m, hm⟩ : ∃ m, recOk R = m := ⟨_, rfl⟩
      have hck : ckN (⟨(T0 : Int), (T1 : Int), (T2 : Int), (T3 : Int), ib, rdA b N⟩ : Rc) = if m then 0 else 2 := by unfold ckN; rw [HRd.out, hm]
      rw [hck] at HCk
      rw [hm] at Hok
      clear hm hck
      go_wp2_with fail
      refine HCk.out.mono ?_
      rintro e w4 ⟨rfl, hb4⟩
      have HM4 := hidIn (HM.out.keep hb4)
      clear hb4 HCk HM z0 z1 z2 z3 z4 z5 y0 y1 y2 y3 y4 y5 g0 g1 g2 g3 g4 g5
      have HM := HM4
      clear HM4
      have y0 := cell_of_row _ _ 0 _ _ _ HM.out.x
      have z0 := cell_of_row _ _ 0 _ _ _ HM.out.q
      have g0 := frozen_new HM.out.x 0
      have y1 := cell_of_row _ _ 1 _ _ _ HM.out.x
      have z1 := cell_of_row _ _ 1 _ _ _ HM.out.q
      have g1 := frozen_new HM.out.x 1
      have y2 := cell_of_row _ _ 2 _ _ _ HM.out.x
      have z2 := cell_of_row _ _ 2 _ _ _ HM.out.q
      have g2 := frozen_new HM.out.x 2
      have y3 := cell_of_row _ _ 3 _ _ _ HM.out.x
      have z3 := cell_of_row _ _ 3 _ _ _ HM.out.q
      have g3 := frozen_new HM.out.x 3
      have y4 := cell_of_row _ _ 4 _ _ _ HM.out.x
      have z4 := cell_of_row _ _ 4 _ _ _ HM.out.q
      have g4 := frozen_new HM.out.x 4
      have y5 := cell_of_row _ _ 5 _ _ _ HM.out.x
      have z5 := cell_of_row _ _ 5 _ _ _ HM.out.q
      have g5 := frozen_new HM.out.x 5
      simp at y0 z0 y1 z1 y2 z2 y3 z3 y4 z4 y5 z5
      cases m
      · simp only [Bool.false_eq_true, if_false]
        clear z0 z1 z2 z3 z4 z5
        go_wp2_with fail
        have hV := set6 (.int .i64 0) (.int .u32 0) (.int .u32 0) (.int .i64 0) (.bool false) (.slice none 0 0) HM.out.x
        have HFV := hidIn (fr6 (S := fun k => k = w.heap.size) (Fr.refl _ w4) rfl (.int .i64 0) (.int .u32 0) (.int .u32 0) (.int .i64 0) (.bool false) (.slice none 0 0))
        have HBV := hidIn (HM.out.b.trans (HFV.out.below HM.out.b.size (fun k hk => by omega)))
        generalize (((((World.setCell _ _ _).setCell _ _).setCell _ _).setCell _ _).setCell _ _).setCell _ _ = Z at hV HFV HBV ⊢
        clear y0 y1 y2 y3 y4 y5 g0 g1 g2 g3 g4 g5
        have e0 := cell_of_row _ _ 0 _ _ _ hV
        have e1 := cell_of_row _ _ 1 _ _ _ hV
        have e2 := cell_of_row _ _ 2 _ _ _ hV
        have e3 := cell_of_row _ _ 3 _ _ _ hV
        have e4 := cell_of_row _ _ 4 _ _ _ hV
        have e5 := cell_of_row _ _ 5 _ _ _ hV
        simp at e0 e1 e2 e3 e4 e5
        have hr := HRes.out
        rw [Hok.out] at hr
        simp at hr
        refine bodyPost_ret (v := .tuple #[.agg #[.int .i64 0, .int .u32 0, .int .u32 0, .int .i64 0, .bool false, .slice none 0 0], .int .i64 4]) (by simp [results, Try.results7, asAddr, Result.andThen, go_sem, e0, e1, e2, e3, e4, e5]) rfl ⟨⟨.slice none 0 0, ?_, ?_⟩, HBV.out⟩
        · rw [hr]; rfl
        · rw [hr]
          exact World.ownsRow_nil _ _ _ _
      · simp only [if_true]
        go_wp2_with fail
        have hV := set6 (.int .i64 (T0 : Int)) (.int .u32 (T1 : Int)) (.int .u32 (T2 : Int)) (.int .i64 (T3 : Int)) (.bool ib) (.slice aa ln acap) HM.out.x
        have HFV := hidIn (fr6 (S := fun k => k = w.heap.size) (Fr.refl _ w4) rfl (.int .i64 (T0 : Int)) (.int .u32 (T1 : Int)) (.int .u32 (T2 : Int)) (.int .i64 (T3 : Int)) (.bool ib) (.slice aa ln acap))
        have HBV := hidIn (HM.out.b.trans (HFV.out.below HM.out.b.size (fun k hk => by omega)))
        generalize (((((World.setCell _ _ _).setCell _ _).setCell _ _).setCell _ _).setCell _ _).setCell _ _ = Z at hV HFV HBV ⊢
        clear y0 y1 y2 y3 y4 y5 g0 g1 g2 g3 g4 g5
        have e0 := cell_of_row _ _ 0 _ _ _ hV
        have e1 := cell_of_row _ _ 1 _ _ _ hV
        have e2 := cell_of_row _ _ 2 _ _ _ hV
        have e3 := cell_of_row _ _ 3 _ _ _ hV
        have e4 := cell_of_row _ _ 4 _ _ _ hV
        have e5 := cell_of_row _ _ 5 _ _ _ hV
        simp at e0 e1 e2 e3 e4 e5
        have hr := HRes.out
        rw [Hok.out] at hr
        simp [h41] at hr
        refine bodyPost_ret (v := .tuple #[.agg #[.int .i64 (T0 : Int), .int .u32 (T1 : Int), .int .u32 (T2 : Int), .int .i64 (T3 : Int), .bool ib, .slice aa ln acap], .int .i64 0]) (by simp [results, Try.results7, asAddr, Result.andThen, go_sem, e0, e1, e2, e3, e4, e5]) rfl ⟨⟨.slice aa ln acap, ?_, ?_⟩, HBV.out⟩
        · rw [hr, ← HRd.out]
        · rw [hr, ← HRd.out]
          exact row_low (row_fr HM.out.row HFV.out (fun j hj e => by have := (HM.out.row.lt j hj).1; have := HM.out.l1; have := HM.out.l2; omega)) (by have := HM.out.l1; have := HM.out.l2; omega)
end Go.Proofs.Ytclnhohfiimcdab
