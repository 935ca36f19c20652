/- Of: the first one of a list that has the node. -/
import Derived.Test.YtgjnljcphcmmeaaV13
namespace Go.Proofs.Ytgjnljcphcmmeaa
open Go.RowKit

theorem SlAt.rchs {w : World} {v : Value} {l : List (Rr × Value)} (h : SlAt rwc 5 w v l) : ∃ a cap, v = .slice a l.length cap ∧ l.length ≤ 9223372036854775807 ∧ l.length ≤ cap ∧ (0 < l.length → ∃ bk o, a = some ⟨bk, o, none⟩ ∧ bk < w.heap.size ∧ ∀ j x, l[j]? = some x → w.cell? ⟨bk, o + j * 5, none⟩ = some (.int .i64 x.1.node) ∧ w.cell? ⟨bk, o + j * 5 + 1, none⟩ = some (.int .i64 x.1.cost) ∧ w.cell? ⟨bk, o + j * 5 + 2, none⟩ = some (.int .i64 x.1.least) ∧ w.cell? ⟨bk, o + j * 5 + 3, none⟩ = some (.int .i64 x.1.most) ∧ w.cell? ⟨bk, o + j * 5 + 4, none⟩ = some x.2) := by
  obtain ⟨a, cap, rfl, hl, hc, h⟩ := h
  refine ⟨a, cap, rfl, hl, hc, fun h0 => ?_⟩
  obtain ⟨bk, o, rfl, hb, h⟩ := h h0
  exact ⟨bk, o, rfl, hb, fun j x hx => ⟨h j x hx 0 _ rfl, h j x hx 1 _ rfl, h j x hx 2 _ rfl, h j x hx 3 _ rfl, h j x hx 4 _ rfl⟩⟩
theorem SlAt.shape {w : World} {v : Value} {l : List Int} (h : SlAt ic 1 w v l) : ∃ a cap, v = .slice a l.length cap := by
  obtain ⟨a, cap, rfl, _⟩ := h
  exact ⟨a, cap, rfl⟩
/-- A copy. -/
theorem clone_any {w : World} {v : Value} {l : List Int} (h : SlAt ic 1 w v l) (hn : NilOk v) (hl : l.length * 8 ≤ 140737488355328) :
    Calls Try.prog 35 #[v] w fun e w' => (∃ v', e = .returned v' ∧ w'.ownsRow w.heap.size 3 1 v' l.length (fl ic l)) ∧ Below w.heap.size w w' := by
  obtain ⟨a, cap, rfl, _, _, hc⟩ := h.ints
  rcases hn with ⟨p, n, c, he⟩ | he
  · simp only [Value.slice.injEq] at he
    obtain ⟨rfl, rfl, rfl⟩ := he
    by_cases h0 : 0 < l.length
    · obtain ⟨bk, o, hp, hb, hc2⟩ := hc h0
      simp only [Option.some.injEq] at hp
      subst hp
      refine (Try.slices_Clone_int bk o l.length cap l w (Nat.le_refl _) hl (fun j hj => ?_)).mono ?_
      · rw [hc2 j l[j] (List.getElem?_eq_getElem hj)]
        simp [List.getD_eq_getElem?_getD, List.getElem?_eq_getElem hj]
      · rintro e w' ⟨v', rfl, hr, _, hb'⟩
        rw [List.take_length, ← ints_map] at hr
        exact ⟨⟨v', rfl, hr⟩, hb'⟩
    · have hl0 : l = [] := List.length_eq_zero_iff.1 (by omega)
      subst hl0
      refine (Try.slices_Clone_int_zero p cap w).mono ?_
      rintro e w' ⟨v', rfl, hr, _, hb'⟩
      exact ⟨⟨v', rfl, hr⟩, hb'⟩
  · simp only [Value.slice.injEq] at he
    obtain ⟨rfl, h0, rfl⟩ := he
    have hl0 : l = [] := List.length_eq_zero_iff.1 h0
    subst hl0
    refine (Try.slices_Clone_int_nil 0 0 w).mono ?_
    rintro e w' ⟨rfl, rfl⟩
    exact ⟨⟨_, rfl, World.ownsRow_nil _ _ _ _⟩, Below.refl _ _⟩
abbrev rchV (x : Rr) (v : Value) : Value := .agg #[.int .i64 x.node, .int .i64 x.cost, .int .i64 x.least, .int .i64 x.most, v]
theorem of1_any {x : Rr} {a : Option Addr} {n c tb : Nat} {t : Int} {w : World} (h : w.heap[tb]? = some (.cells #[.int .i64 t] 3)) :
    Calls Try.prog 34 #[rchV x (.slice a n c), .pointer (some ⟨tb, 0, none⟩)] w fun e w' => e = .returned (.bool (x.node == t)) ∧ Below w.heap.size w w' := by
  obtain ⟨W1, hW1⟩ : ∃ W1, w.alloc (.cells #[.int .i64 x.node, .int .i64 x.cost, .int .i64 x.least, .int .i64 x.most, .slice a n c] 34) = W1 := ⟨_, rfl⟩
  have bA : Below w.heap.size w W1 := by rw [← hW1]; exact (Below.refl _ w).alloc (Nat.le_refl _) _
  have hX : W1.heap[w.heap.size]? = some (.cells #[.int .i64 x.node, .int .i64 x.cost, .int .i64 x.least, .int .i64 x.most, .slice a n c] 34) := by rw [← hW1]; exact heap_alloc_last w _
  have t0 := cell_of_row _ _ 0 _ _ _ ((bA.block _ (block_lt h)).trans h)
  have x0 := cell_of_row _ _ 0 _ _ _ hX
  simp at t0 x0
  have HB := hidIn bA
  have HW := hidIn hW1
  clear hW1 bA hX h
  go_enter Try.func34, Try.ntmps34
  go_upto_region 1 with fail
  rw [HW.out]
  clear HW
  go_wp2_with fail
  go_returns
  exact ⟨rfl, HB.out⟩
theorem enter37 (args : Array Value) (w : World) : (callFunc 34 args).run Try.prog w = .ok (Next.enter 34 args) w := by kernel_rfl
theorem indexF_any {l : List (Rr × Value)} {v : Value} {tb : Nat} {t : Int} {w0 w : World} (h : SlAt rwc 5 w0 v l) (hs : ∀ p ∈ l, ∃ a cap, p.2 = .slice a p.1.next.length cap) (hb : Below w0.heap.size w0 w) (ht : w.heap[tb]? = some (.cells #[.int .i64 t] 3)) :
    Calls Try.prog 33 #[v, .func (.func 34) #[] #[.pointer (some ⟨tb, 0, none⟩)]] w fun e w' =>
      ((∃ k x, l[k]? = some x ∧ x.1.node = t ∧ (∀ y ∈ l.take k, y.1.node ≠ t) ∧ e = .returned (.int .i64 (k : Nat))) ∨ ((∀ y ∈ l, y.1.node ≠ t) ∧ e = .returned (.int .i64 (-1)))) ∧ Below w.heap.size w w' := by
  obtain ⟨aa, ca, rfl, hla, _, hca⟩ := h.rchs
  have Hc := hidIn hca
  have Hs := hidIn hs
  have Hb := hidIn hb
  have Ht := hidIn ht
  have hE := enter37
  clear hca hs h hb ht
  go_enter Try.func33, Try.ntmps33
  go_wp2_with fail
  go_loopw [8] (fun i wr => ∃ k : Nat, k ≤ l.length ∧ i = .int .i64 k ∧ Hid (Below w.heap.size w wr ∧ ∀ y ∈ l.take k, y.1.node ≠ t)) (fun i _ => l.length - (intOf i).toNat)
  case atStart => exact ⟨0, Nat.zero_le _, rfl, hidIn ⟨Below.refl _ _, fun y hy => by simp at hy⟩⟩
  case round =>
    obtain ⟨k, hk, rfl, HR⟩ := hrel
    by_cases hlt : k < l.length
    · obtain ⟨bk, o, rfl, hbk, hc⟩ := Hc.out (by omega)
      obtain ⟨⟨x, xv⟩, hx⟩ : ∃ z, l[k]? = some z := ⟨l[k], List.getElem?_eq_getElem hlt⟩
      obtain ⟨va, vcap, hxv⟩ := Hs.out _ (List.mem_of_getElem? hx)
      simp only at hxv
      subst hxv
      have hbw := Hb.out.trans (HR.out.1.mono Hb.out.size)
      obtain ⟨q0, q1, q2, q3, q4⟩ := hc k _ hx
      have c0 := (hbw.cell (p := ⟨bk, o + k * 5, none⟩) hbk).trans q0
      have c1 := (hbw.cell (p := ⟨bk, o + k * 5 + 1, none⟩) hbk).trans q1
      have c2 := (hbw.cell (p := ⟨bk, o + k * 5 + 2, none⟩) hbk).trans q2
      have c3 := (hbw.cell (p := ⟨bk, o + k * 5 + 3, none⟩) hbk).trans q3
      have c4 := (hbw.cell (p := ⟨bk, o + k * 5 + 4, none⟩) hbk).trans q4
      simp only at c0 c1 c2 c3 c4
      have hki : (k : Int) < (l.length : Int) := by omega
      have HX := hidIn hx
      have HC := hidIn (of1_any (x := x) (a := va) (n := x.next.length) (c := vcap) ((HR.out.1.block _ (block_lt Ht.out)).trans Ht.out))
      clear hx hbw q0 q1 q2 q3 q4 hc
      go_wp2_with fail
      refine HC.out.mono ?_
      rintro e w3 ⟨rfl, hb3⟩
      have HB3 := hidIn (HR.out.1.trans (hb3.mono HR.out.1.size))
      clear hb3 HC c0 c1 c2 c3 c4
      by_cases hxt : x.node = t
      · have hbt : (x.node == t) = true := by simpa using hxt
        have HXt := hidIn hxt
        rw [hbt]
        clear hbt hxt
        go_wp2_with fail
        go_returns
        exact ⟨.inl ⟨k, _, HX.out, HXt.out, HR.out.2, rfl⟩, HB3.out⟩
      · have hbt : (x.node == t) = false := by simpa using hxt
        have HXt := hidIn hxt
        rw [hbt]
        clear hbt hxt
        go_wp2_with fail
        go_roundw
        case rel =>
          refine ⟨k + 1, by omega, by go_num, hidIn ⟨HB3.out, fun y hy => ?_⟩⟩
          rw [take_snoc HX.out] at hy
          rcases List.mem_append.1 hy with h1 | h1
          · exact HR.out.2 y h1
          · rw [List.mem_singleton.1 h1]
            exact HXt.out
        case measure => simp [intOf]; omega
    · have hk2 : k = l.length := by omega
      subst hk2
      have hni : ¬ ((l.length : Int) < (l.length : Int)) := by omega
      have HN : Hid (∀ y ∈ l, y.1.node ≠ t) := hidIn (by have := HR.out.2; rw [List.take_length] at this; exact this)
      go_wp2_with fail
      go_ret
      exact ⟨.inr ⟨fun a b h => HN.out _ h, rfl⟩, HR.out.1⟩
/-- What lies in a list of what is told. -/
structure RlAt (w : World) (v : Value) (l : List (Rr × Value)) : Prop where
  s : SlAt rwc 5 w v l
  n : ∀ p ∈ l, SlAt ic 1 w p.2 p.1.next ∧ NilOk p.2 ∧ p.1.next.length ≤ 10000
theorem RlAt.keep {w w' : World} {v : Value} {l : List (Rr × Value)} {B : Nat} (h : RlAt w v l) (hb : Below B w w') (hB : w.heap.size ≤ B) : RlAt w' v l :=
  ⟨h.s.keep hb hB, fun p hp => ⟨(h.n p hp).1.keep hb hB, (h.n p hp).2⟩⟩
theorem zeroRch (w : World) : (zeroValue 34).run Try.prog w = .ok (.agg #[.int .i64 0, .int .i64 0, .int .i64 0, .int .i64 0, .slice none 0 0]) w := (zero_of_info (by kernel_rfl : (Try.prog.info? 34).map (fun i => (i.zero, i.size)) = some (some (.agg #[.int .i64 0, .int .i64 0, .int .i64 0, .int .i64 0, .slice none 0 0]), 5))).1 w
theorem set5 {w : World} {b : Nat} {T : TypeId} {c0 c1 c2 c3 c4 : Value} (v0 v1 v2 v3 v4 : Value) (h : w.heap[b]? = some (.cells #[c0, c1, c2, c3, c4] T)) :
    (((((w.setCell ⟨b, 0, none⟩ v0).setCell ⟨b, 1, none⟩ v1).setCell ⟨b, 2, none⟩ v2).setCell ⟨b, 3, none⟩ v3).setCell ⟨b, 4, none⟩ v4).heap[b]? = some (.cells #[v0, v1, v2, v3, v4] T) := by
  have h1 := heap_setCell_same _ b 4 _ T v4 (heap_setCell_same _ b 3 _ T v3 (heap_setCell_same _ b 2 _ T v2 (heap_setCell_same _ b 1 _ T v1 (heap_setCell_same w b 0 _ T v0 h))))
  simpa using h1
theorem below5 {w w' : World} {B b : Nat} (v0 v1 v2 v3 v4 : Value) (h : Below B w w') (hb : B ≤ b) :
    Below B w (((((w'.setCell ⟨b, 0, none⟩ v0).setCell ⟨b, 1, none⟩ v1).setCell ⟨b, 2, none⟩ v2).setCell ⟨b, 3, none⟩ v3).setCell ⟨b, 4, none⟩ v4) :=
  ((((h.setCell (p := ⟨b, 0, none⟩) hb _).setCell (p := ⟨b, 1, none⟩) hb _).setCell (p := ⟨b, 2, none⟩) hb _).setCell (p := ⟨b, 3, none⟩) hb _).setCell (p := ⟨b, 4, none⟩) hb _
/-- What Of answers. -/
def OfAns (w' : World) (l : List (Rr × Value)) (t : Int) (e : Ending) : Prop :=
  (∃ k x v, l[k]? = some x ∧ x.1.node = t ∧ (∀ y ∈ l.take k, y.1.node ≠ t) ∧ e = .returned (.tuple #[rchV x.1 v, .bool true]) ∧ SlAt ic 1 w' v x.1.next ∧ NilOk v) ∨
  ((∀ y ∈ l, y.1.node ≠ t) ∧ e = .returned (.tuple #[rchV noR (.slice none 0 0), .bool false]))
theorem pof_any {l : List (Rr × Value)} {v : Value} {t : Int} {w : World} (h : RlAt w v l) :
    Calls Try.prog 12 #[v, .int .i64 t] w fun e w' => OfAns w' l t e ∧ Below w.heap.size w w' := by
  have HR := hidIn h
  obtain ⟨aa, ca, rfl, hla, _, hca⟩ := h.s.rchs
  have Hc := hidIn hca
  obtain ⟨W1, hW1⟩ : ∃ W1, (w.alloc (.cells #[.int .i64 t] 3)).alloc (.cells #[.int .i64 0, .int .i64 0, .int .i64 0, .int .i64 0, .slice none 0 0] 34) = W1 := ⟨_, rfl⟩
  have bA : Below w.heap.size w W1 := by rw [← hW1]; exact ((Below.refl _ w).alloc (Nat.le_refl _) _).alloc (by simp) _
  have hT : W1.heap[w.heap.size]? = some (.cells #[.int .i64 t] 3) := by rw [← hW1, Below.heap_alloc _ _ _ (by simp)]; exact heap_alloc_last w _
  have hX : W1.heap[w.heap.size + 1]? = some (.cells #[.int .i64 0, .int .i64 0, .int .i64 0, .int .i64 0, .slice none 0 0] 34) := by
    rw [← hW1]
    have := heap_alloc_last (w.alloc (.cells #[.int .i64 t] 3)) (.cells #[.int .i64 0, .int .i64 0, .int .i64 0, .int .i64 0, .slice none 0 0] 34)
    rw [World.size_alloc] at this
    exact this
  have HI := hidIn (indexF_any h.s (fun p hp => (h.n p hp).1.shape) bA hT)
  have hz := zeroRch
  have HB := hidIn bA
  have HX := hidIn hX
  have HW := hidIn hW1
  clear h hca hW1 bA hT hX
  go_enter Try.func12, Try.ntmps12
  go_upto_region 1 with fail
  rw [HW.out]
  clear HW
  go_wp2_with fail
  refine HI.out.mono ?_
  rintro e w2 ⟨h2, hb2⟩
  have HX2 := hidIn ((hb2.block _ (block_lt HX.out)).trans HX.out)
  have HB2 := hidIn (HB.out.trans (hb2.mono HB.out.size))
  clear hb2 HI
  have x0 := cell_of_row _ _ 0 _ _ _ HX2.out
  have x1 := cell_of_row _ _ 1 _ _ _ HX2.out
  have x2 := cell_of_row _ _ 2 _ _ _ HX2.out
  have x3 := cell_of_row _ _ 3 _ _ _ HX2.out
  have x4 := cell_of_row _ _ 4 _ _ _ HX2.out
  simp at x0 x1 x2 x3 x4
  have f0 := frozen_new HX2.out 0
  have f1 := frozen_new HX2.out 1
  have f2 := frozen_new HX2.out 2
  have f3 := frozen_new HX2.out 3
  have f4 := frozen_new HX2.out 4
  rcases h2 with ⟨k, ⟨x, xv⟩, hx, hxt, hbe, rfl⟩ | ⟨hno, rfl⟩
  rotate_left
  · have HN := hidIn hno
    clear hno
    go_wp2_with fail
    have hV := set5 (.int .i64 0) (.int .i64 0) (.int .i64 0) (.int .i64 0) (.slice none 0 0) HX2.out
    have HBV := hidIn (below5 (b := w.heap.size + 1) (.int .i64 0) (.int .i64 0) (.int .i64 0) (.int .i64 0) (.slice none 0 0) HB2.out (by omega))
    generalize ((((w2.setCell _ _).setCell _ _).setCell _ _).setCell _ _).setCell _ _ = V at hV HBV ⊢
    clear x0 x1 x2 x3 x4 f0 f1 f2 f3 f4
    have e0 := cell_of_row _ _ 0 _ _ _ hV
    have e1 := cell_of_row _ _ 1 _ _ _ hV
    have e2 := cell_of_row _ _ 2 _ _ _ hV
    have e3 := cell_of_row _ _ 3 _ _ _ hV
    have e4 := cell_of_row _ _ 4 _ _ _ hV
    simp at e0 e1 e2 e3 e4
    exact bodyPost_ret (v := .tuple #[rchV noR (.slice none 0 0), .bool false]) (by simp [results, Try.results12, asAddr, Result.andThen, go_sem, e0, e1, e2, e3, e4, noR]) rfl ⟨.inr ⟨HN.out, rfl⟩, HBV.out⟩
  · obtain ⟨hs, hn, hl⟩ := HR.out.n _ (List.mem_of_getElem? hx)
    obtain ⟨va, vcap, hxv⟩ := hs.shape
    simp only at hs hn hl hxv
    subst hxv
    have hkl : k < l.length := (List.getElem?_eq_some_iff.1 hx).1
    have hki : (k : Int) < (l.length : Int) := by omega
    have hk0 : ¬ ((k : Int) < 0) := by omega
    obtain ⟨bk, o, rfl, hbk, hc⟩ := Hc.out (by omega)
    obtain ⟨q0, q1, q2, q3, q4⟩ := hc k _ hx
    have c0 := (HB2.out.cell (p := ⟨bk, o + k * 5, none⟩) hbk).trans q0
    have c1 := (HB2.out.cell (p := ⟨bk, o + k * 5 + 1, none⟩) hbk).trans q1
    have c2 := (HB2.out.cell (p := ⟨bk, o + k * 5 + 2, none⟩) hbk).trans q2
    have c3 := (HB2.out.cell (p := ⟨bk, o + k * 5 + 3, none⟩) hbk).trans q3
    have c4 := (HB2.out.cell (p := ⟨bk, o + k * 5 + 4, none⟩) hbk).trans q4
    simp only at c0 c1 c2 c3 c4
    obtain ⟨V3, hV3⟩ : ∃ V3, w2.alloc (.cells #[.int .i64 x.node, .int .i64 x.cost, .int .i64 x.least, .int .i64 x.most, .slice va x.next.length vcap] 34) = V3 := ⟨_, rfl⟩
    have b3 : Below w2.heap.size w2 V3 := by rw [← hV3]; exact (Below.refl _ w2).alloc (Nat.le_refl _) _
    have hY : V3.heap[w2.heap.size]? = some (.cells #[.int .i64 x.node, .int .i64 x.cost, .int .i64 x.least, .int .i64 x.most, .slice va x.next.length vcap] 34) := by rw [← hV3]; exact heap_alloc_last w2 _
    have hw2 : w.heap.size + 1 < w2.heap.size := block_lt HX2.out
    have HXB := hidIn (And.intro hx (And.intro hxt hbe))
    have HB3 := hidIn (HB2.out.trans (b3.mono HB2.out.size))
    have HX3 := hidIn ((b3.block _ hw2).trans HX2.out)
    have HCl := hidIn (clone_any (hs.keep HB3.out (Nat.le_refl _)) hn (by omega))
    have HY := hidIn hY
    have y4 := cell_of_row _ _ 4 _ _ _ hY
    simp at y4
    have HW := hidIn hV3
    clear hx hxt hbe hc q0 q1 q2 q3 q4 hV3 b3 hY hs hn x0 x1 x2 x3 x4 f0 f1 f2 f3 f4
    go_upto_region 5 with fail
    rw [HW.out]
    clear HW c0 c1 c2 c3 c4
    go_wp2_with fail
    refine HCl.out.mono ?_
    rintro e w4 ⟨⟨v', rfl, hrow⟩, hb4⟩
    obtain ⟨ra, rcap, rfl⟩ := row_shape hrow
    have hY4 := (hb4.block _ (block_lt HY.out)).trans HY.out
    have hX4 := (hb4.block _ (block_lt HX3.out)).trans HX3.out
    have f4 := frozen_new hY4 4
    have y4' := cell_of_row _ _ 4 _ _ _ hY4
    simp at y4'
    have HB4 := hidIn (HB3.out.trans (hb4.mono HB3.out.size))
    have hys : w2.heap.size < V3.heap.size := block_lt HY.out
    have HRow := hidIn hrow
    have HY4 := hidIn hY4
    have HX4 := hidIn hX4
    clear hrow hb4 HCl y4 hY4 hX4
    go_upto_region 6 with fail
    have hY5 := heap_setCell_same _ w2.heap.size 4 _ _ (.slice ra x.next.length rcap) HY4.out
    simp at hY5
    have hX5 := (Below.heap_setCell w4 ⟨w2.heap.size, 4, none⟩ (.slice ra x.next.length rcap) (w.heap.size + 1) (by show w.heap.size + 1 ≠ w2.heap.size; omega)).trans HX4.out
    have HB5 := hidIn (HB4.out.setCell (p := ⟨w2.heap.size, 4, none⟩) (by show w.heap.size ≤ w2.heap.size; omega) (.slice ra x.next.length rcap))
    have HF5 : Hid (Fr (fun k => k < V3.heap.size) w4 (w4.setCell ⟨w2.heap.size, 4, none⟩ (.slice ra x.next.length rcap))) := hidIn ((Fr.refl _ w4).set (p := ⟨w2.heap.size, 4, none⟩) hys _)
    generalize w4.setCell ⟨w2.heap.size, 4, none⟩ (.slice ra x.next.length rcap) = W5 at hY5 hX5 HB5 HF5 ⊢
    clear y4' f4 HY4 HX4
    have y0 := cell_of_row _ _ 0 _ _ _ hY5
    have y1 := cell_of_row _ _ 1 _ _ _ hY5
    have y2 := cell_of_row _ _ 2 _ _ _ hY5
    have y3 := cell_of_row _ _ 3 _ _ _ hY5
    have y4 := cell_of_row _ _ 4 _ _ _ hY5
    have x0 := cell_of_row _ _ 0 _ _ _ hX5
    have x1 := cell_of_row _ _ 1 _ _ _ hX5
    have x2 := cell_of_row _ _ 2 _ _ _ hX5
    have x3 := cell_of_row _ _ 3 _ _ _ hX5
    have x4 := cell_of_row _ _ 4 _ _ _ hX5
    simp at x0 x1 x2 x3 x4 y0 y1 y2 y3 y4
    have f0 := frozen_new hX5 0
    have f1 := frozen_new hX5 1
    have f2 := frozen_new hX5 2
    have f3 := frozen_new hX5 3
    have f4 := frozen_new hX5 4
    have HX5 := hidIn hX5
    clear hX5 hY5
    go_wp2_with fail
    have hV := set5 (.int .i64 x.node) (.int .i64 x.cost) (.int .i64 x.least) (.int .i64 x.most) (.slice ra x.next.length rcap) HX5.out
    have HBV := hidIn (below5 (b := w.heap.size + 1) (.int .i64 x.node) (.int .i64 x.cost) (.int .i64 x.least) (.int .i64 x.most) (.slice ra x.next.length rcap) HB5.out (by omega))
    have hc1 : w.heap.size + 1 < V3.heap.size := by omega
    have HFV := hidIn (((((HF5.out.set (p := ⟨w.heap.size + 1, 0, none⟩) hc1 (.int .i64 x.node)).set (p := ⟨w.heap.size + 1, 1, none⟩) hc1 (.int .i64 x.cost)).set (p := ⟨w.heap.size + 1, 2, none⟩) hc1 (.int .i64 x.least)).set (p := ⟨w.heap.size + 1, 3, none⟩) hc1 (.int .i64 x.most)).set (p := ⟨w.heap.size + 1, 4, none⟩) hc1 (.slice ra x.next.length rcap))
    generalize ((((W5.setCell _ _).setCell _ _).setCell _ _).setCell _ _).setCell _ _ = V at hV HBV HFV ⊢
    clear x0 x1 x2 x3 x4 f0 f1 f2 f3 f4
    have e0 := cell_of_row _ _ 0 _ _ _ hV
    have e1 := cell_of_row _ _ 1 _ _ _ hV
    have e2 := cell_of_row _ _ 2 _ _ _ hV
    have e3 := cell_of_row _ _ 3 _ _ _ hV
    have e4 := cell_of_row _ _ 4 _ _ _ hV
    simp at e0 e1 e2 e3 e4
    have hrow := row_fr HRow.out HFV.out (fun j hj e => by have := (HRow.out.lt j hj).1; have e' : j < V3.heap.size := e; omega)
    refine bodyPost_ret (v := .tuple #[rchV x (.slice ra x.next.length rcap), .bool true]) (by simp [results, Try.results12, asAddr, Result.andThen, go_sem, e0, e1, e2, e3, e4]) rfl ⟨.inl ⟨k, _, _, HXB.out.1, HXB.out.2.1, HXB.out.2.2, rfl, slAt_of_row (cs := ic) (fun _ => rfl) hrow rfl, ?_⟩, HBV.out⟩
    rcases hrow.2 with ⟨h1, _⟩ | ⟨g, cap, cur, h1, _⟩
    · exact .inr h1
    · exact .inl ⟨_, _, _, h1⟩
end Go.Proofs.Ytgjnljcphcmmeaa
