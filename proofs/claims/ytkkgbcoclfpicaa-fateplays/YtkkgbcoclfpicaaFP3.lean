/- FatePlays: the document's Ask. -/
import Derived.Test.YtkkgbcoclfpicaaFP2
import Derived.Test.YtkkgbcoclfpicaaGF
namespace Go.Proofs.Ytkkgbcoclfpicaa.Fa
open Go.RowKit

theorem underDP : Try.prog.underlying 35 = some (.struct (Try.prog.fieldsOf 35)) := by kernel_rfl
theorem infoDP : (Try.prog.info? 35).map (·.size) = some 2 := by kernel_rfl
theorem load_dp {w : World} {b : Nat} {x y : Value} (h : w.heap[b]? = some (.cells #[x, y] 35)) : (loadVar 35 ⟨b, 0, none⟩).run Try.prog w = .ok (.agg #[x, y]) w :=
  run_loadVar_mid w b 0 35 [x, y] (.struct (Try.prog.fieldsOf 35)) (fun j v hv => by
    rw [Nat.zero_add, cell_of_row w b j _ _ _ h, List.getElem?_toArray]
    exact hv) underDP rfl infoDP
theorem infoPr : (Try.prog.info? 73).map (fun i => (i.zero, i.size, i.bytes)) = some (some (.agg #[.int .i64 0, .int .i64 0]), 2, 16) := by kernel_rfl
/-- What a document's Ask leaves in its results. -/
abbrev finW (w : World) (p f : Nat) (x y a b c : Value) : World := ((((w.setCell ⟨p, 0, none⟩ x).setCell ⟨p, 1, none⟩ y).setCell ⟨f, 0, none⟩ a).setCell ⟨f, 1, none⟩ b).setCell ⟨f, 2, none⟩ c
theorem fin_ok {w : World} {p f : Nat} {x0 y0 a0 b0 c0 : Value} (hp : w.heap[p]? = some (.cells #[x0, y0] 35)) (hf : w.heap[f]? = some (.cells #[a0, b0, c0] 38)) (hne : p ≠ f) (x y a b c : Value) :
    (finW w p f x y a b c).heap[p]? = some (.cells #[x, y] 35) ∧ (finW w p f x y a b c).heap[f]? = some (.cells #[a, b, c] 38) ∧ Fr (fun j => j = p ∨ j = f) w (finW w p f x y a b c) := by
  have h1 : ((w.setCell ⟨p, 0, none⟩ x).setCell ⟨p, 1, none⟩ y).heap[p]? = some (.cells #[x, y] 35) := heap_setCell_same _ _ _ _ _ _ (heap_setCell_same _ _ _ _ _ _ hp)
  have h2 : ((w.setCell ⟨p, 0, none⟩ x).setCell ⟨p, 1, none⟩ y).heap[f]? = some (.cells #[a0, b0, c0] 38) := by
    rw [Below.heap_setCell _ _ _ _ (show f ≠ p from fun h => hne h.symm), Below.heap_setCell _ _ _ _ (show f ≠ p from fun h => hne h.symm)]
    exact hf
  refine ⟨?_, set_ft h2, ?_⟩
  · unfold finW
    rw [Below.heap_setCell _ _ _ _ (show p ≠ f from hne), Below.heap_setCell _ _ _ _ (show p ≠ f from hne), Below.heap_setCell _ _ _ _ (show p ≠ f from hne)]
    exact h1
  · have g1 : Fr (fun j => j = p ∨ j = f) w ((w.setCell ⟨p, 0, none⟩ x).setCell ⟨p, 1, none⟩ y) := Fr.set (S := fun j => j = p ∨ j = f) (Fr.set (S := fun j => j = p ∨ j = f) (Fr.refl _ w) (p := ⟨p, 0, none⟩) (.inl rfl) _) (p := ⟨p, 1, none⟩) (.inl rfl) _
    exact fr_ft g1 (.inr rfl) _ _ _
set_option maxRecDepth 100000 in
set_option maxHeartbeats 8000000 in
theorem dask_any {l : List Ru} {A : List (Int × Int)} {v u : Value} {w : World} (hok : RsOk l) (g : SlAt ruC 5 w v l) (h : SlAt i2C 2 w u A) (hn : NilOk u) (hA : A.length ≤ 500) (a b : Int) :
    Calls Try.prog 11 #[.agg #[v, u], .int .i64 a, .int .i64 b] w fun e w' =>
      Below w.heap.size w w' ∧ ((isP a b = false ∧ e = .returned (.tuple #[.agg #[v, u], .agg #[.int .i64 0, .int .i64 0, .int .i64 0], .int .i64 2])) ∨
        (isP a b = true ∧ ∃ u', e = .returned (.tuple #[.agg #[v, u'], ftV (ftO (findR l (a, b, (cntP (A ++ [(a, b)]) a b : Int)))), .int .i64 0]) ∧ SlAt i2C 2 w' u' (A ++ [(a, b)]) ∧ NilOk u' ∧ ∀ j, u'.ownBlock = some j → w.heap.size ≤ j)) := by
  obtain ⟨ra, rc, rfl, _, hat⟩ := SlAt_rus g
  obtain ⟨ua, uc, rfl, _⟩ := SlAt_i2 h
  obtain ⟨n, hln⟩ : ∃ n, l.length = n := ⟨_, rfl⟩
  obtain ⟨an, han⟩ : ∃ n, A.length = n := ⟨_, rfl⟩
  have hl64 := hok.len
  rw [hln] at hat hl64 ⊢
  rw [han] at h hA hn ⊢
  have Hn := hidIn hln
  have Han := hidIn han
  have Hok := hidIn hok
  obtain ⟨W1, hW1⟩ : ∃ W1, ((w.alloc (.cells #[.slice ra n rc, .slice ua an uc] 35)).alloc (.cells #[.slice none 0 0, .slice none 0 0] 35)).alloc (.cells #[.int .i64 0, .int .i64 0, .int .i64 0] 38) = W1 := ⟨_, rfl⟩
  have b1 : Below w.heap.size w W1 := by rw [← hW1]; exact (((Below.refl _ w).alloc (Nat.le_refl _) _).alloc (by simp) _).alloc (by simp; omega) _
  have s1 : W1.heap.size = w.heap.size + 3 := by rw [← hW1]; simp
  have hX3 : W1.heap[w.heap.size]? = some (.cells #[.slice ra n rc, .slice ua an uc] 35) := by
    rw [← hW1, Below.heap_alloc _ _ _ (by simp; omega), Below.heap_alloc _ _ _ (by simp)]
    exact heap_alloc_last w _
  have hX6 : W1.heap[w.heap.size + 1]? = some (.cells #[.slice none 0 0, .slice none 0 0] 35) := by
    rw [← hW1, Below.heap_alloc _ _ _ (by simp)]
    have := heap_alloc_last (w.alloc (.cells #[.slice ra n rc, .slice ua an uc] 35)) (.cells #[.slice none 0 0, .slice none 0 0] 35)
    rwa [World.size_alloc] at this
  have hX7 : W1.heap[w.heap.size + 2]? = some (.cells #[.int .i64 0, .int .i64 0, .int .i64 0] 38) := by
    rw [← hW1]
    have := heap_alloc_last ((w.alloc (.cells #[.slice ra n rc, .slice ua an uc] 35)).alloc (.cells #[.slice none 0 0, .slice none 0 0] 35)) (.cells #[.int .i64 0, .int .i64 0, .int .i64 0] 38)
    rwa [World.size_alloc, World.size_alloc] at this
  have hU1 := h.keep b1 (Nat.le_refl _)
  have HCell : Hid (∀ j r, l[j]? = some r → ∃ bk o, ra = some ⟨bk, o, none⟩ ∧ bk < w.heap.size ∧ w.cell? ⟨bk, o + j * 5, none⟩ = some (.int .i64 r.1) ∧ w.cell? ⟨bk, o + j * 5 + 1, none⟩ = some (.int .i64 r.2.1) ∧ w.cell? ⟨bk, o + j * 5 + 2, none⟩ = some (.int .i64 r.2.2.1) ∧ w.cell? ⟨bk, o + j * 5 + 3, none⟩ = some (.int .i64 r.2.2.2.1) ∧ w.cell? ⟨bk, o + j * 5 + 4, none⟩ = some (.int .i64 r.2.2.2.2)) := hidIn fun j r hr => by
    have hj := (List.getElem?_eq_some_iff.1 hr).1
    obtain ⟨bk, o, rfl, hbk, hc⟩ := hat (by omega)
    exact ⟨bk, o, rfl, hbk, hc j r hr⟩
  obtain ⟨q, hq⟩ : ∃ q, w.heap.size = q := ⟨_, rfl⟩
  rw [hq] at b1 s1 hX3 hX6 hX7 HCell ⊢
  have HQ := hidIn hq
  have Hb1 := hidIn b1
  have Hs1 := hidIn s1
  have HX3 := hidIn hX3
  have HX6 := hidIn hX6
  have HX7 := hidIn hX7
  have HU1 := hidIn hU1
  have HNil := hidIn hn
  have HW := hidIn hW1
  clear g h hat hln han hok b1 s1 hX3 hX6 hX7 hU1 hn hW1 hq
  have HP := fun w => hidIn (dright_any a b w)
  cases hp : isP a b with
  | false =>
    rw [hp] at HP
    clear hp
    go_enter Try.func11, Try.ntmps11
    go_upto_region 1 with fail
    rw [HW.out, HQ.out]
    have c0 := cell_of_row _ _ 0 _ _ _ HX3.out
    have c1 := cell_of_row _ _ 1 _ _ _ HX3.out
    have d0 := cell_of_row _ _ 0 _ _ _ HX6.out
    have d1 := cell_of_row _ _ 1 _ _ _ HX6.out
    have g0 := frozen_new HX6.out 0
    have g1 := frozen_new HX6.out 1
    have e0 := cell_of_row _ _ 0 _ _ _ HX7.out
    have e1 := cell_of_row _ _ 1 _ _ _ HX7.out
    have e2 := cell_of_row _ _ 2 _ _ _ HX7.out
    have k0 := frozen_new HX7.out 0
    have k1 := frozen_new HX7.out 1
    have k2 := frozen_new HX7.out 2
    simp at c0 c1 d0 d1 e0 e1 e2
    go_wp2_with (go_at_call 26; refine (HP _).out.mono ?_; rintro e w1 ⟨rfl, hw1⟩; rw [hw1]; clear hw1 w1)
    obtain ⟨y1, y2, y3⟩ := fin_ok HX6.out HX7.out (by omega) (.slice ra n rc) (.slice ua an uc) (.int .i64 0) (.int .i64 0) (.int .i64 0)
    refine bodyPost_ret (v := .tuple #[.agg #[.slice ra n rc, .slice ua an uc], .agg #[.int .i64 0, .int .i64 0, .int .i64 0], .int .i64 2]) (by simp [results, Try.results11, asAddr, Result.andThen, load_dp y1, load_ft y2]) rfl ⟨?_, .inl ⟨by first | rfl | trivial, rfl⟩⟩
    exact Hb1.out.trans (y3.below (by have := Hs1.out; omega) (fun j hj => by omega))
  | true =>
    rw [hp] at HP
    clear hp
    obtain ⟨u2, w2, hrun2, hrow2, hb2, _⟩ := append_all (P := Try.prog) (cs := i2C) (sz := 2) (by' := 16) (W := W1) (base := W1.heap.size) (k := 0) (u := .slice none 0 0) (l := []) (m := A) (T := 33) (E := 73) (fun _ => rfl) (fun _ => by simp [Value.oneCell']) Try.underlying33 infoPr rfl (by decide) (World.ownsRow_nil W1 W1.heap.size 73 2) HU1.out (by have := Han.out; omega) (by have := Han.out; unfold maxLen; omega) (Nat.le_refl _) (by rcases HNil.out with h | h; exact .inl h; exact .inr ⟨h, rfl⟩)
    rw [List.nil_append, Nat.zero_add, Han.out] at hrow2
    obtain ⟨a2, c2, rfl⟩ := row_shape hrow2
    obtain ⟨g9, c9, w4, hrun4, hrow4, _, _, hb4⟩ := append_one (P := Try.prog) (cs := i2C) (by' := 16) (T := 33) (fun _ => rfl) (fun _ => by simp [Value.oneCell']) Try.underlying33 infoPr rfl (by decide) hrow2 (a, b) (by omega) (by unfold maxLen; omega) hb2.size
    have h3 := (hb4.block q (by have := Hs1.out; omega)).trans ((hb2.block q (by have := Hs1.out; omega)).trans HX3.out)
    have h6 := (hb4.block (q + 1) (by have := Hs1.out; omega)).trans ((hb2.block (q + 1) (by have := Hs1.out; omega)).trans HX6.out)
    have h7 := (hb4.block (q + 2) (by have := Hs1.out; omega)).trans ((hb2.block (q + 2) (by have := Hs1.out; omega)).trans HX7.out)
    have c0 := cell_of_row _ _ 0 _ _ _ HX3.out
    have c1 := cell_of_row _ _ 1 _ _ _ ((hb2.block q (by have := Hs1.out; omega)).trans HX3.out)
    have c1a := cell_of_row _ _ 1 _ _ _ HX3.out
    have c1b := cell_of_row _ _ 1 _ _ _ h3
    have f1b := frozen_new h3 1
    simp at c0 c1 c1a c1b
    obtain ⟨W5, hW5⟩ : ∃ W5, w4.setCell ⟨q, 1, none⟩ (.slice (some ⟨g9, 0, none⟩) (an + 1) c9) = W5 := ⟨_, rfl⟩
    have hF5 : Fr (fun j => j = q) w4 W5 := by rw [← hW5]; exact Fr.set (S := fun j => j = q) (Fr.refl _ w4) (p := ⟨q, 1, none⟩) rfl _
    have h53 : W5.heap[q]? = some (.cells #[.slice ra n rc, .slice (some ⟨g9, 0, none⟩) (an + 1) c9] 35) := by rw [← hW5]; exact heap_setCell_same _ _ _ _ _ _ h3
    have h56 := (hF5.block (q + 1) (block_lt h6) (by omega)).trans h6
    have h57 := (hF5.block (q + 2) (block_lt h7) (by omega)).trans h7
    have hb5 : Below q w W5 := ((Hb1.out.trans (hb2.mono (by have := Hs1.out; omega))).trans (hb4.mono (by have := Hs1.out; omega))).trans (hF5.below (by have := hb2.size; have := hb4.size; have := Hs1.out; omega) (fun j hj => by omega))
    have hgo : W1.heap.size ≤ g9 := (hrow4.lt g9 rfl).1
    have hrow5 := row_fr hrow4 hF5 (fun j hj => by
      simp [Value.ownBlock] at hj
      have := Hs1.out
      omega)
    have HRow5 := hidIn hrow5
    have HU5 := hidIn (slAt_of_row (cs := i2C) (fun _ => rfl) hrow5 (by rw [List.length_append, List.length_singleton, Han.out]))
    have HRun2 := hidIn hrun2
    have HRun4 := hidIn hrun4
    have H53 := hidIn h53
    have H56 := hidIn h56
    have H57 := hidIn h57
    have HB5 := hidIn hb5
    have Hgo := hidIn hgo
    have HW5 := hidIn hW5
    clear hrun2 hrow2 hb2 hrun4 hrow4 hb4 h3 h6 h7 hW5 hF5 h53 h56 h57 hb5 hgo hrow5 HX3 HX6 HX7 HU1 HNil
    go_enter Try.func11, Try.ntmps11
    go_upto_region 1 with fail
    rw [HW.out, HQ.out]
    clear HW
    go_upto_region 5 with (first
      | (go_at_call 26; refine (HP _).out.mono ?_; rintro e w1 ⟨rfl, hw1⟩; rw [hw1]; clear hw1 w1)
      | (refine l_append rfl _ _ 33 rfl HRun2.out ?_))
    go_upto_region 6 with (refine l_append rfl _ _ 33 rfl HRun4.out ?_)
    rw [HW5.out]
    clear c0 c1 c1a c1b f1b HW5 HRun2 HRun4
    have c0 := cell_of_row _ _ 0 _ _ _ H53.out
    have c1 := cell_of_row _ _ 1 _ _ _ H53.out
    simp at c0 c1
    go_wp2_with fail
    refine (dcount_any HU5.out (by rw [List.length_append, List.length_singleton]; have := Han.out; omega) a b).mono ?_
    rintro e w6 ⟨rfl, hb6⟩
    obtain ⟨m, hm⟩ : ∃ m, (cntP (A ++ [(a, b)]) a b : Int) = m := ⟨_, rfl⟩
    have Hm := hidIn hm
    rw [hm]
    have H63 := hidIn ((hb6.block _ (block_lt H53.out)).trans H53.out)
    have H66 := hidIn ((hb6.block _ (block_lt H56.out)).trans H56.out)
    have H67 := hidIn ((hb6.block _ (block_lt H57.out)).trans H57.out)
    have HB6 := hidIn (HB5.out.trans (hb6.mono (by have := block_lt H53.out; omega)))
    have HRow6 := hidIn (row_below HRow5.out hb6 (Nat.le_refl _))
    have HS6 : Hid (q + 3 ≤ w6.heap.size) := hidIn (by have := block_lt H57.out; have := hb6.size; omega)
    clear c0 c1 hm hb6 H53 H56 H57 HB5 HRow5 HU5
    go_wp2_with fail
    go_loopw [11] (fun iv wr => ∃ j : Nat, j ≤ n ∧ iv = .int .i64 j ∧ Hid (Below w6.heap.size w6 wr ∧ findR (l.take j) (a, b, m) = none)) (fun iv _ => n - (intOf iv).toNat)
    case atStart => exact ⟨0, Nat.zero_le _, rfl, hidIn ⟨Below.refl _ _, by simp [findR]⟩⟩
    case round =>
      obtain ⟨j, hj, rfl, HZ⟩ := hrel
      have hbz := HZ.out.1
      have hX3 := (hbz.block q (block_lt H63.out)).trans H63.out
      have hX6 := (hbz.block (q + 1) (block_lt H66.out)).trans H66.out
      have hX7 := (hbz.block (q + 2) (block_lt H67.out)).trans H67.out
      have HBz := hidIn (HB6.out.trans (hbz.mono (by have := HS6.out; omega)))
      have HRowz := hidIn (row_below HRow6.out hbz (Nat.le_refl _))
      have x0 := cell_of_row _ _ 0 _ _ _ hX3
      have x1 := cell_of_row _ _ 1 _ _ _ hX3
      simp at x0 x1
      by_cases hlj : j < n
      · have hji : (j : Int) < (n : Int) := by omega
        obtain ⟨⟨r0, r1, r2, r3, r4⟩, hr⟩ : ∃ r, l[j]? = some r := ⟨l[j]'(by have := Hn.out; omega), List.getElem?_eq_getElem _⟩
        obtain ⟨bk, o, rfl, hbk, q0, q1, q2, q3, q4⟩ := HCell.out j _ hr
        have hbq := HBz.out
        have c0 := (hbq.cell (p := ⟨bk, o + j * 5, none⟩) hbk).trans q0
        have c1 := (hbq.cell (p := ⟨bk, o + j * 5 + 1, none⟩) hbk).trans q1
        have c2 := (hbq.cell (p := ⟨bk, o + j * 5 + 2, none⟩) hbk).trans q2
        have c3 := (hbq.cell (p := ⟨bk, o + j * 5 + 3, none⟩) hbk).trans q3
        have c4 := (hbq.cell (p := ⟨bk, o + j * 5 + 4, none⟩) hbk).trans q4
        simp only at c0 c1 c2 c3 c4
        obtain ⟨W7, hW7⟩ : ∃ W7, wr.alloc (.cells #[.int .i64 r0, .int .i64 r1, .int .i64 r2, .int .i64 r3, .int .i64 r4] 32) = W7 := ⟨_, rfl⟩
        have b7 : Below wr.heap.size wr W7 := by rw [← hW7]; exact (Below.refl _ wr).alloc (Nat.le_refl _) _
        obtain ⟨x4, hx4⟩ : ∃ x4, wr.heap.size = x4 := ⟨_, rfl⟩
        have hX4 : W7.heap[x4]? = some (.cells #[.int .i64 r0, .int .i64 r1, .int .i64 r2, .int .i64 r3, .int .i64 r4] 32) := by rw [← hW7, ← hx4]; exact heap_alloc_last wr _
        have h73 := (b7.block q (block_lt hX3)).trans hX3
        have h76 := (b7.block (q + 1) (block_lt hX6)).trans hX6
        have h77 := (b7.block (q + 2) (block_lt hX7)).trans hX7
        have H73 := hidIn h73
        have H76 := hidIn h76
        have H77 := hidIn h77
        have H74 := hidIn hX4
        have HBel6 := hidIn (hbz.trans (b7.mono hbz.size))
        have HB7 := hidIn (HBz.out.trans (b7.mono (by have := HS6.out; have := hbz.size; omega)))
        have HRow7 := hidIn (row_below HRowz.out b7 (Nat.le_refl _))
        have Hx4q : Hid (q + 2 < x4) := hidIn (by have := block_lt hX7; omega)
        have HF := hidIn HZ.out.2
        have Hr := hidIn hr
        have HW7 := hidIn hW7
        have Hx4 := hidIn hx4
        clear hbz hX3 hX6 hX7 hr q0 q1 q2 q3 q4 hbq hbk hW7 b7 hx4 h73 h76 h77 HZ HBz HRowz
        go_upto_region 11 with fail
        rw [HW7.out, Hx4.out]
        clear HW7 Hx4 c0 c1 c2 c3 c4 x0 x1
        have c0 := cell_of_row _ _ 0 _ _ _ hX4
        have c1 := cell_of_row _ _ 1 _ _ _ hX4
        have c2 := cell_of_row _ _ 2 _ _ _ hX4
        have c3 := cell_of_row _ _ 3 _ _ _ hX4
        have c4 := cell_of_row _ _ 4 _ _ _ hX4
        simp at c0 c1 c2 c3 c4
        clear hX4
        obtain ⟨e1, he1⟩ : ∃ e, (r0 != a) = e := ⟨_, rfl⟩
        obtain ⟨e2, he2⟩ : ∃ e, (r1 != b) = e := ⟨_, rfl⟩
        obtain ⟨e3, he3⟩ : ∃ e, (r2 != m) = e := ⟨_, rfl⟩
        have HE : Hid (kR (r0, r1, r2, r3, r4) = (a, b, m) ↔ (e1 = false ∧ e2 = false ∧ e3 = false)) := hidIn (by
          rw [← he1, ← he2, ← he3]
          simp [kR])
        have HNo : Hid (¬ (e1 = false ∧ e2 = false ∧ e3 = false) → findR (l.take (j + 1)) (a, b, m) = none) := hidIn (fun hne => by
          rw [find_take Hr.out, if_neg (fun h => hne (HE.out.1 h)), Option.or_none]
          exact HF.out)
        cases e1 with
        | true =>
          clear he2 he3 c1 c2 c3 c4
          go_wp2_with fail
          go_roundw
          case rel => exact ⟨j + 1, by omega, by go_num, hidIn ⟨HBel6.out, HNo.out (by simp)⟩⟩
          case measure => simp [intOf]; omega
        | false =>
          cases e2 with
          | true =>
            clear he3 c2 c3 c4
            go_wp2_with fail
            go_roundw
            case rel => exact ⟨j + 1, by omega, by go_num, hidIn ⟨HBel6.out, HNo.out (by simp)⟩⟩
            case measure => simp [intOf]; omega
          | false =>
            cases e3 with
            | true =>
              go_wp2_with fail
              go_roundw
              case rel => exact ⟨j + 1, by omega, by go_num, hidIn ⟨HBel6.out, HNo.out (by simp)⟩⟩
              case measure => simp [intOf]; omega
            | false =>
              have hK : kR (r0, r1, r2, r3, r4) = (a, b, m) := HE.out.2 ⟨rfl, rfl, rfl⟩
              have HSome : Hid (findR l (a, b, m) = some (r0, r1, r2, r3, r4)) := hidIn (by rw [← hK]; exact findR_mem Hok.out.uniq (List.mem_of_getElem? Hr.out))
              have hkd := ru_kind (Hok.out.ok _ (List.mem_of_getElem? Hr.out))
              have y0 := cell_of_row _ _ 0 _ _ _ H73.out
              have y1 := cell_of_row _ _ 1 _ _ _ H73.out
              have d0 := cell_of_row _ _ 0 _ _ _ H76.out
              have d1 := cell_of_row _ _ 1 _ _ _ H76.out
              have g0 := frozen_new H76.out 0
              have g1 := frozen_new H76.out 1
              have k0 := cell_of_row _ _ 0 _ _ _ H77.out
              have k1 := cell_of_row _ _ 1 _ _ _ H77.out
              have k2 := cell_of_row _ _ 2 _ _ _ H77.out
              have m0 := frozen_new H77.out 0
              have m1 := frozen_new H77.out 1
              have m2 := frozen_new H77.out 2
              simp at y0 y1 d0 d1 k0 k1 k2
              clear hK HE HNo
              rcases hkd with h3 | h3 | h3
              · obtain rfl : r3 = 1 := h3
                go_wp2_with fail
                obtain ⟨z1, z2, z3⟩ := fin_ok H76.out H77.out (by omega) (.slice (some ⟨bk, o, none⟩) n rc) (.slice (some ⟨g9, 0, none⟩) (an + 1) c9) (.int .i64 0) (.int .i64 0) (.int .i64 0)
                refine bodyPost_ret (v := .tuple #[.agg #[.slice (some ⟨bk, o, none⟩) n rc, .slice (some ⟨g9, 0, none⟩) (an + 1) c9], .agg #[.int .i64 0, .int .i64 0, .int .i64 0], .int .i64 0]) (by simp [results, Try.results11, asAddr, Result.andThen, load_dp z1, load_ft z2]) rfl ?_
                first
                  | refine ⟨?_, .inr ⟨by first | rfl | trivial, _, by rw [Hm.out, HSome.out]; rfl, ?_, .inl ⟨_, _, _, rfl⟩, fun j hj => ?_⟩⟩
                  | refine ⟨?_, _, by rw [Hm.out, HSome.out]; rfl, ?_, .inl ⟨_, _, _, rfl⟩, fun j hj => ?_⟩
                · exact HB7.out.trans (z3.below (by have := block_lt H77.out; omega) (fun j hj => by omega))
                · refine slAt_of_row (cs := i2C) (fun _ => rfl) (row_fr HRow7.out z3 (fun j hj => ?_)) (by rw [List.length_append, List.length_singleton, Han.out])
                  simp [Value.ownBlock] at hj
                  have := Hgo.out
                  have := Hs1.out
                  omega
                · simp [Value.ownBlock] at hj
                  have := Hgo.out
                  have := Hs1.out
                  omega
              · obtain rfl : r3 = 2 := h3
                go_wp2_with fail
                refine wp_region_held_drew (S := fun wx => Fr (fun t => t = q + 1 ∨ t = q + 2) W7 wx) (by kernel_rfl) ((Fr.refl _ W7).drew) (fun hHeld => ?_)
                have hd0 : Fr (fun t => t = q + 1 ∨ t = q + 2) W7 W7.drew := hHeld
                clear hHeld
                refine wpAnyH_take (i := 0) (v := .agg #[.slice (some ⟨bk, o, none⟩) n rc, .slice (some ⟨g9, 0, none⟩) (an + 1) c9]) rfl (by kernel_rfl) (by kernel_rfl) (by kernel_rfl) (fun _ _ _ h => h) (Or.inl ⟨by kernel_rfl, fun wq hSw => by
                    have hq0 := (hSw.block q (block_lt H73.out) (by omega)).trans H73.out
                    have z0 := cell_of_row _ _ 0 _ _ _ hq0
                    have z1 := cell_of_row _ _ 1 _ _ _ hq0
                    simp at z0 z1
                    go_simp⟩) (by assumption) ?_
                refine wpAnyH_take (i := 1) (v := .pointer (some ⟨x4, 4, none⟩)) rfl (by kernel_rfl) (by kernel_rfl) (by kernel_rfl) (fun _ _ _ h => h) (Or.inl ⟨by kernel_rfl, fun _ _ => by kernel_rfl⟩) (by assumption) ?_
                refine wpAnyH_take (i := 2) (v := .int .i64 r4) rfl (by kernel_rfl) (by kernel_rfl) (by kernel_rfl) (fun _ _ _ h => h) (Or.inl ⟨by kernel_rfl, fun wq hSw => by
                    have hq0 := (hSw.block x4 (block_lt H74.out) (by have := Hx4q.out; omega)).trans H74.out
                    have z0 := cell_of_row _ _ 4 _ _ _ hq0
                    simp at z0
                    go_simp⟩) (by assumption) ?_
                refine wpAnyH_take (i := 3) (v := .agg #[.int .i64 2, .int .i64 0, .int .i64 r4]) rfl (by kernel_rfl) (by kernel_rfl) (by kernel_rfl) (fun _ _ _ h => h) (Or.inl ⟨by kernel_rfl, fun _ _ => by kernel_rfl⟩) (by assumption) ?_
                have hs1 : Fr (fun t => t = q + 1 ∨ t = q + 2) W7 ((W7.setCell ⟨q + 1, 0, none⟩ (.slice (some ⟨bk, o, none⟩) n rc)).setCell ⟨q + 1, 1, none⟩ (.slice (some ⟨g9, 0, none⟩) (an + 1) c9)).drew := (Fr.set (S := fun t => t = q + 1 ∨ t = q + 2) (Fr.set (S := fun t => t = q + 1 ∨ t = q + 2) (Fr.refl _ W7) (p := ⟨q + 1, 0, none⟩) (.inl rfl) _) (p := ⟨q + 1, 1, none⟩) (.inl rfl) _).drew
                refine wpAnyH_ready (rs := [4]) (by kernel_rfl) (by simp) ?_
                refine AllReadyH.cons (i := 4) rfl ?_ AllReadyH.nil
                go_simp
                intro K hK
                refine hK.out _ _ hs1 (fun _ => ?_)
                clear hK K
                have hs2 : Fr (fun t => t = q + 1 ∨ t = q + 2) W7 (finW W7 (q + 1) (q + 2) (.slice (some ⟨bk, o, none⟩) n rc) (.slice (some ⟨g9, 0, none⟩) (an + 1) c9) (.int .i64 2) (.int .i64 0) (.int .i64 r4)).drew := (fr_ft (S := fun t => t = q + 1 ∨ t = q + 2) (Fr.set (S := fun t => t = q + 1 ∨ t = q + 2) (Fr.set (S := fun t => t = q + 1 ∨ t = q + 2) (Fr.refl _ W7) (p := ⟨q + 1, 0, none⟩) (.inl rfl) _) (p := ⟨q + 1, 1, none⟩) (.inl rfl) _) (.inr rfl) _ _ _).drew
                refine wpAnyH_ready (rs := [5]) (by kernel_rfl) (by simp) ?_
                refine AllReadyH.cons (i := 5) rfl ?_ AllReadyH.nil
                go_simp
                intro K hK
                refine hK.out _ _ hs2 (fun _ => ?_)
                clear hK K
                refine wpAnyH_ready (rs := [6]) (by kernel_rfl) (by simp) ?_
                refine AllReadyH.cons (i := 6) rfl ?_ AllReadyH.nil
                go_simp
                intro K hK
                refine hK.out _ _ hs2 (fun _ => ?_)
                clear hK K
                refine wpAnyH_done (by kernel_rfl) ?_ _
                clear hs1 hs2 hd0 y0 y1 d0 d1 g0 g1 k0 k1 k2 m0 m1 m2 c0 c1 c2 c3 c4 he1 he2 he3
                obtain ⟨WF, hWF⟩ : ∃ WF, (((((W7.setCell ⟨q + 1, 0, none⟩ (.slice (some ⟨bk, o, none⟩) n rc)).setCell ⟨q + 1, 1, none⟩ (.slice (some ⟨g9, 0, none⟩) (an + 1) c9)).setCell ⟨q + 1 + 1, 0, none⟩ (.int .i64 2)).setCell ⟨q + 1 + 1, 1, none⟩ (.int .i64 0)).setCell ⟨q + 1 + 1, 2, none⟩ (.int .i64 r4)).drew = WF := ⟨_, rfl⟩
                rw [hWF]
                go_wp2_with fail
                obtain ⟨z1, z2, z3⟩ := fin_ok H76.out H77.out (by omega) (.slice (some ⟨bk, o, none⟩) n rc) (.slice (some ⟨g9, 0, none⟩) (an + 1) c9) (.int .i64 2) (.int .i64 0) (.int .i64 r4)
                have z1 : WF.heap[q + 1]? = some (.cells #[.slice (some ⟨bk, o, none⟩) n rc, .slice (some ⟨g9, 0, none⟩) (an + 1) c9] 35) := by rw [← hWF]; exact z1
                have z2 : WF.heap[q + 1 + 1]? = some (.cells #[.int .i64 2, .int .i64 0, .int .i64 r4] 38) := by rw [← hWF]; exact z2
                have z3 : Fr (fun j => j = q + 1 ∨ j = q + 2) W7 WF := by rw [← hWF]; exact z3.drew
                clear hWF
                refine bodyPost_ret (v := .tuple #[.agg #[.slice (some ⟨bk, o, none⟩) n rc, .slice (some ⟨g9, 0, none⟩) (an + 1) c9], .agg #[.int .i64 2, .int .i64 0, .int .i64 r4], .int .i64 0]) (by simp [results, Try.results11, asAddr, Result.andThen, load_dp z1, load_ft z2]) rfl ?_
                first
                  | refine ⟨?_, .inr ⟨by first | rfl | trivial, _, by rw [Hm.out, HSome.out]; rfl, ?_, .inl ⟨_, _, _, rfl⟩, fun j hj => ?_⟩⟩
                  | refine ⟨?_, _, by rw [Hm.out, HSome.out]; rfl, ?_, .inl ⟨_, _, _, rfl⟩, fun j hj => ?_⟩
                · exact HB7.out.trans (z3.below (by have := block_lt H77.out; omega) (fun j hj => by omega))
                · refine slAt_of_row (cs := i2C) (fun _ => rfl) (row_fr HRow7.out z3 (fun j hj => ?_)) (by rw [List.length_append, List.length_singleton, Han.out])
                  simp [Value.ownBlock] at hj
                  have := Hgo.out
                  have := Hs1.out
                  omega
                · simp [Value.ownBlock] at hj
                  have := Hgo.out
                  have := Hs1.out
                  omega
              · obtain rfl : r3 = 3 := h3
                go_wp2_with fail
                refine wp_region_held_drew (S := fun wx => Fr (fun t => t = q + 1 ∨ t = q + 2) W7 wx) (by kernel_rfl) ((Fr.refl _ W7).drew) (fun hHeld => ?_)
                have hd0 : Fr (fun t => t = q + 1 ∨ t = q + 2) W7 W7.drew := hHeld
                clear hHeld
                refine wpAnyH_take (i := 0) (v := .agg #[.slice (some ⟨bk, o, none⟩) n rc, .slice (some ⟨g9, 0, none⟩) (an + 1) c9]) rfl (by kernel_rfl) (by kernel_rfl) (by kernel_rfl) (fun _ _ _ h => h) (Or.inl ⟨by kernel_rfl, fun wq hSw => by
                    have hq0 := (hSw.block q (block_lt H73.out) (by omega)).trans H73.out
                    have z0 := cell_of_row _ _ 0 _ _ _ hq0
                    have z1 := cell_of_row _ _ 1 _ _ _ hq0
                    simp at z0 z1
                    go_simp⟩) (by assumption) ?_
                refine wpAnyH_take (i := 1) (v := .pointer (some ⟨x4, 4, none⟩)) rfl (by kernel_rfl) (by kernel_rfl) (by kernel_rfl) (fun _ _ _ h => h) (Or.inl ⟨by kernel_rfl, fun _ _ => by kernel_rfl⟩) (by assumption) ?_
                refine wpAnyH_take (i := 2) (v := .int .i64 r4) rfl (by kernel_rfl) (by kernel_rfl) (by kernel_rfl) (fun _ _ _ h => h) (Or.inl ⟨by kernel_rfl, fun wq hSw => by
                    have hq0 := (hSw.block x4 (block_lt H74.out) (by have := Hx4q.out; omega)).trans H74.out
                    have z0 := cell_of_row _ _ 4 _ _ _ hq0
                    simp at z0
                    go_simp⟩) (by assumption) ?_
                refine wpAnyH_take (i := 3) (v := .agg #[.int .i64 1, .int .i64 r4, .int .i64 0]) rfl (by kernel_rfl) (by kernel_rfl) (by kernel_rfl) (fun _ _ _ h => h) (Or.inl ⟨by kernel_rfl, fun _ _ => by kernel_rfl⟩) (by assumption) ?_
                have hs1 : Fr (fun t => t = q + 1 ∨ t = q + 2) W7 ((W7.setCell ⟨q + 1, 0, none⟩ (.slice (some ⟨bk, o, none⟩) n rc)).setCell ⟨q + 1, 1, none⟩ (.slice (some ⟨g9, 0, none⟩) (an + 1) c9)).drew := (Fr.set (S := fun t => t = q + 1 ∨ t = q + 2) (Fr.set (S := fun t => t = q + 1 ∨ t = q + 2) (Fr.refl _ W7) (p := ⟨q + 1, 0, none⟩) (.inl rfl) _) (p := ⟨q + 1, 1, none⟩) (.inl rfl) _).drew
                refine wpAnyH_ready (rs := [4]) (by kernel_rfl) (by simp) ?_
                refine AllReadyH.cons (i := 4) rfl ?_ AllReadyH.nil
                go_simp
                intro K hK
                refine hK.out _ _ hs1 (fun _ => ?_)
                clear hK K
                have hs2 : Fr (fun t => t = q + 1 ∨ t = q + 2) W7 (finW W7 (q + 1) (q + 2) (.slice (some ⟨bk, o, none⟩) n rc) (.slice (some ⟨g9, 0, none⟩) (an + 1) c9) (.int .i64 1) (.int .i64 r4) (.int .i64 0)).drew := (fr_ft (S := fun t => t = q + 1 ∨ t = q + 2) (Fr.set (S := fun t => t = q + 1 ∨ t = q + 2) (Fr.set (S := fun t => t = q + 1 ∨ t = q + 2) (Fr.refl _ W7) (p := ⟨q + 1, 0, none⟩) (.inl rfl) _) (p := ⟨q + 1, 1, none⟩) (.inl rfl) _) (.inr rfl) _ _ _).drew
                refine wpAnyH_ready (rs := [5]) (by kernel_rfl) (by simp) ?_
                refine AllReadyH.cons (i := 5) rfl ?_ AllReadyH.nil
                go_simp
                intro K hK
                refine hK.out _ _ hs2 (fun _ => ?_)
                clear hK K
                refine wpAnyH_ready (rs := [6]) (by kernel_rfl) (by simp) ?_
                refine AllReadyH.cons (i := 6) rfl ?_ AllReadyH.nil
                go_simp
                intro K hK
                refine hK.out _ _ hs2 (fun _ => ?_)
                clear hK K
                refine wpAnyH_done (by kernel_rfl) ?_ _
                clear hs1 hs2 hd0 y0 y1 d0 d1 g0 g1 k0 k1 k2 m0 m1 m2 c0 c1 c2 c3 c4 he1 he2 he3
                obtain ⟨WF, hWF⟩ : ∃ WF, (((((W7.setCell ⟨q + 1, 0, none⟩ (.slice (some ⟨bk, o, none⟩) n rc)).setCell ⟨q + 1, 1, none⟩ (.slice (some ⟨g9, 0, none⟩) (an + 1) c9)).setCell ⟨q + 1 + 1, 0, none⟩ (.int .i64 1)).setCell ⟨q + 1 + 1, 1, none⟩ (.int .i64 r4)).setCell ⟨q + 1 + 1, 2, none⟩ (.int .i64 0)).drew = WF := ⟨_, rfl⟩
                rw [hWF]
                go_wp2_with fail
                obtain ⟨z1, z2, z3⟩ := fin_ok H76.out H77.out (by omega) (.slice (some ⟨bk, o, none⟩) n rc) (.slice (some ⟨g9, 0, none⟩) (an + 1) c9) (.int .i64 1) (.int .i64 r4) (.int .i64 0)
                have z1 : WF.heap[q + 1]? = some (.cells #[.slice (some ⟨bk, o, none⟩) n rc, .slice (some ⟨g9, 0, none⟩) (an + 1) c9] 35) := by rw [← hWF]; exact z1
                have z2 : WF.heap[q + 1 + 1]? = some (.cells #[.int .i64 1, .int .i64 r4, .int .i64 0] 38) := by rw [← hWF]; exact z2
                have z3 : Fr (fun j => j = q + 1 ∨ j = q + 2) W7 WF := by rw [← hWF]; exact z3.drew
                clear hWF
                refine bodyPost_ret (v := .tuple #[.agg #[.slice (some ⟨bk, o, none⟩) n rc, .slice (some ⟨g9, 0, none⟩) (an + 1) c9], .agg #[.int .i64 1, .int .i64 r4, .int .i64 0], .int .i64 0]) (by simp [results, Try.results11, asAddr, Result.andThen, load_dp z1, load_ft z2]) rfl ?_
                first
                  | refine ⟨?_, .inr ⟨by first | rfl | trivial, _, by rw [Hm.out, HSome.out]; rfl, ?_, .inl ⟨_, _, _, rfl⟩, fun j hj => ?_⟩⟩
                  | refine ⟨?_, _, by rw [Hm.out, HSome.out]; rfl, ?_, .inl ⟨_, _, _, rfl⟩, fun j hj => ?_⟩
                · exact HB7.out.trans (z3.below (by have := block_lt H77.out; omega) (fun j hj => by omega))
                · refine slAt_of_row (cs := i2C) (fun _ => rfl) (row_fr HRow7.out z3 (fun j hj => ?_)) (by rw [List.length_append, List.length_singleton, Han.out])
                  simp [Value.ownBlock] at hj
                  have := Hgo.out
                  have := Hs1.out
                  omega
                · simp [Value.ownBlock] at hj
                  have := Hgo.out
                  have := Hs1.out
                  omega
      · have hji : ¬ (j : Int) < (n : Int) := by omega
        have hjn : j = l.length := by have := Hn.out; omega
        have HNone : Hid (findR l (a, b, m) = none) := hidIn (by have := HZ.out.2; rw [hjn, List.take_length] at this; exact this)
        have H73 := hidIn hX3
        have H76 := hidIn hX6
        have H77 := hidIn hX7
        have d0 := cell_of_row _ _ 0 _ _ _ hX6
        have d1 := cell_of_row _ _ 1 _ _ _ hX6
        have g0 := frozen_new hX6 0
        have g1 := frozen_new hX6 1
        have k0 := cell_of_row _ _ 0 _ _ _ hX7
        have k1 := cell_of_row _ _ 1 _ _ _ hX7
        have k2 := cell_of_row _ _ 2 _ _ _ hX7
        have m0 := frozen_new hX7 0
        have m1 := frozen_new hX7 1
        have m2 := frozen_new hX7 2
        simp at d0 d1 k0 k1 k2
        clear hjn hbz hX3 hX6 hX7 HZ
        go_wp2_with fail
        obtain ⟨z1, z2, z3⟩ := fin_ok H76.out H77.out (by omega) (.slice ra n rc) (.slice (some ⟨g9, 0, none⟩) (an + 1) c9) (.int .i64 1) (.int .i64 0) (.int .i64 0)
        refine bodyPost_ret (v := .tuple #[.agg #[.slice ra n rc, .slice (some ⟨g9, 0, none⟩) (an + 1) c9], .agg #[.int .i64 1, .int .i64 0, .int .i64 0], .int .i64 0]) (by simp [results, Try.results11, asAddr, Result.andThen, load_dp z1, load_ft z2]) rfl ?_
        first
          | refine ⟨?_, .inr ⟨by first | rfl | trivial, _, by rw [Hm.out, HNone.out]; rfl, ?_, .inl ⟨_, _, _, rfl⟩, fun j hj => ?_⟩⟩
          | refine ⟨?_, _, by rw [Hm.out, HNone.out]; rfl, ?_, .inl ⟨_, _, _, rfl⟩, fun j hj => ?_⟩
        · exact HBz.out.trans (z3.below (by have := block_lt H77.out; omega) (fun j hj => by omega))
        · refine slAt_of_row (cs := i2C) (fun _ => rfl) (row_fr HRowz.out z3 (fun j hj => ?_)) (by rw [List.length_append, List.length_singleton, Han.out])
          simp [Value.ownBlock] at hj
          have := Hgo.out
          have := Hs1.out
          omega
        · simp [Value.ownBlock] at hj
          have := Hgo.out
          have := Hs1.out
          omega
end Go.Proofs.Ytkkgbcoclfpicaa.Fa
