/- The document's Decode. -/
import Derived.Test.YtclnhohfiimcdaaXD
import Derived.Test.YtclnhohfiimcdaaGF
namespace Go.Proofs.Ytclnhohfiimcdaa
open Go.RowKit

/-- While the document's Decode reads: the answer's block, the record's. -/
structure DdM (w V : World) (rb : Nat) (r : Rc) (va : Value) (n : Nat) : Prop where
  x : V.heap[w.heap.size]? = some zeroO
  q : V.heap[rb]? = some (recO r va)
  row : V.ownsRow (rb + 1) 36 2 va n (fl ac r.adjs)
  b : Below w.heap.size w V
  l : w.heap.size < rb
theorem DdM.keep {w V V' : World} {rb n : Nat} {r : Rc} {va : Value} (h : DdM w V rb r va n) (hb : Below V.heap.size V V') : DdM w V' rb r va n :=
  ⟨(hb.block _ (block_lt h.x)).trans h.x, (hb.block _ (block_lt h.q)).trans h.q, row_below h.row hb (Nat.le_refl _), h.b.trans (hb.mono h.b.size), h.l⟩
theorem DdM.add {w V : World} {rb n : Nat} {O E Q C : Int} {I : Bool} {L : List (Int × Int)} {va : Value} (h : DdM w V rb ⟨O, E, Q, C, I, L⟩ va n) (x : Int × Int) (hn : n ≤ 1000) :
    ∃ g cap w6, (Builtin.append_ #[23, 23] 23 #[va, .slice (some ⟨V.heap.size, 0, none⟩) 1 1]).run Try.prog (V.alloc (.cells (ac x).toArray 36)) = .ok (.slice (some ⟨g, 0, none⟩) (n + 1) cap) w6 ∧
      w6.cell? ⟨rb, 5, none⟩ = some va ∧ w6.frozen? ⟨rb, 5, none⟩ = false ∧ DdM w (w6.setCell ⟨rb, 5, none⟩ (.slice (some ⟨g, 0, none⟩) (n + 1) cap)) rb ⟨O, E, Q, C, I, L ++ [x]⟩ (.slice (some ⟨g, 0, none⟩) (n + 1) cap) (n + 1) := by
  have hlt := block_lt h.q
  have hl := h.l
  obtain ⟨g, cap, w6, hrun, hrow, _, _, hb⟩ := append_adj h.row x (by omega) (by omega)
  have hq6 := (hb.block _ (by omega)).trans h.q
  have hx6 := (hb.block _ (by omega)).trans h.x
  have c5 := cell_of_row _ _ 5 _ _ _ hq6
  simp at c5
  have hF := (Fr.refl (fun k => k = rb) w6).set (p := ⟨rb, 5, none⟩) rfl (.slice (some ⟨g, 0, none⟩) (n + 1) cap)
  refine ⟨g, cap, w6, hrun, c5, frozen_new hq6 5, (hF.block _ (block_lt hx6) (by omega)).trans hx6, ?_, row_fr hrow hF (fun j hj e => by have := (hrow.lt j hj).1; omega), (h.b.trans (hb.mono (by omega))).setCell (p := ⟨rb, 5, none⟩) (by show w.heap.size ≤ rb; omega) _, h.l⟩
  have := heap_setCell_same w6 rb 5 _ _ (.slice (some ⟨g, 0, none⟩) (n + 1) cap) hq6
  simpa using this
set_option maxRecDepth 100000 in
set_option maxHeartbeats 2000000 in
theorem ddecode_any (b : ByteArray) (hb : b.size ≤ maxLen) (w : World) :
    Calls Try.prog 19 #[.string b] w fun e w' => (∃ v, e = .returned (.tuple #[recV (deA b).1 v, .int .i64 (deA b).2]) ∧ w'.ownsRow w.heap.size 36 2 v (deA b).1.adjs.length (fl ac (deA b).1.adjs)) ∧ Below w.heap.size w w' := by
  obtain ⟨V1, hV1⟩ : ∃ V1, w.alloc zeroO = V1 := ⟨_, rfl⟩
  have b1 : Below w.heap.size w V1 := by rw [← hV1]; exact (Below.refl _ w).alloc (Nat.le_refl _) _
  have hX : V1.heap[w.heap.size]? = some zeroO := by rw [← hV1]; exact heap_alloc_last w _
  have t0 := tkz_lt b 0 1
  have t1 := tkz_lt b 1 4
  have t2 := tkz_lt b 5 4
  have t3 := tkz_lt b 9 2
  have t4 := tkz_lt b 11 1
  have t5 := tkz_lt b 12 1
  have HT0 := hidIn (fun w1 => dtake_any b 0 1 hb (by omega) (.inl rfl) w1)
  have HT1 := hidIn (fun w1 => dtake_any b 1 4 hb (by omega) (.inr (.inr rfl)) w1)
  have HT2 := hidIn (fun w1 => dtake_any b 5 4 hb (by omega) (.inr (.inr rfl)) w1)
  have HT3 := hidIn (fun w1 => dtake_any b 9 2 hb (by omega) (.inr (.inl rfl)) w1)
  have HT4 := hidIn (fun w1 => dtake_any b 11 1 hb (by omega) (.inl rfl) w1)
  have HT5 := hidIn (fun w1 => dtake_any b 12 1 hb (by omega) (.inl rfl) w1)
  obtain ⟨ok, hok⟩ : ∃ ok, rdOk b = ok := ⟨_, rfl⟩
  obtain ⟨res, hres⟩ : ∃ res, deA b = res := ⟨_, rfl⟩
  rw [hres]
  have HRes : Hid (res = deA b) := hidIn hres.symm
  have HYes : Hid (rdOk b = true → 13 + 3 * tkz b 12 1 = b.size ∧ recOk (rdR b) = true ∧ encS (rdR b) = b) := hidIn fun h => ⟨(rdOk_parts h).1, (rdOk_parts h).2, enc_rd h⟩
  have HRd : Hid ((⟨((tkz b 0 1 : Nat) : Int), ((tkz b 1 4 : Nat) : Int), ((tkz b 5 4 : Nat) : Int), ((tkz b 9 2 : Nat) : Int), decide (tkz b 11 1 = 1), rdA b (tkz b 12 1)⟩ : Rc) = rdR b) := hidIn rfl
  obtain ⟨R, hR⟩ : ∃ R, rdR b = R := ⟨_, rfl⟩
  have hRes2 : deA b = if ok then (R, 0) else (zeroR, 4) := by unfold deA; rw [hok, hR]
  rw [hRes2] at HRes
  rw [hR] at HYes HRd
  have Hok := hidIn hok
  clear hres hRes2 hR hok
  have HTA := hidIn (fun k (h : k ≤ 256) w1 => dtake_any b (13 + 3 * k) 1 hb (by omega) (.inl rfl) w1)
  have HTB := hidIn (fun k (h : k ≤ 256) w1 => dtake_any b (14 + 3 * k) 2 hb (by omega) (.inr (.inl rfl)) w1)
  have HXY := hidIn (fun k => And.intro (tkz_lt b (13 + 3 * k) 1) (tkz_lt b (14 + 3 * k) 2))
  have HAS := hidIn (rdA_succ b)
  generalize tkz b 0 1 = T0 at *
  generalize tkz b 1 4 = T1 at *
  generalize tkz b 5 4 = T2 at *
  generalize tkz b 9 2 = T3 at *
  generalize tkz b 11 1 = T4 at *
  generalize tkz b 12 1 = TN at *
  simp at t0 t1 t2 t3 t4 t5
  obtain ⟨ib, hib⟩ : ∃ ib, decide (T4 = 1) = ib := ⟨_, rfl⟩
  have hib2 : ((T4 : Int) == 1) = ib := by rw [← hib]; by_cases h : T4 = 1 <;> simp [h] <;> omega
  rw [hib] at HRd
  clear hib
  have HX := hidIn hX
  have HB := hidIn b1
  have HW := hidIn hV1
  have hbs : (b.size : Int) ≤ 9223372036854775807 := by unfold maxLen at hb; omega
  clear hV1 b1 hX
  go_enter Try.func19, Try.ntmps19
  go_upto_region 1 with fail
  rw [HW.out]
  clear HW
  go_wp2_with fail
  refine (HT0.out _).mono ?_
  rintro e w2 ⟨rfl, hw2⟩
  rw [hw2]
  clear hw2 w2
  go_wp2_with fail
  refine (HT1.out _).mono ?_
  rintro e w2 ⟨rfl, hw2⟩
  rw [hw2]
  clear hw2 w2
  go_wp2_with fail
  refine (HT2.out _).mono ?_
  rintro e w2 ⟨rfl, hw2⟩
  rw [hw2]
  clear hw2 w2
  go_wp2_with fail
  refine (HT3.out _).mono ?_
  rintro e w2 ⟨rfl, hw2⟩
  rw [hw2]
  clear hw2 w2
  go_wp2_with fail
  refine (HT4.out _).mono ?_
  rintro e w2 ⟨rfl, hw2⟩
  rw [hw2]
  clear hw2 w2
  clear HT0 HT1 HT2 HT3 HT4
  obtain ⟨W, hW⟩ : ∃ W, V1.alloc (recO ⟨(T0 : Int), (T1 : Int), (T2 : Int), (T3 : Int), ib, []⟩ (.slice none 0 0)) = W := ⟨_, rfl⟩
  have bW : Below V1.heap.size V1 W := by rw [← hW]; exact (Below.refl _ V1).alloc (Nat.le_refl _) _
  have hS : W.heap[V1.heap.size]? = some (recO ⟨(T0 : Int), (T1 : Int), (T2 : Int), (T3 : Int), ib, []⟩ (.slice none 0 0)) := by rw [← hW]; exact heap_alloc_last V1 _
  obtain ⟨rb, hrb⟩ : ∃ rb, V1.heap.size = rb := ⟨_, rfl⟩
  rw [hrb] at hS
  have HM1 : Hid (DdM w W rb ⟨(T0 : Int), (T1 : Int), (T2 : Int), (T3 : Int), ib, rdA b 0⟩ (.slice none 0 0) 0) := hidIn ⟨(bW.block _ (block_lt HX.out)).trans HX.out, hS, World.ownsRow_nil _ _ _ _, HB.out.trans (bW.mono HB.out.size), by rw [← hrb]; exact block_lt HX.out⟩
  have HWd := hidIn hW
  have Hrb := hidIn hrb
  clear hW bW hS hrb HX HB
  go_upto_region 2 with fail
  rw [show V1.alloc _ = W from HWd.out, Hrb.out]
  clear HWd Hrb
  go_wp2_with fail
  go_loopw [5] (fun i wr => ∃ k : Nat, k ≤ TN ∧ i = .int .i64 k ∧ Hid (∃ va, DdM w wr rb ⟨(T0 : Int), (T1 : Int), (T2 : Int), (T3 : Int), ib, rdA b k⟩ va k)) (fun i _ => TN - (intOf i).toNat)
  case atStart => exact ⟨0, Nat.zero_le _, rfl, hidIn ⟨_, HM1.out⟩⟩
  case round =>
    clear HM1
    obtain ⟨k, hk, rfl, HR⟩ := hrel
    obtain ⟨va, hM⟩ := HR.out
    clear HR
    have HM0 := hidIn hM
    clear hM
    by_cases hlt : k < TN
    · have hki : (k : Int) < (TN : Int) := by omega
      by_cases hsz : 13 + 3 * k < b.size
      · have hsi : 13 + 3 * (k : Int) < (b.size : Int) := by omega
        obtain ⟨tx, ty⟩ := HXY.out k
        have HTa : Hid (∀ w1, Calls Try.prog 36 #[.string b, .int .i64 (13 + 3 * (k : Int)), .int .i64 1] w1 fun e w' => e = .returned (.int .u64 (tkz b (13 + 3 * k) 1 : Nat)) ∧ w' = w1) := hidIn fun w1 => by
          have h := HTA.out k (by omega) w1
          rw [show ((13 + 3 * k : Nat) : Int) = 13 + 3 * (k : Int) by omega] at h
          exact h
        have HTb : Hid (∀ w1, Calls Try.prog 36 #[.string b, .int .i64 (14 + 3 * (k : Int)), .int .i64 2] w1 fun e w' => e = .returned (.int .u64 (tkz b (14 + 3 * k) 2 : Nat)) ∧ w' = w1) := hidIn fun w1 => by
          have h := HTB.out k (by omega) w1
          rw [show ((14 + 3 * k : Nat) : Int) = 14 + 3 * (k : Int) by omega] at h
          exact h
        have HA1 := hidIn (HAS.out k)
        generalize tkz b (13 + 3 * k) 1 = X at *
        generalize tkz b (14 + 3 * k) 2 = Y at *
        simp at tx ty
        have hw3 : IntKind.i64.wrap (3 * (k : Int)) = 3 * (k : Int) := by rw [IntKind.wrap_i64]; omega
        have hw13 : IntKind.i64.wrap (13 + 3 * (k : Int)) = 13 + 3 * (k : Int) := by rw [IntKind.wrap_i64]; omega
        have hw14 : IntKind.i64.wrap (14 + 3 * (k : Int)) = 14 + 3 * (k : Int) := by rw [IntKind.wrap_i64]; omega
        have hwX : IntKind.i64.wrap (X : Int) = (X : Int) := by rw [IntKind.wrap_i64]; omega
        have hwY : IntKind.i64.wrap (Y : Int) = (Y : Int) := by rw [IntKind.wrap_i64]; omega
        go_wp2_with fail
        refine (HT5.out _).mono ?_
        rintro e w2 ⟨rfl, hw2⟩
        rw [hw2]
        clear hw2 w2
        go_upto_region 5 with fail
        refine wp_region_held_drew (S := fun _ => True) (by kernel_rfl) trivial (fun hHeld => ?_)
        have HMD := hidIn (HM0.out.keep ((Below.refl _ wr).drew))
        generalize wr.drew = WD at HMD ⊢
        clear HM0
        obtain ⟨g, cap, w6, hrun, k5, f5, h3⟩ := HMD.out.add ((X : Int), (Y : Int)) (by omega)
        have H3 : Hid (DdM w (w6.setCell ⟨rb, 5, none⟩ (.slice (some ⟨g, 0, none⟩) (k + 1) cap)) rb ⟨(T0 : Int), (T1 : Int), (T2 : Int), (T3 : Int), ib, rdA b (k + 1)⟩ (.slice (some ⟨g, 0, none⟩) (k + 1) cap) (k + 1)) := hidIn (by rw [HA1.out]; exact h3)
        have z5 := cell_of_row _ _ 5 _ _ _ HMD.out.q
        simp at z5
        obtain ⟨V, hV⟩ : ∃ V, WD.alloc (.cells #[.int .i64 (X : Int), .int .i64 (Y : Int)] 36) = V := ⟨_, rfl⟩
        have z6 : V.cell? ⟨rb, 5, none⟩ = some va := by
          have hq : V.heap[rb]? = some (recO ⟨(T0 : Int), (T1 : Int), (T2 : Int), (T3 : Int), ib, rdA b k⟩ va) := by rw [← hV]; exact (Below.heap_alloc _ _ _ (block_lt HMD.out.q)).trans HMD.out.q
          have := cell_of_row _ _ 5 _ _ _ hq
          simpa using this
        have HRun : Hid ((Builtin.append_ #[23, 23] 23 #[va, .slice (some ⟨WD.heap.size, 0, none⟩) 1 1]).run Try.prog V = .ok (.slice (some ⟨g, 0, none⟩) (k + 1) cap) w6) := hidIn (by rw [← hV]; exact hrun)
        have HW := hidIn hV
        obtain ⟨sb, hsb⟩ : ∃ sb, WD.heap.size = sb := ⟨_, rfl⟩
        clear hrun h3 hV HMD HA1 hsb sb
        refine wpAnyH_take (i := 0) (v := ?_) rfl (by kernel_rfl) (by kernel_rfl) (by kernel_rfl) (fun _ _ _ h => h) (Or.inl ⟨by rfl, ?_⟩) (by assumption) ?_
        rotate_left
        · intro wq hSw
          clear hSw
          go_simp
          try (with_reducible rfl)
        refine wpAnyH_take (i := 2) (v := ?_) rfl (by kernel_rfl) (by kernel_rfl) (by kernel_rfl) (fun _ _ _ h => h) (Or.inl ⟨by rfl, ?_⟩) (by assumption) ?_
        rotate_left
        · intro wq hSw
          clear hSw
          go_simp
          try (with_reducible rfl)
        refine wpAnyH_take (i := 3) (v := ?_) rfl (by kernel_rfl) (by kernel_rfl) (by kernel_rfl) (fun _ _ _ h => h) (Or.inl ⟨by rfl, ?_⟩) (by assumption) ?_
        rotate_left
        · intro wq hSw
          clear hSw
          go_simp
          try (with_reducible rfl)
        refine wpAnyH_take (i := 4) (v := ?_) rfl (by kernel_rfl) (by kernel_rfl) (by kernel_rfl) (fun _ _ _ h => h) (Or.inl ⟨by rfl, ?_⟩) (by assumption) ?_
        rotate_left
        · intro wq hSw
          clear hSw
          go_simp
          try (with_reducible rfl)
        refine wpAnyH_take (i := 5) (v := ?_) rfl (by kernel_rfl) (by kernel_rfl) (by kernel_rfl) (fun _ _ _ h => h) (Or.inl ⟨by rfl, ?_⟩) (by assumption) ?_
        rotate_left
        · intro wq hSw
          clear hSw
          go_simp
          try (with_reducible rfl)
        refine wpAnyH_take (i := 8) (v := ?_) rfl (by kernel_rfl) (by kernel_rfl) (by kernel_rfl) (fun _ _ _ h => h) (Or.inl ⟨by rfl, ?_⟩) (by assumption) ?_
        rotate_left
        · intro wq hSw
          clear hSw
          go_simp
          try (with_reducible rfl)
        refine wpAnyH_take (i := 9) (v := ?_) rfl (by kernel_rfl) (by kernel_rfl) (by kernel_rfl) (fun _ _ _ h => h) (Or.inl ⟨by rfl, ?_⟩) (by assumption) ?_
        rotate_left
        · intro wq hSw
          clear hSw
          go_simp
          try (with_reducible rfl)
        refine wpAnyH_take (i := 10) (v := ?_) rfl (by kernel_rfl) (by kernel_rfl) (by kernel_rfl) (fun _ _ _ h => h) (Or.inl ⟨by rfl, ?_⟩) (by assumption) ?_
        rotate_left
        · intro wq hSw
          clear hSw
          go_simp
          try (with_reducible rfl)
        refine wpAnyH_take (i := 11) (v := ?_) rfl (by kernel_rfl) (by kernel_rfl) (by kernel_rfl) (fun _ _ _ h => h) (Or.inl ⟨by rfl, ?_⟩) (by assumption) ?_
        rotate_left
        · intro wq hSw
          clear hSw
          go_simp
          try (with_reducible rfl)
        refine wpAnyH_ready (rs := [1, 6]) (by kernel_rfl) (by simp) ?_
        refine AllReadyH.cons rfl (fun K hK => ?_) (AllReadyH.cons rfl (fun K hK => ?_) AllReadyH.nil)
        · go_simp
          refine hK.out _ _ trivial (fun _ => ?_)
          clear hK K
          refine wpAnyH_ready (rs := [6]) (by kernel_rfl) (by simp) ?_
          refine AllReadyH.cons rfl (fun K hK => ?_) AllReadyH.nil
          go_simp
          refine (HTa.out _).mono ?_
          rintro e w2 ⟨rfl, hw2⟩
          rw [hw2]
          clear hw2 w2
          refine hK.out _ _ trivial (fun _ => ?_)
          clear hK K
          refine wpAnyH_take (i := 7) (v := ?_) rfl (by kernel_rfl) (by kernel_rfl) (by kernel_rfl) (fun _ _ _ h => h) (Or.inl ⟨by rfl, ?_⟩) (by assumption) ?_
          rotate_left
          · intro wq hSw
            clear hSw
            go_simp
            try (with_reducible rfl)
          refine wpAnyH_ready (rs := [12]) (by kernel_rfl) (by simp) ?_
          refine AllReadyH.cons rfl (fun K hK => ?_) AllReadyH.nil
          go_simp
          refine (HTb.out _).mono ?_
          rintro e w2 ⟨rfl, hw2⟩
          rw [hw2]
          clear hw2 w2
          refine hK.out _ _ trivial (fun _ => ?_)
          clear hK K
          refine wpAnyH_take (i := 13) (v := ?_) rfl (by kernel_rfl) (by kernel_rfl) (by kernel_rfl) (fun _ _ _ h => h) (Or.inl ⟨by rfl, ?_⟩) (by assumption) ?_
          rotate_left
          · intro wq hSw
            clear hSw
            go_simp
            try (with_reducible rfl)
          refine wpAnyH_take (i := 14) (v := ?_) rfl (by kernel_rfl) (by kernel_rfl) (by kernel_rfl) (fun _ _ _ h => h) (Or.inl ⟨by rfl, ?_⟩) (by assumption) ?_
          rotate_left
          · intro wq hSw
            clear hSw
            go_simp
            try (with_reducible rfl)
          refine wpAnyH_ready (rs := [15]) (by kernel_rfl) (by simp) ?_
          refine AllReadyH.cons rfl (fun K hK => ?_) AllReadyH.nil
          go_simp
          rw [show World.alloc _ _ = V from HW.out]
          refine hK.out _ _ trivial (fun _ => ?_)
          clear hK K
          refine wpAnyH_ready (rs := [16]) (by kernel_rfl) (by simp) ?_
          refine AllReadyH.cons rfl (fun K hK => ?_) AllReadyH.nil
          refine step_append rfl (.tmp 40) (.tmp 54) 23 rfl (by kernel_rfl) (by kernel_rfl) HRun.out ?_
          refine hK.out _ _ trivial (fun _ => ?_)
          clear hK K
          refine wpAnyH_ready (rs := [17]) (by kernel_rfl) (by simp) ?_
          refine AllReadyH.cons rfl (fun K hK => ?_) AllReadyH.nil
          go_simp
          refine hK.out _ _ trivial (fun _ => ?_)
          clear hK K
          refine wpAnyH_ready (rs := [18]) (by kernel_rfl) (by simp) ?_
          refine AllReadyH.cons rfl (fun K hK => ?_) AllReadyH.nil
          go_simp
          refine hK.out _ _ trivial (fun _ => ?_)
          clear hK K
          refine wpAnyH_done (by kernel_rfl) ?_ _
          clear z5 z6 k5 f5
          generalize World.setCell _ _ _ = W7 at H3 ⊢
          go_wp2_with fail
          go_roundw
          case rel => exact ⟨k + 1, by omega, by go_num, hidIn ⟨_, H3.out⟩⟩
          case measure => simp [intOf]; omega
        · go_simp
          refine (HTa.out _).mono ?_
          rintro e w2 ⟨rfl, hw2⟩
          rw [hw2]
          clear hw2 w2
          refine hK.out _ _ trivial (fun _ => ?_)
          clear hK K
          refine wpAnyH_take (i := 7) (v := ?_) rfl (by kernel_rfl) (by kernel_rfl) (by kernel_rfl) (fun _ _ _ h => h) (Or.inl ⟨by rfl, ?_⟩) (by assumption) ?_
          rotate_left
          · intro wq hSw
            clear hSw
            go_simp
            try (with_reducible rfl)
          refine wpAnyH_ready (rs := [1, 12]) (by kernel_rfl) (by simp) ?_
          refine AllReadyH.cons rfl (fun K hK => ?_) (AllReadyH.cons rfl (fun K hK => ?_) AllReadyH.nil)
          · go_simp
            refine hK.out _ _ trivial (fun _ => ?_)
            clear hK K
            refine wpAnyH_ready (rs := [12]) (by kernel_rfl) (by simp) ?_
            refine AllReadyH.cons rfl (fun K hK => ?_) AllReadyH.nil
            go_simp
            refine (HTb.out _).mono ?_
            rintro e w2 ⟨rfl, hw2⟩
            rw [hw2]
            clear hw2 w2
            refine hK.out _ _ trivial (fun _ => ?_)
            clear hK K
            refine wpAnyH_take (i := 13) (v := ?_) rfl (by kernel_rfl) (by kernel_rfl) (by kernel_rfl) (fun _ _ _ h => h) (Or.inl ⟨by rfl, ?_⟩) (by assumption) ?_
            rotate_left
            · intro wq hSw
              clear hSw
              go_simp
              try (with_reducible rfl)
            refine wpAnyH_take (i := 14) (v := ?_) rfl (by kernel_rfl) (by kernel_rfl) (by kernel_rfl) (fun _ _ _ h => h) (Or.inl ⟨by rfl, ?_⟩) (by assumption) ?_
            rotate_left
            · intro wq hSw
              clear hSw
              go_simp
              try (with_reducible rfl)
            refine wpAnyH_ready (rs := [15]) (by kernel_rfl) (by simp) ?_
            refine AllReadyH.cons rfl (fun K hK => ?_) AllReadyH.nil
            go_simp
            rw [show World.alloc _ _ = V from HW.out]
            refine hK.out _ _ trivial (fun _ => ?_)
            clear hK K
            refine wpAnyH_ready (rs := [16]) (by kernel_rfl) (by simp) ?_
            refine AllReadyH.cons rfl (fun K hK => ?_) AllReadyH.nil
            refine step_append rfl (.tmp 40) (.tmp 54) 23 rfl (by kernel_rfl) (by kernel_rfl) HRun.out ?_
            refine hK.out _ _ trivial (fun _ => ?_)
            clear hK K
            refine wpAnyH_ready (rs := [17]) (by kernel_rfl) (by simp) ?_
            refine AllReadyH.cons rfl (fun K hK => ?_) AllReadyH.nil
            go_simp
            refine hK.out _ _ trivial (fun _ => ?_)
            clear hK K
            refine wpAnyH_ready (rs := [18]) (by kernel_rfl) (by simp) ?_
            refine AllReadyH.cons rfl (fun K hK => ?_) AllReadyH.nil
            go_simp
            refine hK.out _ _ trivial (fun _ => ?_)
            clear hK K
            refine wpAnyH_done (by kernel_rfl) ?_ _
            clear z5 z6 k5 f5
            generalize World.setCell _ _ _ = W7 at H3 ⊢
            go_wp2_with fail
            go_roundw
            case rel => exact ⟨k + 1, by omega, by go_num, hidIn ⟨_, H3.out⟩⟩
            case measure => simp [intOf]; omega
          · go_simp
            refine (HTb.out _).mono ?_
            rintro e w2 ⟨rfl, hw2⟩
            rw [hw2]
            clear hw2 w2
            refine hK.out _ _ trivial (fun _ => ?_)
            clear hK K
            refine wpAnyH_take (i := 13) (v := ?_) rfl (by kernel_rfl) (by kernel_rfl) (by kernel_rfl) (fun _ _ _ h => h) (Or.inl ⟨by rfl, ?_⟩) (by assumption) ?_
            rotate_left
            · intro wq hSw
              clear hSw
              go_simp
              try (with_reducible rfl)
            refine wpAnyH_take (i := 14) (v := ?_) rfl (by kernel_rfl) (by kernel_rfl) (by kernel_rfl) (fun _ _ _ h => h) (Or.inl ⟨by rfl, ?_⟩) (by assumption) ?_
            rotate_left
            · intro wq hSw
              clear hSw
              go_simp
              try (with_reducible rfl)
            refine wpAnyH_ready (rs := [1, 15]) (by kernel_rfl) (by simp) ?_
            refine AllReadyH.cons rfl (fun K hK => ?_) (AllReadyH.cons rfl (fun K hK => ?_) AllReadyH.nil)
            · go_simp
              refine hK.out _ _ trivial (fun _ => ?_)
              clear hK K
              refine wpAnyH_ready (rs := [15]) (by kernel_rfl) (by simp) ?_
              refine AllReadyH.cons rfl (fun K hK => ?_) AllReadyH.nil
              go_simp
              rw [show World.alloc _ _ = V from HW.out]
              refine hK.out _ _ trivial (fun _ => ?_)
              clear hK K
              refine wpAnyH_ready (rs := [16]) (by kernel_rfl) (by simp) ?_
              refine AllReadyH.cons rfl (fun K hK => ?_) AllReadyH.nil
              refine step_append rfl (.tmp 40) (.tmp 54) 23 rfl (by kernel_rfl) (by kernel_rfl) HRun.out ?_
              refine hK.out _ _ trivial (fun _ => ?_)
              clear hK K
              refine wpAnyH_ready (rs := [17]) (by kernel_rfl) (by simp) ?_
              refine AllReadyH.cons rfl (fun K hK => ?_) AllReadyH.nil
              go_simp
              refine hK.out _ _ trivial (fun _ => ?_)
              clear hK K
              refine wpAnyH_ready (rs := [18]) (by kernel_rfl) (by simp) ?_
              refine AllReadyH.cons rfl (fun K hK => ?_) AllReadyH.nil
              go_simp
              refine hK.out _ _ trivial (fun _ => ?_)
              clear hK K
              refine wpAnyH_done (by kernel_rfl) ?_ _
              clear z5 z6 k5 f5
              generalize World.setCell _ _ _ = W7 at H3 ⊢
              go_wp2_with fail
              go_roundw
              case rel => exact ⟨k + 1, by omega, by go_num, hidIn ⟨_, H3.out⟩⟩
              case measure => simp [intOf]; omega
            · go_simp
              rw [show World.alloc _ _ = V from HW.out]
              refine hK.out _ _ trivial (fun _ => ?_)
              clear hK K
              refine wpAnyH_ready (rs := [1]) (by kernel_rfl) (by simp) ?_
              refine AllReadyH.cons rfl (fun K hK => ?_) AllReadyH.nil
              go_simp
              refine hK.out _ _ trivial (fun _ => ?_)
              clear hK K
              refine wpAnyH_ready (rs := [16]) (by kernel_rfl) (by simp) ?_
              refine AllReadyH.cons rfl (fun K hK => ?_) AllReadyH.nil
              refine step_append rfl (.tmp 40) (.tmp 54) 23 rfl (by kernel_rfl) (by kernel_rfl) HRun.out ?_
              refine hK.out _ _ trivial (fun _ => ?_)
              clear hK K
              refine wpAnyH_ready (rs := [17]) (by kernel_rfl) (by simp) ?_
              refine AllReadyH.cons rfl (fun K hK => ?_) AllReadyH.nil
              go_simp
              refine hK.out _ _ trivial (fun _ => ?_)
              clear hK K
              refine wpAnyH_ready (rs := [18]) (by kernel_rfl) (by simp) ?_
              refine AllReadyH.cons rfl (fun K hK => ?_) AllReadyH.nil
              go_simp
              refine hK.out _ _ trivial (fun _ => ?_)
              clear hK K
              refine wpAnyH_done (by kernel_rfl) ?_ _
              clear z5 z6 k5 f5
              generalize World.setCell _ _ _ = W7 at H3 ⊢
              go_wp2_with fail
              go_roundw
              case rel => exact ⟨k + 1, by omega, by go_num, hidIn ⟨_, H3.out⟩⟩
              case measure => simp [intOf]; omega
      · have hsi : ¬ 13 + 3 * (k : Int) < (b.size : Int) := by omega
        have hend : k < TN → b.size ≤ 13 + 3 * k := fun _ => by omega
        obtain ⟨aa, acap, rfl⟩ := row_shape HM0.out.row
        have HEn := hidIn (dencode_any (r := ⟨(T0 : Int), (T1 : Int), (T2 : Int), (T3 : Int), ib, rdA b k⟩) (slAt_of_row (cs := ac) (sz := 2) (fun _ => rfl) HM0.out.row (rdA_len b k)) ⟨by show (0 : Int) ≤ (T1 : Int); omega, by show (T1 : Int) < _; omega, by show (0 : Int) ≤ (T2 : Int); omega, by show (T2 : Int) < _; omega⟩)
        have HRb : Hid (RcB (⟨(T0 : Int), (T1 : Int), (T2 : Int), (T3 : Int), ib, rdA b k⟩ : Rc)) := hidIn ⟨by show (0 : Int) ≤ (T1 : Int); omega, by show (T1 : Int) < _; omega, by show (0 : Int) ≤ (T2 : Int); omega, by show (T2 : Int) < _; omega⟩
        have z0 := cell_of_row _ _ 0 _ _ _ HM0.out.q
        have z1 := cell_of_row _ _ 1 _ _ _ HM0.out.q
        have z2 := cell_of_row _ _ 2 _ _ _ HM0.out.q
        have z3 := cell_of_row _ _ 3 _ _ _ HM0.out.q
        have z4 := cell_of_row _ _ 4 _ _ _ HM0.out.q
        have z5 := cell_of_row _ _ 5 _ _ _ HM0.out.q
        simp at z0 z1 z2 z3 z4 z5
        obtain ⟨m, hm⟩ : ∃ m, recOk (⟨(T0 : Int), (T1 : Int), (T2 : Int), (T3 : Int), ib, rdA b k⟩ : Rc) = m := ⟨_, rfl⟩
        have Hm := hidIn hm
        have hen : enA (⟨(T0 : Int), (T1 : Int), (T2 : Int), (T3 : Int), ib, rdA b k⟩ : Rc) = if m then (encS (⟨(T0 : Int), (T1 : Int), (T2 : Int), (T3 : Int), ib, rdA b k⟩ : Rc), 0) else (⟨#[]⟩, 2) := by unfold enA; rw [hm]
        rw [hen] at HEn
        clear hm hen
        go_wp2_with fail
        refine (HT5.out _).mono ?_
        rintro e w2 ⟨rfl, hw2⟩
        rw [hw2]
        clear hw2 w2
        go_wp2_with fail
        refine HEn.out.mono ?_
        rintro e w4 ⟨rfl, hb4⟩
        have HM := hidIn (HM0.out.keep hb4)
        clear hb4 HEn HM0 z0 z1 z2 z3 z4 z5
        have y0 := cell_of_row _ _ 0 _ _ _ HM.out.x
        have z0 := cell_of_row _ _ 0 _ _ _ HM.out.q
        have g0 := frozen_new HM.out.x 0
        have y1 := cell_of_row _ _ 1 _ _ _ HM.out.x
        have z1 := cell_of_row _ _ 1 _ _ _ HM.out.q
        have g1 := frozen_new HM.out.x 1
        have y2 := cell_of_row _ _ 2 _ _ _ HM.out.x
        have z2 := cell_of_row _ _ 2 _ _ _ HM.out.q
        have g2 := frozen_new HM.out.x 2
        have y3 := cell_of_row _ _ 3 _ _ _ HM.out.x
        have z3 := cell_of_row _ _ 3 _ _ _ HM.out.q
        have g3 := frozen_new HM.out.x 3
        have y4 := cell_of_row _ _ 4 _ _ _ HM.out.x
        have z4 := cell_of_row _ _ 4 _ _ _ HM.out.q
        have g4 := frozen_new HM.out.x 4
        have y5 := cell_of_row _ _ 5 _ _ _ HM.out.x
        have z5 := cell_of_row _ _ 5 _ _ _ HM.out.q
        have g5 := frozen_new HM.out.x 5
        simp at y0 z0 y1 z1 y2 z2 y3 z3 y4 z4 y5 z5
        cases ok
        · clear z0 z1 z2 z3 z4 z5
          cases m
          · simp only [Bool.false_eq_true, if_false]
            go_wp2_with fail
            have hV := set6 (.int .i64 0) (.int .u32 0) (.int .u32 0) (.int .i64 0) (.bool false) (.slice none 0 0) HM.out.x
            have HFV := hidIn (fr6 (S := fun k => k = w.heap.size) (Fr.refl _ w4) rfl (.int .i64 0) (.int .u32 0) (.int .u32 0) (.int .i64 0) (.bool false) (.slice none 0 0))
            have HBV := hidIn (HM.out.b.trans (HFV.out.below HM.out.b.size (fun k hk => by omega)))
            generalize (((((World.setCell _ _ _).setCell _ _).setCell _ _).setCell _ _).setCell _ _).setCell _ _ = Z at hV HFV HBV ⊢
            clear y0 y1 y2 y3 y4 y5 g0 g1 g2 g3 g4 g5
            have e0 := cell_of_row _ _ 0 _ _ _ hV
            have e1 := cell_of_row _ _ 1 _ _ _ hV
            have e2 := cell_of_row _ _ 2 _ _ _ hV
            have e3 := cell_of_row _ _ 3 _ _ _ hV
            have e4 := cell_of_row _ _ 4 _ _ _ hV
            have e5 := cell_of_row _ _ 5 _ _ _ hV
            simp at e0 e1 e2 e3 e4 e5
            refine bodyPost_ret (v := .tuple #[.agg #[.int .i64 0, .int .u32 0, .int .u32 0, .int .i64 0, .bool false, .slice none 0 0], .int .i64 4]) (by simp [results, Try.results19, asAddr, Result.andThen, go_sem, e0, e1, e2, e3, e4, e5]) rfl ⟨⟨.slice none 0 0, ?_, ?_⟩, HBV.out⟩
            · rw [HRes.out]; rfl
            · rw [HRes.out]; exact World.ownsRow_nil _ _ _ _
          · simp only [if_true]
            have hne : ¬ (encS (⟨(T0 : Int), (T1 : Int), (T2 : Int), (T3 : Int), ib, rdA b k⟩ : Rc)).toList = b.toList := fun h => by
              rw [ByteArray.toList_eq, ByteArray.toList_eq] at h
              have h2 := enc_ok Hm.out HRb.out
              rw [ext_data h, Hok.out] at h2
              cases h2
            have hnb : ((encS (⟨(T0 : Int), (T1 : Int), (T2 : Int), (T3 : Int), ib, rdA b k⟩ : Rc)).toList == b.toList) = false := by simpa using hne
            generalize encS (⟨(T0 : Int), (T1 : Int), (T2 : Int), (T3 : Int), ib, rdA b k⟩ : Rc) = SS at hne hnb ⊢
            go_wp2_with fail
            have hV := set6 (.int .i64 0) (.int .u32 0) (.int .u32 0) (.int .i64 0) (.bool false) (.slice none 0 0) HM.out.x
            have HFV := hidIn (fr6 (S := fun k => k = w.heap.size) (Fr.refl _ w4) rfl (.int .i64 0) (.int .u32 0) (.int .u32 0) (.int .i64 0) (.bool false) (.slice none 0 0))
            have HBV := hidIn (HM.out.b.trans (HFV.out.below HM.out.b.size (fun k hk => by omega)))
            generalize (((((World.setCell _ _ _).setCell _ _).setCell _ _).setCell _ _).setCell _ _).setCell _ _ = Z at hV HFV HBV ⊢
            clear y0 y1 y2 y3 y4 y5 g0 g1 g2 g3 g4 g5
            have e0 := cell_of_row _ _ 0 _ _ _ hV
            have e1 := cell_of_row _ _ 1 _ _ _ hV
            have e2 := cell_of_row _ _ 2 _ _ _ hV
            have e3 := cell_of_row _ _ 3 _ _ _ hV
            have e4 := cell_of_row _ _ 4 _ _ _ hV
            have e5 := cell_of_row _ _ 5 _ _ _ hV
            simp at e0 e1 e2 e3 e4 e5
            refine bodyPost_ret (v := .tuple #[.agg #[.int .i64 0, .int .u32 0, .int .u32 0, .int .i64 0, .bool false, .slice none 0 0], .int .i64 4]) (by simp [results, Try.results19, asAddr, Result.andThen, go_sem, e0, e1, e2, e3, e4, e5]) rfl ⟨⟨.slice none 0 0, ?_, ?_⟩, HBV.out⟩
            · rw [HRes.out]; rfl
            · rw [HRes.out]; exact World.ownsRow_nil _ _ _ _
        · have hkN := (HYes.out Hok.out).1
          exact absurd hlt (by omega)
    · have hki : ¬ (k : Int) < (TN : Int) := by omega
      obtain ⟨aa, acap, rfl⟩ := row_shape HM0.out.row
      have HEn := hidIn (dencode_any (r := ⟨(T0 : Int), (T1 : Int), (T2 : Int), (T3 : Int), ib, rdA b k⟩) (slAt_of_row (cs := ac) (sz := 2) (fun _ => rfl) HM0.out.row (rdA_len b k)) ⟨by show (0 : Int) ≤ (T1 : Int); omega, by show (T1 : Int) < _; omega, by show (0 : Int) ≤ (T2 : Int); omega, by show (T2 : Int) < _; omega⟩)
      have HRb : Hid (RcB (⟨(T0 : Int), (T1 : Int), (T2 : Int), (T3 : Int), ib, rdA b k⟩ : Rc)) := hidIn ⟨by show (0 : Int) ≤ (T1 : Int); omega, by show (T1 : Int) < _; omega, by show (0 : Int) ≤ (T2 : Int); omega, by show (T2 : Int) < _; omega⟩
      have z0 := cell_of_row _ _ 0 _ _ _ HM0.out.q
      have z1 := cell_of_row _ _ 1 _ _ _ HM0.out.q
      have z2 := cell_of_row _ _ 2 _ _ _ HM0.out.q
      have z3 := cell_of_row _ _ 3 _ _ _ HM0.out.q
      have z4 := cell_of_row _ _ 4 _ _ _ HM0.out.q
      have z5 := cell_of_row _ _ 5 _ _ _ HM0.out.q
      simp at z0 z1 z2 z3 z4 z5
      obtain ⟨m, hm⟩ : ∃ m, recOk (⟨(T0 : Int), (T1 : Int), (T2 : Int), (T3 : Int), ib, rdA b k⟩ : Rc) = m := ⟨_, rfl⟩
      have Hm := hidIn hm
      have hen : enA (⟨(T0 : Int), (T1 : Int), (T2 : Int), (T3 : Int), ib, rdA b k⟩ : Rc) = if m then (encS (⟨(T0 : Int), (T1 : Int), (T2 : Int), (T3 : Int), ib, rdA b k⟩ : Rc), 0) else (⟨#[]⟩, 2) := by unfold enA; rw [hm]
      rw [hen] at HEn
      clear hm hen
      go_wp2_with fail
      refine (HT5.out _).mono ?_
      rintro e w2 ⟨rfl, hw2⟩
      rw [hw2]
      clear hw2 w2
      go_wp2_with fail
      refine HEn.out.mono ?_
      rintro e w4 ⟨rfl, hb4⟩
      have HM := hidIn (HM0.out.keep hb4)
      clear hb4 HEn HM0 z0 z1 z2 z3 z4 z5
      have y0 := cell_of_row _ _ 0 _ _ _ HM.out.x
      have z0 := cell_of_row _ _ 0 _ _ _ HM.out.q
      have g0 := frozen_new HM.out.x 0
      have y1 := cell_of_row _ _ 1 _ _ _ HM.out.x
      have z1 := cell_of_row _ _ 1 _ _ _ HM.out.q
      have g1 := frozen_new HM.out.x 1
      have y2 := cell_of_row _ _ 2 _ _ _ HM.out.x
      have z2 := cell_of_row _ _ 2 _ _ _ HM.out.q
      have g2 := frozen_new HM.out.x 2
      have y3 := cell_of_row _ _ 3 _ _ _ HM.out.x
      have z3 := cell_of_row _ _ 3 _ _ _ HM.out.q
      have g3 := frozen_new HM.out.x 3
      have y4 := cell_of_row _ _ 4 _ _ _ HM.out.x
      have z4 := cell_of_row _ _ 4 _ _ _ HM.out.q
      have g4 := frozen_new HM.out.x 4
      have y5 := cell_of_row _ _ 5 _ _ _ HM.out.x
      have z5 := cell_of_row _ _ 5 _ _ _ HM.out.q
      have g5 := frozen_new HM.out.x 5
      simp at y0 z0 y1 z1 y2 z2 y3 z3 y4 z4 y5 z5
      cases ok
      · clear z0 z1 z2 z3 z4 z5
        cases m
        · simp only [Bool.false_eq_true, if_false]
          go_wp2_with fail
          have hV := set6 (.int .i64 0) (.int .u32 0) (.int .u32 0) (.int .i64 0) (.bool false) (.slice none 0 0) HM.out.x
          have HFV := hidIn (fr6 (S := fun k => k = w.heap.size) (Fr.refl _ w4) rfl (.int .i64 0) (.int .u32 0) (.int .u32 0) (.int .i64 0) (.bool false) (.slice none 0 0))
          have HBV := hidIn (HM.out.b.trans (HFV.out.below HM.out.b.size (fun k hk => by omega)))
          generalize (((((World.setCell _ _ _).setCell _ _).setCell _ _).setCell _ _).setCell _ _).setCell _ _ = Z at hV HFV HBV ⊢
          clear y0 y1 y2 y3 y4 y5 g0 g1 g2 g3 g4 g5
          have e0 := cell_of_row _ _ 0 _ _ _ hV
          have e1 := cell_of_row _ _ 1 _ _ _ hV
          have e2 := cell_of_row _ _ 2 _ _ _ hV
          have e3 := cell_of_row _ _ 3 _ _ _ hV
          have e4 := cell_of_row _ _ 4 _ _ _ hV
          have e5 := cell_of_row _ _ 5 _ _ _ hV
          simp at e0 e1 e2 e3 e4 e5
          refine bodyPost_ret (v := .tuple #[.agg #[.int .i64 0, .int .u32 0, .int .u32 0, .int .i64 0, .bool false, .slice none 0 0], .int .i64 4]) (by simp [results, Try.results19, asAddr, Result.andThen, go_sem, e0, e1, e2, e3, e4, e5]) rfl ⟨⟨.slice none 0 0, ?_, ?_⟩, HBV.out⟩
          · rw [HRes.out]; rfl
          · rw [HRes.out]; exact World.ownsRow_nil _ _ _ _
        · simp only [if_true]
          have hne : ¬ (encS (⟨(T0 : Int), (T1 : Int), (T2 : Int), (T3 : Int), ib, rdA b k⟩ : Rc)).toList = b.toList := fun h => by
            rw [ByteArray.toList_eq, ByteArray.toList_eq] at h
            have h2 := enc_ok Hm.out HRb.out
            rw [ext_data h, Hok.out] at h2
            cases h2
          have hnb : ((encS (⟨(T0 : Int), (T1 : Int), (T2 : Int), (T3 : Int), ib, rdA b k⟩ : Rc)).toList == b.toList) = false := by simpa using hne
          generalize encS (⟨(T0 : Int), (T1 : Int), (T2 : Int), (T3 : Int), ib, rdA b k⟩ : Rc) = SS at hne hnb ⊢
          go_wp2_with fail
          have hV := set6 (.int .i64 0) (.int .u32 0) (.int .u32 0) (.int .i64 0) (.bool false) (.slice none 0 0) HM.out.x
          have HFV := hidIn (fr6 (S := fun k => k = w.heap.size) (Fr.refl _ w4) rfl (.int .i64 0) (.int .u32 0) (.int .u32 0) (.int .i64 0) (.bool false) (.slice none 0 0))
          have HBV := hidIn (HM.out.b.trans (HFV.out.below HM.out.b.size (fun k hk => by omega)))
          generalize (((((World.setCell _ _ _).setCell _ _).setCell _ _).setCell _ _).setCell _ _).setCell _ _ = Z at hV HFV HBV ⊢
          clear y0 y1 y2 y3 y4 y5 g0 g1 g2 g3 g4 g5
          have e0 := cell_of_row _ _ 0 _ _ _ hV
          have e1 := cell_of_row _ _ 1 _ _ _ hV
          have e2 := cell_of_row _ _ 2 _ _ _ hV
          have e3 := cell_of_row _ _ 3 _ _ _ hV
          have e4 := cell_of_row _ _ 4 _ _ _ hV
          have e5 := cell_of_row _ _ 5 _ _ _ hV
          simp at e0 e1 e2 e3 e4 e5
          refine bodyPost_ret (v := .tuple #[.agg #[.int .i64 0, .int .u32 0, .int .u32 0, .int .i64 0, .bool false, .slice none 0 0], .int .i64 4]) (by simp [results, Try.results19, asAddr, Result.andThen, go_sem, e0, e1, e2, e3, e4, e5]) rfl ⟨⟨.slice none 0 0, ?_, ?_⟩, HBV.out⟩
          · rw [HRes.out]; rfl
          · rw [HRes.out]; exact World.ownsRow_nil _ _ _ _
      · obtain ⟨hkN, hrok, hes⟩ := HYes.out Hok.out
        obtain rfl : k = TN := by omega
        rw [HRd.out] at Hm
        have hmt : m = true := Hm.out.symm.trans hrok
        subst hmt
        simp only [if_true]
        rw [HRd.out, hes]
        have hne : (b.toList != b.toList) = false := by simp
        go_wp2_with fail
        have hV := set6 (.int .i64 (T0 : Int)) (.int .u32 (T1 : Int)) (.int .u32 (T2 : Int)) (.int .i64 (T3 : Int)) (.bool ib) (.slice aa k acap) HM.out.x
        have HFV := hidIn (fr6 (S := fun k => k = w.heap.size) (Fr.refl _ w4) rfl (.int .i64 (T0 : Int)) (.int .u32 (T1 : Int)) (.int .u32 (T2 : Int)) (.int .i64 (T3 : Int)) (.bool ib) (.slice aa k acap))
        have HBV := hidIn (HM.out.b.trans (HFV.out.below HM.out.b.size (fun k hk => by omega)))
        generalize (((((World.setCell _ _ _).setCell _ _).setCell _ _).setCell _ _).setCell _ _).setCell _ _ = Z at hV HFV HBV ⊢
        clear y0 y1 y2 y3 y4 y5 g0 g1 g2 g3 g4 g5
        have e0 := cell_of_row _ _ 0 _ _ _ hV
        have e1 := cell_of_row _ _ 1 _ _ _ hV
        have e2 := cell_of_row _ _ 2 _ _ _ hV
        have e3 := cell_of_row _ _ 3 _ _ _ hV
        have e4 := cell_of_row _ _ 4 _ _ _ hV
        have e5 := cell_of_row _ _ 5 _ _ _ hV
        simp at e0 e1 e2 e3 e4 e5
        refine bodyPost_ret (v := .tuple #[.agg #[.int .i64 (T0 : Int), .int .u32 (T1 : Int), .int .u32 (T2 : Int), .int .i64 (T3 : Int), .bool ib, .slice aa k acap], .int .i64 0]) (by simp [results, Try.results19, asAddr, Result.andThen, go_sem, e0, e1, e2, e3, e4, e5]) rfl ⟨⟨.slice aa k acap, ?_, ?_⟩, HBV.out⟩
        · rw [HRes.out, ← HRd.out]; rfl
        · have h := row_low (base' := w.heap.size) (row_fr HM.out.row HFV.out (fun j hj e => by have := (HM.out.row.lt j hj).1; have := HM.out.l; omega)) (by have := HM.out.l; omega)
          rw [HRes.out, ← HRd.out]
          simp only [if_true]
          rw [rdA_len]
          exact h
end Go.Proofs.Ytclnhohfiimcdaa
