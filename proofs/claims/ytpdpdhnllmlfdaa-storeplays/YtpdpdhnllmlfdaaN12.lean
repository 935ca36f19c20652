/- A store held against stamps. -/
import Derived.Test.YtpdpdhnllmlfdaaN11
namespace Go.Proofs.Ytpdpdhnllmlfdaa
open Go.RowKit Go.Maps

def ansF (f : Sf) (g : Nat → Ed) (i : Nat) : Int := newI (rOf (f (i : Int))).epoch (rOf (f (i : Int))).seq (g i).2.1 (g i).2.2
def no0 : Nat → Int := fun _ => 0
def upI (c : Nat → Int) (i : Nat) (v : Int) : Nat → Int := fun j => if j = i then v else c j
theorem rcl_up (c : Nat → Int) {n : Nat} (_h : n < 25) (v : Int) : (rcl c).set n (.int .i64 v) = rcl (upI c n v) := by
  apply List.ext_getElem?
  intro j
  rw [List.getElem?_set]
  by_cases hj : j < 25
  · rw [rcl_get _ hj, rcl_get _ hj]
    by_cases hn : n = j
    · subst hn; rw [if_pos rfl, if_pos (by rw [rcl_len]; exact hj)]; simp [upI]
    · rw [if_neg hn]
      have : upI c n v j = c j := by unfold upI; rw [if_neg (fun e => hn e.symm)]
      rw [this]
  · rw [List.getElem?_eq_none (by rw [rcl_len]; omega), List.getElem?_eq_none (by rw [rcl_len]; omega), if_neg (by omega)]
theorem rcl_ext {c d : Nat → Int} (h : ∀ i, i < 25 → c i = d i) : rcl c = rcl d := by
  unfold rcl
  apply List.map_congr_left
  intro i hi
  rw [h i (by simpa using hi)]
theorem rcl_one (c : Nat → Int) : (rcl c).toArray.all (·.oneCell') = true := all_oneCell_toArray (fun v hv => by simp only [rcl, List.mem_map] at hv; obtain ⟨_, _, rfl⟩ := hv; rfl)
theorem infoAns : (Try.prog.info? 88).map (fun i => (i.zero, i.size)) = some (some (.agg (rcl no0).toArray), 25) := by kernel_rfl
theorem zeroAns (w : World) : (zeroValue 88).run Try.prog w = .ok (.agg (rcl no0).toArray) w := (zero_of_info infoAns).1 w
theorem sizeAns (c : Nat → Int) : (Try.prog.info? 88).map (·.size) = some (rcl c).length := by rw [(zero_of_info infoAns).2, rcl_len]
theorem underAns : Try.prog.underlying 88 = some (.array 25 3) := by kernel_rfl
theorem l_storeA {ops : Array Oper} {rest : List Oper} {o : Oper} {a : Act} {w : World} {Q : Exit → Act → World → Prop} (hgd : o.guard = none) (x y : Operand) (ho : o.op = .store 88 x y)
    (b : Nat) (g f : Nat → Int) (hx : a.eval x = .pointer (some ⟨b, 0, none⟩)) (hy : a.eval y = .agg (rcl g).toArray) (hA : Arr w b 88 (rcl f))
    (h : ∀ W, W.rangeAt b 0 (rcl g) → (∀ B, B ≤ b → Below B w W) → wpList Try.prog ops Q rest (a.put o.dst undef) W) : wpList Try.prog ops Q (o :: rest) a w := by
  have ht := arr_there hA
  rw [rcl_len] at ht
  refine wpList_store_mid hgd 88 x y ho b 0 (rcl g).toArray hx hy (by rw [List.size_toArray, rcl_len]; exact ht) (by rw [List.size_toArray]; exact sizeAns g) (rcl_one g) ?_
  rw [List.toList_toArray]
  exact h _ (World.rangeAt_setCells_same w b 0 (rcl g) (by rw [rcl_len]; exact ht)) (fun B hB => below_setCellsS b _ 0 w B hB)
theorem l_loadA {ops : Array Oper} {rest : List Oper} {o : Oper} {a : Act} {w : World} {Q : Exit → Act → World → Prop} (hgd : o.guard = none) (x : Operand) (ho : o.op = .load 88 x)
    (b : Nat) (f : Nat → Int) (hx : a.eval x = .pointer (some ⟨b, 0, none⟩)) (hA : w.rangeAt b 0 (rcl f))
    (h : wpList Try.prog ops Q rest (a.put o.dst (.agg (rcl f).toArray)) w) : wpList Try.prog ops Q (o :: rest) a w :=
  wpList_load_mid hgd 88 x ho b 0 hx (rcl f) (.array 25 3) hA underAns rfl (sizeAns f) h
theorem load_ans {w : World} {b : Nat} {f : Nat → Int} (hA : w.rangeAt b 0 (rcl f)) : (loadVar 88 ⟨b, 0, none⟩).run Try.prog w = .ok (.agg (rcl f).toArray) w :=
  run_loadVar_mid w b 0 88 (rcl f) (.array 25 3) hA underAns rfl (sizeAns f)
theorem indexSts (f : Nat → Ed) {k : Nat} (hk : k < 25) (w : World) : (Instr.index 84 (.agg (gs f).toArray) (.int .i64 k)).run Try.prog w = .ok (.agg #[.int .i64 (f k).1, .int .u32 (f k).2.1, .int .u32 (f k).2.2]) w := by
  obtain ⟨i0, hi, hz0, hz1, hz2⟩ := info_parts infoSt
  have hkl : (k : Int) < 25 := by omega
  have key : List.take 3 (List.drop (k * 3) (gs f)) = sc3 (f k) := by
    apply List.ext_getElem?
    intro m
    rw [List.getElem?_take]
    by_cases hm : m < 3
    · rw [if_pos hm, List.getElem?_drop, gs_get f hk hm]
    · rw [if_neg hm, List.getElem?_eq_none (by simp; omega)]
  simp [Instr.index, asIntOf, go_sem, run_underlying underSts, hk]
  simpa using key
set_option maxRecDepth 100000 in
set_option maxHeartbeats 2000000 in
theorem against_any {S M n : Nat} {f : Sf} {g : Nat → Ed} {w : World} (h : StAt w S M n f) :
    Calls Try.prog 45 #[ptr S, .agg (gs g).toArray] w fun e w' => e = .returned (.agg (rcl (ansF f g)).toArray) ∧ Below w.heap.size w w' := by
  have HS := hidIn h
  clear h
  have hz := zeroAns
  obtain ⟨GA, hGA⟩ : ∃ GA, (gs g).toArray = GA := ⟨_, rfl⟩
  obtain ⟨ZA, hZA⟩ : ∃ ZA, (rcl no0).toArray = ZA := ⟨_, rfl⟩
  have HIx : Hid (∀ (k : Nat), k < 25 → ∀ w, (Instr.index 84 (.agg GA) (.int .i64 k)).run Try.prog w = .ok (.agg #[.int .i64 (g k).1, .int .u32 (g k).2.1, .int .u32 (g k).2.2]) w) := hidIn fun k hk w => by rw [← hGA]; exact indexSts g hk w
  obtain ⟨W1, hW1⟩ : ∃ W1, ((w.alloc (.cells GA 84)).alloc (.cells ZA 88)).alloc (.cells ZA 88) = W1 := ⟨_, rfl⟩
  have b1 : Below w.heap.size w W1 := by rw [← hW1]; exact (((Below.refl _ w).alloc (Nat.le_refl _) _).alloc (by simp) _).alloc (by simp; omega) _
  have hA3 : Arr W1 w.heap.size 84 (gs g) := by
    show W1.heap[w.heap.size]? = _
    rw [← hW1, Below.heap_alloc _ _ _ (by simp; omega), Below.heap_alloc _ _ _ (by simp), hGA]
    exact heap_alloc_last w _
  have hA4 : Arr W1 (w.heap.size + 1) 88 (rcl no0) := by
    show W1.heap[w.heap.size + 1]? = _
    rw [← hW1, Below.heap_alloc _ _ _ (by simp), hZA]
    have := heap_alloc_last (w.alloc (.cells GA 84)) (.cells ZA 88)
    rw [World.size_alloc] at this
    exact this
  have hA5 : Arr W1 (w.heap.size + 1 + 1) 88 (rcl no0) := by
    show W1.heap[w.heap.size + 1 + 1]? = _
    rw [hZA]
    have := heap_alloc_last ((w.alloc (.cells GA 84)).alloc (.cells ZA 88)) (.cells ZA 88)
    rw [World.size_alloc, World.size_alloc, hW1] at this
    exact this
  rw [hZA] at hz
  rw [hGA]
  have HW := hidIn hW1
  have HA3 := hidIn hA3
  have HA4 := hidIn hA4
  have HA5 := hidIn hA5
  have Hb1 := hidIn b1
  have HGA := hidIn hGA
  clear hW1 hA3 hA4 hA5 b1 hGA hZA
  obtain ⟨B3, hB3⟩ : ∃ B3, w.heap.size = B3 := ⟨_, rfl⟩
  have HB3 := hidIn hB3
  rw [hB3] at HA3 HA4 HA5
  go_enter Try.func45, Try.ntmps45
  go_upto_region 2 with fail
  rw [HW.out]
  clear HW hB3 hz
  go_wp2_with (refine l_loadS rfl _ rfl B3 g rfl HA3.out.range ?_; rw [HGA.out])
  go_loopw [9] (fun q wr => ∃ k : Nat, k ≤ 25 ∧ q = .int .i64 k ∧ Hid (∃ c, (∀ i, i < k → c i = ansF f g i) ∧ Arr wr (B3 + 1 + 1) 88 (rcl c) ∧ Arr wr (B3 + 1) 88 (rcl no0) ∧ Below w.heap.size w wr)) (fun q _ => 25 - (intOf q).toNat)
  case atStart => exact ⟨0, Nat.zero_le _, rfl, hidIn ⟨no0, fun i h => by omega, HA5.out, HA4.out, Hb1.out⟩⟩
  case round =>
    clear HA3 HA4 HA5 Hb1
    obtain ⟨k, hk, rfl, HR⟩ := hrel
    by_cases hlt : k < 25
    · have hki : (k : Int) < 25 := by omega
      obtain ⟨c, hc, hA5, hA4, hbel⟩ := HR.out
      have hix := HIx.out k hlt
      generalize hgk : g k = x at hix
      obtain ⟨xo, xe, xs⟩ := x
      simp only at hix
      obtain ⟨W4, hW4⟩ : ∃ W4, wr.alloc (.cells #[.int .i64 xo, .int .u32 xe, .int .u32 xs] 71) = W4 := ⟨_, rfl⟩
      have b4 : Below wr.heap.size wr W4 := by rw [← hW4]; exact (Below.refl _ wr).alloc (Nat.le_refl _) _
      have hX : W4.heap[wr.heap.size]? = some (.cells #[.int .i64 xo, .int .u32 xe, .int .u32 xs] 71) := by rw [← hW4]; exact heap_alloc_last wr _
      have Hne : Hid (B3 + 1 + 1 < wr.heap.size) := hidIn hA5.lt
      have HBel := hidIn (hbel.trans (b4.mono hbel.size))
      have HA5 := hidIn (hA5.keep b4 hA5.lt)
      have HA4 := hidIn (hA4.keep b4 hA4.lt)
      have HW := hidIn hW4
      have HX := hidIn hX
      obtain ⟨b7, hb7⟩ : ∃ b7, wr.heap.size = b7 := ⟨_, rfl⟩
      rw [hb7] at HX Hne
      have Hc := hidIn hc
      have Hgk := hidIn hgk
      have HSt := hidIn (sstamp_any (w := W4.drew) (S := S) (M := M) (n := n) (f := f) (HS.out.keep HBel.out.drew) (k := (k : Int)) (wf9 (by omega)))
      clear HR hc hA5 hA4 hbel hX hW4 b4 hgk
      go_upto_region 5 with fail
      rw [HW.out]
      clear HW hb7 hix
      refine wp_region_held_drew (S := fun wx => Fr (fun j => j = B3 + 1 + 1) W4 wx) (by kernel_rfl) ((Fr.refl _ W4).drew) (fun hHeld => ?_)
      refine wpAnyH_take (i := 0) (v := ?_) rfl (by kernel_rfl) (by kernel_rfl) (by kernel_rfl) (fun _ _ _ h => h) (Or.inl ⟨by rfl, ?_⟩) (by assumption) ?_
      rotate_left
      · intro wq hSw
        clear hSw
        go_simp
        try (with_reducible rfl)
      refine wpAnyH_take (i := 1) (v := ?_) rfl (by kernel_rfl) (by kernel_rfl) (by kernel_rfl) (fun _ _ _ h => h) (Or.inl ⟨by rfl, ?_⟩) (by assumption) ?_
      rotate_left
      · intro wq hSw
        clear hSw
        go_simp
        try (with_reducible rfl)
      refine wpAnyH_take (i := 2) (v := ?_) rfl (by kernel_rfl) (by kernel_rfl) (by kernel_rfl) (fun _ _ _ h => h) (Or.inl ⟨by rfl, ?_⟩) (by assumption) ?_
      rotate_left
      · intro wq hSw
        clear hSw
        go_simp
        try (with_reducible rfl)
      refine wpAnyH_take (i := 4) (v := ?_) rfl (by kernel_rfl) (by kernel_rfl) (by kernel_rfl) (fun _ _ _ h => h) (Or.inl ⟨by rfl, ?_⟩) (by assumption) ?_
      rotate_left
      · intro wq hSw
        have hq := (hSw.block b7 (block_lt HX.out) (by have := Hne.out; omega)).trans HX.out
        have z0 := cell_of_row _ _ 0 _ _ _ hq
        have z1 := cell_of_row _ _ 1 _ _ _ hq
        have z2 := cell_of_row _ _ 2 _ _ _ hq
        simp at z0 z1 z2
        clear hq
        clear hSw
        go_simp
        try (with_reducible rfl)
      refine wpAnyH_ready (rs := [3]) (by kernel_rfl) (by simp) ?_
      refine AllReadyH.cons rfl (fun K hK => ?_) AllReadyH.nil
      go_simp
      refine HSt.out.mono ?_
      rintro e w5 ⟨rfl, hb5⟩
      have hF5 : Fr (fun j => j = B3 + 1 + 1) W4 w5 := ⟨hb5.os, hb5.tape, hb5.output, hb5.size, fun j hj _ => hb5.block j hj⟩
      refine hK.out _ _ hF5 (fun _ => ?_)
      clear hK K HSt
      refine wpAnyH_ready (rs := [5]) (by kernel_rfl) (by simp) ?_
      refine AllReadyH.cons rfl (fun K hK => ?_) AllReadyH.nil
      go_simp
      refine (newer_any _ _ _ _ _ _ _).mono ?_
      rintro e w6 ⟨rfl, hb6⟩
      have hF6 : Fr (fun j => j = B3 + 1 + 1) W4 w6 := hF5.trans (Fr.of_below hb6)
      have hb56 : Below W4.heap.size W4 w6 := by
        have h5 : Below W4.heap.size W4 w5 := ⟨hb5.os, hb5.tape, hb5.output, hb5.size, hb5.block⟩
        exact h5.trans (hb6.mono h5.size)
      have HA5' := hidIn (HA5.out.keep hb56 HA5.out.lt)
      have HA4' := hidIn (HA4.out.keep hb56 HA4.out.lt)
      have HBel' := hidIn (HBel.out.trans (hb56.mono HBel.out.size))
      obtain ⟨nv, hnv⟩ : ∃ nv, newI (rOf (f (k : Int))).epoch (rOf (f (k : Int))).seq xe xs = nv := ⟨_, rfl⟩
      have Hnv : Hid (ansF f g k = nv) := hidIn (by unfold ansF; rw [Hgk.out]; exact hnv)
      rw [hnv]
      refine hK.out _ _ hF6 (fun _ => ?_)
      clear hK K hb5 hb6 hF5 hb56 hHeld hnv HA5 HA4 HBel
      refine wpAnyH_take (i := 6) (v := ?_) rfl (by kernel_rfl) (by kernel_rfl) (by kernel_rfl) (fun _ _ _ h => h) (Or.inl ⟨by rfl, ?_⟩) (by assumption) ?_
      rotate_left
      · intro wq hSw
        clear hSw
        go_simp
        try (with_reducible rfl)
      refine wpAnyH_ready (rs := [7]) (by kernel_rfl) (by simp) ?_
      refine AllReadyH.cons rfl (fun K hK => ?_) AllReadyH.nil
      have z0 : w6.cell? ⟨B3 + 1 + 1, k, none⟩ = some (.int .i64 (c k)) := (HA5'.out.cell k).trans (rcl_get c hlt)
      have f0 := HA5'.out.frozen k
      go_simp
      have HO : Hid (∃ c', (∀ i, i < k + 1 → c' i = ansF f g i) ∧ Arr (w6.setCell ⟨B3 + 1 + 1, k, none⟩ (.int .i64 nv)) (B3 + 1 + 1) 88 (rcl c') ∧ Arr (w6.setCell ⟨B3 + 1 + 1, k, none⟩ (.int .i64 nv)) (B3 + 1) 88 (rcl no0) ∧ Below w.heap.size w (w6.setCell ⟨B3 + 1 + 1, k, none⟩ (.int .i64 nv))) := hidIn (by
        refine ⟨upI c k nv, fun i hi => ?_, ?_, HA4'.out.other (by show B3 + 1 ≠ B3 + 1 + 1; omega) _, HBel'.out.setCell (p := ⟨B3 + 1 + 1, k, none⟩) (by have := HB3.out; show w.heap.size ≤ B3 + 1 + 1; omega) _⟩
        · unfold upI
          by_cases hik : i = k
          · rw [if_pos hik, hik, Hnv.out]
          · rw [if_neg hik]; exact Hc.out i (by omega)
        · rw [← rcl_up c hlt nv]; exact HA5'.out.set k _)
      have hS7 : Fr (fun j => j = B3 + 1 + 1) W4 (w6.setCell ⟨B3 + 1 + 1, k, none⟩ (.int .i64 nv)) := hF6.set (p := ⟨B3 + 1 + 1, k, none⟩) rfl _
      refine hK.out _ _ hS7 (fun _ => ?_)
      clear hK K hF6 hS7 HA5' HA4' HBel' z0 f0
      refine wpAnyH_done (by kernel_rfl) ?_ _
      go_wp2_with fail
      go_roundw
      case rel => exact ⟨k + 1, by omega, by go_num, HO⟩
      case measure => simp [intOf]; omega
    · have hki : ¬ (k : Int) < 25 := by omega
      obtain ⟨c, hc, hA5, hA4, hbel⟩ := HR.out
      have HA5 := hidIn hA5
      have HA4 := hidIn hA4
      have HBel := hidIn hbel
      have Hc : Hid (rcl c = rcl (ansF f g)) := hidIn (rcl_ext fun i hi => hc i (by omega))
      clear HR hc hA5 hA4 hbel
      go_wp2_with (first
        | (refine l_loadA rfl _ rfl (B3 + 1 + 1) c rfl HA5.out.range ?_)
        | (refine l_storeA rfl _ _ rfl (B3 + 1) c no0 rfl rfl HA4.out ?_; intro W hWr hWb))
      refine bodyPost_ret (v := .agg (rcl c).toArray) (by simp [results, Try.results45, asAddr, load_ans hWr]) rfl ⟨by rw [Hc.out], HBel.out.trans (hWb _ (by rw [HB3.out]; omega))⟩
end Go.Proofs.Ytpdpdhnllmlfdaa
