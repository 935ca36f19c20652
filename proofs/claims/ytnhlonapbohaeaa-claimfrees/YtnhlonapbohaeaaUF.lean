/- Free. -/
import Derived.Test.YtnhlonapbohaeaaU8
import Derived.Deep.RegionHeld3
namespace Go.Proofs.Ytnhlonapbohaeaa
open Go.RowKit

/-- The claims that have just one router. -/
def freeT (T : List (Int × List Int)) : List (Int × List Int) := T.filter fun p => decide (p.2.length = 1)
theorem freeT_yes (T : List (Int × List Int)) {p : Int × List Int} (h : p.2.length = 1) : freeT (T ++ [p]) = freeT T ++ [p] := by unfold freeT; rw [List.filter_append]; simp [h]
theorem freeT_no (T : List (Int × List Int)) {p : Int × List Int} (h : p.2.length ≠ 1) : freeT (T ++ [p]) = freeT T := by unfold freeT; rw [List.filter_append]; simp [h]
/-- A claim's block is read. -/
def frC (br : Nat) (id : Int) (xa : Option Addr) (xc : Nat) (wx : World) : Prop := wx.cell? ⟨br, 0, none⟩ = some (.int .i64 id) ∧ wx.cell? ⟨br, 1, none⟩ = some (.slice xa 1 xc)
theorem frC_of {br : Nat} {id : Int} {xa : Option Addr} {xc : Nat} {wx : World} (h : wx.heap[br]? = some (.cells #[.int .i64 id, .slice xa 1 xc] 33)) : frC br id xa xc wx := by
  have d0 := cell_of_row _ _ 0 _ _ _ h
  have d1 := cell_of_row _ _ 1 _ _ _ h
  simp at d0 d1
  exact ⟨d0, d1⟩
set_option maxRecDepth 100000 in
set_option maxHeartbeats 4000000 in
theorem free_T {T : List (Int × List Int)} {v : Value} {w : World} (h : TAt w v T) (hl : T.length ≤ 100000) :
    Calls Try.prog 12 #[v] w fun e w' => (∃ a c, e = .returned (.slice a (freeT T).length c) ∧ ClsAns w w' (freeT T) (.slice a (freeT T).length c)) ∧ Below w.heap.size w w' := by
  obtain ⟨L, h1, h2⟩ := h
  have hlen : L.length = T.length := by rw [← h2, List.length_map]
  obtain ⟨a, cap, rfl, hn, _, hat⟩ := h1.r.clms
  have Ha := hidIn hat
  have HA := hidIn h1.a
  have H2 := hidIn h2
  obtain ⟨n, hnn⟩ : ∃ n, L.length = n := ⟨_, rfl⟩
  rw [hnn] at hn ⊢
  have Hn := hidIn hnn
  have hn2 : n ≤ 100000 := by omega
  have HTl : Hid (T.length = n) := hidIn (by omega)
  clear hat h1 h2 hnn hlen hl
  go_enter Try.func12, Try.ntmps12
  go_wp2_with fail
  go_loopw [3, 8] (fun u i wr => ∃ (k : Nat) (F : List Cl) (fn : Nat), k ≤ n ∧ i = .int .i64 k ∧ (∃ a c, u = .slice a fn c) ∧ Hid (Below w.heap.size w wr ∧ wr.ownsRow w.heap.size 33 2 u fn (fl clc F) ∧ F.length = fn ∧ fn ≤ k ∧ cls F = freeT (T.take k) ∧ ∀ x ∈ F, wr.ownsRow w.heap.size 3 1 x.2.2 x.2.1.length (fl ic x.2.1))) (fun _ i _ => n - (intOf i).toNat)
  case atStart => exact ⟨0, [], 0, Nat.zero_le _, rfl, ⟨none, 0, rfl⟩, hidIn ⟨Below.refl _ _, World.ownsRow_nil _ _ _ _, rfl, Nat.le_refl _, rfl, fun _ h => absurd h List.not_mem_nil⟩⟩
  case round =>
    obtain ⟨k, F, fn, hk, rfl, ⟨ua, uc, rfl⟩, HR⟩ := hrel
    obtain ⟨hb, hu, hFl, hfk, hFc, hFr⟩ := HR.out
    clear HR
    by_cases hlt : k < n
    · obtain ⟨bk, o, rfl, hbk, hcell⟩ := Ha.out (by have := Hn.out; omega)
      obtain ⟨⟨id, xs, xv⟩, hz⟩ : ∃ z, L[k]? = some z := ⟨L[k]'(by have := Hn.out; omega), List.getElem?_eq_getElem _⟩
      obtain ⟨q0, q1⟩ := hcell k _ hz
      obtain ⟨hxs, hxn⟩ := HA.out _ (List.mem_of_getElem? hz)
      simp only at q0 q1 hxs hxn
      have hTk : T[k]? = some (id, xs) := by rw [← H2.out, List.getElem?_map, hz]; rfl
      have c0 := (hb.cell (p := ⟨bk, o + k * 2, none⟩) hbk).trans q0
      have c1 := (hb.cell (p := ⟨bk, o + k * 2 + 1, none⟩) hbk).trans q1
      have HXs := hidIn hxs
      have HXn := hidIn hxn
      obtain ⟨xa, xc, hxv, _⟩ := hxs
      subst hxv
      have hki : (k : Int) < (n : Int) := by omega
      obtain ⟨W1, hW1⟩ : ∃ W1, wr.alloc (.cells #[.int .i64 id, .slice xa xs.length xc] 33) = W1 := ⟨_, rfl⟩
      have b1 : Below wr.heap.size wr W1 := by rw [← hW1]; exact (Below.refl _ wr).alloc (Nat.le_refl _) _
      have hX := heap_alloc_last wr (.cells #[.int .i64 id, .slice xa xs.length xc] 33)
      rw [hW1] at hX
      obtain ⟨br, hbr⟩ : ∃ br, wr.heap.size = br := ⟨_, rfl⟩
      rw [hbr] at hX
      have Hne : Hid (∀ j, (Value.slice ua fn uc).ownBlock = some j → ¬ j = br) := hidIn fun j hj e => by have := (hu.lt j hj).2; omega
      have x0 := cell_of_row _ _ 0 _ _ _ hX
      have x1 := cell_of_row _ _ 1 _ _ _ hX
      simp at x0 x1
      have HX1 := hidIn hX
      have HW := hidIn hW1
      have HF := hidIn (isFree_any id xa xs.length xc W1)
      have HT1 := hidIn (take_snoc hTk)
      have HBB := hidIn b1
      have HB := hidIn hb
      have HU := hidIn hu
      have HFl := hidIn hFl
      have HFc := hidIn hFc
      have HFr' := hidIn hFr
      obtain ⟨xn, hxn'⟩ : ∃ xn, xs.length = xn := ⟨_, rfl⟩
      have Hxn := hidIn hxn'
      rw [hxn'] at c1 x1 HW HF HX1 HXs HXn
      clear hcell q0 q1 hxn hX b1 hW1 hz hTk hxn' hb hu hFl hFc hFr
      go_upto_region 5 with fail
      rw [HW.out]
      clear HW c0 c1 hbr
      go_wp2_with fail
      refine HF.out.mono ?_
      rintro e w2 ⟨rfl, hb2⟩
      have hbw2 : Below wr.heap.size wr w2 := HBB.out.trans (hb2.mono HBB.out.size)
      have HB2 := hidIn (HB.out.trans (hbw2.mono HB.out.size))
      have HX2 := hidIn ((hb2.block _ (block_lt HX1.out)).trans HX1.out)
      have HU2 := hidIn (row_below HU.out hbw2 (Nat.le_refl _))
      have HFr : Hid (∀ x ∈ F, w2.ownsRow w.heap.size 3 1 x.2.2 x.2.1.length (fl ic x.2.1)) := hidIn fun x hx => row_below (HFr'.out x hx) hbw2 (Nat.le_refl _)
      clear hb2 hbw2 HF HX1 HBB HB HU HFr' x0 x1
      by_cases hone : xn = 1
      · subst hone
        have HFs : Hid (∀ wq, Below w2.heap.size w2 wq → frC br id xa xc wq) := hidIn fun wq hq => frC_of ((hq.block _ (block_lt HX2.out)).trans HX2.out)
        have HCl : Hid (∀ wq, Below w2.heap.size w2 wq → Calls Try.prog 29 #[.slice xa 1 xc] wq fun e w' => (∃ v', e = .returned v' ∧ w'.ownsRow wq.heap.size 3 1 v' 1 (fl ic xs)) ∧ Below wq.heap.size wq w') := hidIn fun wq hq => by
          have := cclone_any (HXs.out.keep (HB2.out.trans (hq.mono HB2.out.size)) (Nat.le_refl _)) HXn.out (by rw [Hxn.out]; omega)
          rw [Hxn.out] at this
          exact this
        go_upto_region 6 with fail
        refine wp_region_held_drew (S := fun wx => frC br id xa xc wx) (by kernel_rfl) (HFs.out _ ((Below.refl _ w2).drew)) (fun hHeld => ?_)
        have hh : Below w2.heap.size w2 w2.drew := (Below.refl _ w2).drew
        refine wpAnyH_take (i := 0) (v := ?_) rfl (by kernel_rfl) (by kernel_rfl) (by kernel_rfl) (fun _ _ _ h => h) (Or.inl ⟨by rfl, ?_⟩) (by assumption) ?_
        rotate_left
        · intro wq hSw
          clear hSw
          go_simp
          try (with_reducible rfl)
        refine wpAnyH_take (i := 1) (v := ?_) rfl (by kernel_rfl) (by kernel_rfl) (by kernel_rfl) (fun _ _ _ h => h) (Or.inl ⟨by rfl, ?_⟩) (by assumption) ?_
        rotate_left
        · intro wq hSw
          clear hSw
          go_simp
          try (with_reducible rfl)
        refine wpAnyH_take (i := 2) (v := ?_) rfl (by kernel_rfl) (by kernel_rfl) (by kernel_rfl) (fun _ _ _ h => h) (Or.inl ⟨by rfl, ?_⟩) (by assumption) ?_
        rotate_left
        · intro wq hSw
          obtain ⟨zz0, zz1⟩ := hSw
          have hSw := zz0
          clear hSw
          go_simp
          try (with_reducible rfl)
        refine wpAnyH_take (i := 3) (v := ?_) rfl (by kernel_rfl) (by kernel_rfl) (by kernel_rfl) (fun _ _ _ h => h) (Or.inl ⟨by rfl, ?_⟩) (by assumption) ?_
        rotate_left
        · intro wq hSw
          clear hSw
          go_simp
          try (with_reducible rfl)
        refine wpAnyH_take (i := 4) (v := ?_) rfl (by kernel_rfl) (by kernel_rfl) (by kernel_rfl) (fun _ _ _ h => h) (Or.inl ⟨by rfl, ?_⟩) (by assumption) ?_
        rotate_left
        · intro wq hSw
          obtain ⟨zz0, zz1⟩ := hSw
          have hSw := zz0
          clear hSw
          go_simp
          try (with_reducible rfl)
        refine wpAnyH_ready (rs := [5]) (by kernel_rfl) (by simp) ?_
        refine AllReadyH.cons (i := 5) rfl (fun K hK => ?_) AllReadyH.nil
        go_simp
        refine (HCl.out _ hh).mono ?_
        rintro e w5 ⟨⟨v', rfl, hr5⟩, hbx⟩
        have h5 : Below w2.heap.size w2 w5 := hh.trans (hbx.mono hh.size)
        obtain ⟨ra, rc, rfl⟩ := row_shape hr5
        refine hK.out _ _ (HFs.out w5 h5) (fun _ => ?_)
        clear hK K
        refine wpAnyH_take (i := 6) (v := ?_) rfl (by kernel_rfl) (by kernel_rfl) (by kernel_rfl) (fun _ _ _ h => h) (Or.inl ⟨by rfl, ?_⟩) (by assumption) ?_
        rotate_left
        · intro wq hSw
          clear hSw
          go_simp
          try (with_reducible rfl)
        refine wpAnyH_ready (rs := [7]) (by kernel_rfl) (by simp) ?_
        refine AllReadyH.cons (i := 7) rfl ?_ AllReadyH.nil
        go_simp
        intro K hK
        have hB5 : Below w.heap.size w w5 := HB2.out.trans (h5.mono HB2.out.size)
        have hu5 := row_below HU2.out h5 (Nat.le_refl _)
        have hr5' := row_low hr5 (Nat.le_trans HB2.out.size hh.size)
        obtain ⟨g, gc, w6, hrun, hown, hb6, hF6⟩ := append_clm hu5 (id, xs, .slice ra 1 rc) rfl (by omega) hB5.size
        have hnI : ∀ {base i : Nat} {x : Value} {zs : List Value}, w5.ownsRow base 3 1 x i zs → w6.ownsRow base 3 1 x i zs := fun {base i x zs} hx => row_fr hx hF6 (fun i hi e => by
          obtain ⟨cur, h1⟩ := crowTy hx hi
          obtain ⟨cur', h2⟩ := crowTy hu5 e
          rw [h1] at h2
          simp only [Option.some.injEq, Obj.cells.injEq] at h2
          exact absurd h2.2.1 (by decide))
        have HO : Hid (Below w.heap.size w w6 ∧ w6.ownsRow w.heap.size 33 2 (.slice (some ⟨g, 0, none⟩) (fn + 1) gc) (fn + 1) (fl clc (F ++ [(id, xs, .slice ra 1 rc)])) ∧ (F ++ [(id, xs, Value.slice ra 1 rc)]).length = fn + 1 ∧ fn + 1 ≤ k + 1 ∧ cls (F ++ [(id, xs, Value.slice ra 1 rc)]) = freeT (T.take (k + 1)) ∧ ∀ x ∈ F ++ [(id, xs, Value.slice ra 1 rc)], w6.ownsRow w.heap.size 3 1 x.2.2 x.2.1.length (fl ic x.2.1)) := hidIn (by
          refine ⟨hB5.trans hb6, hown, by rw [List.length_append, HFl.out]; rfl, by omega, by rw [HT1.out, freeT_yes _ (by simp only; exact Hxn.out), ← HFc.out, cls, List.map_append]; rfl, fun x hx => ?_⟩
          rcases List.mem_append.1 hx with hx | hx
          · exact hnI (row_below (HFr.out x hx) h5 (Nat.le_refl _))
          · rw [List.mem_singleton.1 hx]
            refine hnI ?_
            show w5.ownsRow _ _ 1 (.slice ra 1 rc) xs.length _
            rw [Hxn.out]
            exact hr5')
        have HRun := hidIn hrun
        have h7 : Below w2.heap.size w2 (w5.alloc (.cells #[.int .i64 id, .slice ra 1 rc] 33)) := h5.trans (((Below.refl _ w5).alloc (Nat.le_refl _) _).mono h5.size)
        refine hK.out _ _ (HFs.out _ h7) (fun _ => ?_)
        have hX5 := (h5.block _ (block_lt HX2.out)).trans HX2.out
        have hS6 : frC br id xa xc w6 := frC_of ((hF6.block _ (block_lt hX5) (fun e => Hne.out br e rfl)).trans hX5)
        clear hK K hu5 hr5' hrun hown hb6 hF6 hnI hB5 hr5 hbx h7 hX5
        refine wpAnyH_ready (rs := [8]) (by kernel_rfl) (by simp) ?_
        refine AllReadyH.cons (i := 8) rfl (fun K hK => ?_) AllReadyH.nil
        refine step_append rfl (.tmp 14) (.tmp 21) 23 rfl (by kernel_rfl) (by kernel_rfl) HRun.out ?_
        refine hK.out _ _ hS6 (fun _ => ?_)
        clear hK K
        refine wpAnyH_take (i := 9) (v := ?_) rfl (by kernel_rfl) (by kernel_rfl) (by kernel_rfl) (fun _ _ _ h => h) (Or.inl ⟨by rfl, ?_⟩) (by assumption) ?_
        rotate_left
        · intro wq hSw
          clear hSw
          go_simp
          try (with_reducible rfl)
        refine wpAnyH_done (by kernel_rfl) ?_ _
        go_wp2_with fail
        go_roundw
        case rel => exact ⟨k + 1, _, fn + 1, by omega, by go_num, ⟨_, _, rfl⟩, HO⟩
        case measure => simp [intOf]; omega
      · have hb1 : (xn == 1) = false := by simpa using hone
        rw [hb1]
        have HO : Hid (Below w.heap.size w w2 ∧ w2.ownsRow w.heap.size 33 2 (.slice ua fn uc) fn (fl clc F) ∧ F.length = fn ∧ fn ≤ k + 1 ∧ cls F = freeT (T.take (k + 1)) ∧ ∀ x ∈ F, w2.ownsRow w.heap.size 3 1 x.2.2 x.2.1.length (fl ic x.2.1)) := hidIn ⟨HB2.out, HU2.out, HFl.out, by omega, by rw [HT1.out, freeT_no _ (by simp only; rw [Hxn.out]; exact hone), HFc.out], HFr.out⟩
        clear hb1
        go_wp2_with fail
        go_roundw
        case rel => exact ⟨k + 1, F, fn, by omega, by go_num, ⟨_, _, rfl⟩, HO⟩
        case measure => simp [intOf]; omega
    · have hke : T.take k = T := List.take_of_length_le (by have := HTl.out; omega)
      rw [hke] at hFc
      have hki : ¬ ((k : Int) < (n : Int)) := by omega
      have hfl : (freeT T).length = fn := by rw [← hFc, List.length_map, hFl]
      have HE : Hid ((freeT T).length = fn ∧ ClsAns w wr (freeT T) (.slice ua fn uc) ∧ Below w.heap.size w wr) := hidIn ⟨hfl, ⟨F, by rw [hFl]; exact hu, hFc, hFr⟩, hb⟩
      clear hb hu hFl hfk hFc hFr hke hfl
      go_wp2_with fail
      go_ret
      obtain ⟨e1, e2, e3⟩ := HE.out
      exact ⟨⟨ua, uc, by rw [e1]; rfl, by rw [e1]; exact e2⟩, e3⟩
end Go.Proofs.Ytnhlonapbohaeaa
