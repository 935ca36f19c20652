/- Ids. -/
import Derived.Test.YtnhlonapbohaeaaUI0
import Derived.Deep.RegionHeld3
namespace Go.Proofs.Ytnhlonapbohaeaa
open Go.RowKit Go.Maps

/-- A claim's block and its first router are read. -/
def idC (br bx ox : Nat) (id y : Int) (xa : Option Addr) (xc : Nat) (wx : World) : Prop := wx.cell? ⟨br, 0, none⟩ = some (.int .i64 id) ∧ wx.cell? ⟨br, 1, none⟩ = some (.slice xa 1 xc) ∧ wx.cell? ⟨bx, ox, none⟩ = some (.int .i64 y)
/-- Two lists of numbers in memory of their own, apart. -/
structure TwoM (w wz : World) (ua ub : Value) (la lb : List Int) : Prop where
  a : wz.ownsRow w.heap.size 3 1 ua la.length (fl ic la)
  b : wz.ownsRow w.heap.size 3 1 ub lb.length (fl ic lb)
  d : ∀ j, ua.ownBlock = some j → ub.ownBlock ≠ some j
  w : Below w.heap.size w wz
/-- What Ids answers. -/
def IdsA (w w' : World) (T : List (Int × List Int)) (R : List Int) (e : Ending) : Prop :=
  ∃ u1 u2, e = .returned (.tuple #[u1, u2]) ∧ w'.ownsRow w.heap.size 3 1 u1 (idsT T R).length (fl ic (idsT T R)) ∧ w'.ownsRow w.heap.size 3 1 u2 (wioT T R).length (fl ic (wioT T R))
theorem flat_len {T : List (Int × List Int)} {n : Nat} (hT : T.length ≤ n) : ∀ R : List Int, (R.flatMap (frI T)).length ≤ R.length * n
  | [] => by simp
  | x :: R => by
    rw [List.flatMap_cons, List.length_append, List.length_cons, Nat.succ_mul]
    have := flat_len hT R
    have := frI_len T x
    omega
set_option maxRecDepth 100000 in
set_option maxHeartbeats 8000000 in
theorem ids_T {T : List (Int × List Int)} {v rv : Value} {R0 : List Int} {w : World} (h : TAt w v T) (hw : ∀ p ∈ T, ∀ z ∈ p.2, (Lit.int .i64 z).wf = true) (hl : T.length ≤ 100) (hr : SlAt ic 1 w rv R0) (hnr : NilOk rv) (hRl : R0.length ≤ 100) (hRw : ∀ z ∈ R0, (Lit.int .i64 z).wf = true) :
    Calls Try.prog 14 #[v, rv] w fun e w' => IdsA w w' T (rsL R0) e ∧ Below w.heap.size w w' := by
  obtain ⟨L, h1, h2⟩ := h
  have hlen : L.length = T.length := by rw [← h2, List.length_map]
  obtain ⟨a, cap, rfl, hn, _, hat⟩ := h1.r.clms
  have Ha := hidIn hat
  have HA := hidIn h1.a
  have H2 := hidIn h2
  have Hw := hidIn hw
  have HRs := hidIn hr
  have HRn := hidIn hnr
  have HRw := hidIn hRw
  have HRl := hidIn hRl
  obtain ⟨ra, rc, hrv⟩ : ∃ ra rc, rv = .slice ra R0.length rc := by
    obtain ⟨ra, rc, h, _⟩ := hr
    exact ⟨ra, rc, h⟩
  subst hrv
  obtain ⟨n, hnn⟩ : ∃ n, L.length = n := ⟨_, rfl⟩
  rw [hnn] at hn ⊢
  have Hn := hidIn hnn
  have hn2 : n ≤ 100 := by omega
  have HTl : Hid (T.length = n) := hidIn (by omega)
  have hmk := makeZ
  obtain ⟨W0, hW0⟩ : ∃ W0, w.alloc (.map #[] 0) = W0 := ⟨_, rfl⟩
  have HG0 : Hid (GaM w W0 w.heap.size 0 (frI (T.take 0)) (fun _ => nilS)) := hidIn (by rw [← hW0]; exact gaM_new (Below.refl _ w))
  have HW := hidIn hW0
  clear hat h1 h2 hw hr hnr hRl hRw hnn hlen hl hW0
  go_enter Try.func14, Try.ntmps14
  go_upto_region 2 with fail
  rw [HW.out]
  clear HW hmk
  go_wp2_with fail
  go_loopw [14] (fun i wr => ∃ (k m : Nat), k ≤ n ∧ i = .int .i64 k ∧ Hid (∃ vv, GaM w wr w.heap.size m (frI (T.take k)) vv ∧ m ≤ k)) (fun i _ => n - (intOf i).toNat)
  case atStart => exact ⟨0, 0, Nat.zero_le _, rfl, hidIn ⟨_, HG0.out, Nat.le_refl _⟩⟩
  case round =>
    clear HG0
    obtain ⟨k, m, hk, rfl, HR⟩ := hrel
    obtain ⟨vv, hG, hmk⟩ := HR.out
    clear HR
    by_cases hlt : k < n
    · obtain ⟨bk, o, rfl, hbk, hcell⟩ := Ha.out (by have := Hn.out; omega)
      obtain ⟨⟨id, xs, xv⟩, hz⟩ : ∃ z, L[k]? = some z := ⟨L[k]'(by have := Hn.out; omega), List.getElem?_eq_getElem _⟩
      obtain ⟨q0, q1⟩ := hcell k _ hz
      obtain ⟨hxs, hxn⟩ := HA.out _ (List.mem_of_getElem? hz)
      simp only at q0 q1 hxs hxn
      have hTk : T[k]? = some (id, xs) := by rw [← H2.out, List.getElem?_map, hz]; rfl
      have hxw := Hw.out _ (List.mem_of_getElem? hTk)
      simp only at hxw
      have c0 := (hG.b.cell (p := ⟨bk, o + k * 2, none⟩) hbk).trans q0
      have c1 := (hG.b.cell (p := ⟨bk, o + k * 2 + 1, none⟩) hbk).trans q1
      obtain ⟨xa, xc, hxv, _, _, hxc⟩ := hxs.ints
      subst hxv
      have hki : (k : Int) < (n : Int) := by omega
      obtain ⟨W1, hW1⟩ : ∃ W1, wr.alloc (.cells #[.int .i64 id, .slice xa xs.length xc] 33) = W1 := ⟨_, rfl⟩
      have b1 : Below wr.heap.size wr W1 := by rw [← hW1]; exact (Below.refl _ wr).alloc (Nat.le_refl _) _
      have hX := heap_alloc_last wr (.cells #[.int .i64 id, .slice xa xs.length xc] 33)
      rw [hW1] at hX
      obtain ⟨br, hbr⟩ : ∃ br, wr.heap.size = br := ⟨_, rfl⟩
      rw [hbr] at hX
      have x0 := cell_of_row _ _ 0 _ _ _ hX
      have x1 := cell_of_row _ _ 1 _ _ _ hX
      simp at x0 x1
      have HG1 := hidIn (hG.keep b1)
      have HX1 := hidIn hX
      have HW := hidIn hW1
      have HF := hidIn (isFree_any id xa xs.length xc W1)
      have HT1 := hidIn (take_snoc hTk)
      have HXc := hidIn hxc
      have Hxw := hidIn hxw
      obtain ⟨xn, hxn'⟩ : ∃ xn, xs.length = xn := ⟨_, rfl⟩
      have Hxn := hidIn hxn'
      rw [hxn'] at c1 x1 HW HF HX1
      clear hcell q0 q1 hxs hxn hxc hX b1 hW1 hz hG hTk hxw hxn'
      go_upto_region 5 with fail
      rw [HW.out]
      clear HW c0 c1 hbr
      go_wp2_with fail
      refine HF.out.mono ?_
      rintro e w2 ⟨rfl, hb2⟩
      have hG2 := HG1.out.keep hb2
      have hX2 := (hb2.block _ (block_lt HX1.out)).trans HX1.out
      by_cases hone : xn = 1
      · subst hone
        obtain ⟨y, rfl⟩ : ∃ y, xs = [y] := List.length_eq_one_iff.1 Hxn.out
        obtain ⟨bx, ox, rfl, hbx, hxcell⟩ := HXc.out (by simp)
        have hy0 := hxcell 0 y rfl
        have hwf : (Lit.int .i64 y).wf = true := Hxw.out y (by simp)
        obtain ⟨Wd, hWd⟩ : ∃ Wd, w2.drew = Wd := ⟨_, rfl⟩
        have hbd : Below w2.heap.size w2 Wd := by rw [← hWd]; exact (Below.refl _ w2).drew
        have hvd := hG2.keep hbd
        have hxd := (hbd.block _ (block_lt hX2)).trans hX2
        have hgl := frI_len (T.take k) y
        rw [List.length_take] at hgl
        obtain ⟨ga, gcap, w6, w7, hrun, hput, hg7, hb6, hb7, hk7⟩ := hvd.add (by omega) hwf (by omega) id
        have HR7 : Hid (GaM w w7 w.heap.size (m + 1) (frI (T.take (k + 1))) (setF vv y (.slice ga ((frI (T.take k) y).length + 1) gcap))) := hidIn (by rw [HT1.out, frI_one]; exact hg7)
        have hba : Below Wd.heap.size Wd (Wd.alloc (.cells #[.int .i64 id] 3)) := (Below.refl _ Wd).alloc (Nat.le_refl _) _
        have hcs : ∀ wq : World, Below w.heap.size w wq → wq.heap[br]? = some (.cells #[.int .i64 id, .slice (some ⟨bx, ox, none⟩) 1 xc] 33) → idC br bx ox id y (some ⟨bx, ox, none⟩) xc wq := fun wq hq e1 => by
          have d0 := cell_of_row _ _ 0 _ _ _ e1
          have d1 := cell_of_row _ _ 1 _ _ _ e1
          simp at d0 d1
          have d2 := (hq.cell (p := ⟨bx, ox + 0, none⟩) hbx).trans hy0
          exact ⟨d0, d1, d2⟩
        have HSd := hidIn (hcs _ hvd.b hxd)
        have HSa := hidIn (hcs _ (hvd.b.trans (hba.mono hvd.b.size)) ((hba.block _ (block_lt hxd)).trans hxd))
        have HS6 := hidIn (hcs _ (hvd.b.trans hb6) (hk7 _ _ _ hxd (by decide)).1)
        have HS7 := hidIn (hcs _ (hvd.b.trans hb7) (hk7 _ _ _ hxd (by decide)).2)
        have HLd := hidIn (hvd.look hwf)
        have HLa := hidIn ((hvd.keep hba).look hwf)
        obtain ⟨gl, hgl'⟩ : ∃ gl, (frI (T.take k) y).length = gl := ⟨_, rfl⟩
        rw [hgl'] at hrun hput
        have HRun := hidIn hrun
        have HPut := hidIn hput
        have HWd := hidIn hWd
        obtain ⟨va, vc, hvc⟩ := row_shape (hvd.r y)
        rw [hgl'] at hvc
        rw [hvc] at HLd HLa HRun
        clear hrun hput hg7 hb6 hb7 hk7 hvd hbd hWd hgl hgl' hvc hba hcs hxd hG2 hX2 hb2 hy0 hxcell HF x0 x1 HG1 HX1
        go_upto_region 6 with fail
        refine wp_region_held_drew (S := fun wx => idC br bx ox id y (some ⟨bx, ox, none⟩) xc wx) (by kernel_rfl) (by rw [HWd.out]; exact HSd.out) (fun hHeld => ?_)
        rw [HWd.out] at hHeld ⊢
        refine wpAnyH_take (i := 0) (v := ?_) rfl (by kernel_rfl) (by kernel_rfl) (by kernel_rfl) (fun _ _ _ h => h) (Or.inl ⟨by rfl, ?_⟩) (by assumption) ?_
        rotate_left
        · intro wq hSw
          clear hSw
          go_simp
          try (with_reducible rfl)
        refine wpAnyH_take (i := 1) (v := ?_) rfl (by kernel_rfl) (by kernel_rfl) (by kernel_rfl) (fun _ _ _ h => h) (Or.inl ⟨by rfl, ?_⟩) (by assumption) ?_
        rotate_left
        · intro wq hSw
          clear hSw
          go_simp
          try (with_reducible rfl)
        refine wpAnyH_take (i := 2) (v := ?_) rfl (by kernel_rfl) (by kernel_rfl) (by kernel_rfl) (fun _ _ _ h => h) (Or.inl ⟨by rfl, ?_⟩) (by assumption) ?_
        rotate_left
        · intro wq hSw
          obtain ⟨zz0, zz1, zz2⟩ := hSw
          have hSw := zz0
          clear hSw
          go_simp
          try (with_reducible rfl)
        refine wpAnyH_take (i := 3) (v := ?_) rfl (by kernel_rfl) (by kernel_rfl) (by kernel_rfl) (fun _ _ _ h => h) (Or.inl ⟨by rfl, ?_⟩) (by assumption) ?_
        rotate_left
        · intro wq hSw
          clear hSw
          go_simp
          try (with_reducible rfl)
        refine wpAnyH_take (i := 4) (v := ?_) rfl (by kernel_rfl) (by kernel_rfl) (by kernel_rfl) (fun _ _ _ h => h) (Or.inl ⟨by rfl, ?_⟩) (by assumption) ?_
        rotate_left
        · intro wq hSw
          obtain ⟨zz0, zz1, zz2⟩ := hSw
          have hSw := zz0
          clear hSw
          go_simp
          try (with_reducible rfl)
        refine wpAnyH_take (i := 5) (v := ?_) rfl (by kernel_rfl) (by kernel_rfl) (by kernel_rfl) (fun _ _ _ h => h) (Or.inl ⟨by rfl, ?_⟩) (by assumption) ?_
        rotate_left
        · intro wq hSw
          clear hSw
          go_simp
          try (with_reducible rfl)
        refine wpAnyH_take (i := 6) (v := ?_) rfl (by kernel_rfl) (by kernel_rfl) (by kernel_rfl) (fun _ _ _ h => h) (Or.inl ⟨by rfl, ?_⟩) (by assumption) ?_
        rotate_left
        · intro wq hSw
          clear hSw
          go_simp
          try (with_reducible rfl)
        refine wpAnyH_take (i := 7) (v := ?_) rfl (by kernel_rfl) (by kernel_rfl) (by kernel_rfl) (fun _ _ _ h => h) (Or.inl ⟨by rfl, ?_⟩) (by assumption) ?_
        rotate_left
        · intro wq hSw
          obtain ⟨zz0, zz1, zz2⟩ := hSw
          have hSw := zz0
          clear hSw
          go_simp
          try (with_reducible rfl)
        refine wpAnyH_take (i := 8) (v := ?_) rfl (by kernel_rfl) (by kernel_rfl) (by kernel_rfl) (fun _ _ _ h => h) (Or.inl ⟨by rfl, ?_⟩) (by assumption) ?_
        rotate_left
        · intro wq hSw
          clear hSw
          go_simp
          try (with_reducible rfl)
        refine wpAnyH_take (i := 9) (v := ?_) rfl (by kernel_rfl) (by kernel_rfl) (by kernel_rfl) (fun _ _ _ h => h) (Or.inl ⟨by rfl, ?_⟩) (by assumption) ?_
        rotate_left
        · intro wq hSw
          obtain ⟨zz0, zz1, zz2⟩ := hSw
          have hSw := zz0
          clear hSw
          go_simp
          try (with_reducible rfl)
        refine wpAnyH_take (i := 11) (v := ?_) rfl (by kernel_rfl) (by kernel_rfl) (by kernel_rfl) (fun _ _ _ h => h) (Or.inl ⟨by rfl, ?_⟩) (by assumption) ?_
        rotate_left
        · intro wq hSw
          clear hSw
          go_simp
          try (with_reducible rfl)
        refine wpAnyH_take (i := 12) (v := ?_) rfl (by kernel_rfl) (by kernel_rfl) (by kernel_rfl) (fun _ _ _ h => h) (Or.inl ⟨by rfl, ?_⟩) (by assumption) ?_
        rotate_left
        · intro wq hSw
          obtain ⟨zz0, zz1, zz2⟩ := hSw
          have hSw := zz0
          clear hSw
          go_simp
          try (with_reducible rfl)
        refine wpAnyH_ready (rs := [10, 13]) (by kernel_rfl) (by simp) ?_
        refine AllReadyH.cons (i := 10) rfl ?_ (AllReadyH.cons (i := 13) rfl ?_ AllReadyH.nil)
        · have hru := HLd.out
          go_simp
          clear hru
          intro K hK
          refine hK.out _ _ HSd.out (fun _ => ?_)
          clear hK K
          refine wpAnyH_ready (rs := [13]) (by kernel_rfl) (by simp) ?_
          refine AllReadyH.cons (i := 13) rfl ?_ AllReadyH.nil
          go_simp
          intro K hK
          refine hK.out _ _ HSa.out (fun _ => ?_)
          clear hK K
          refine wpAnyH_ready (rs := [14]) (by kernel_rfl) (by simp) ?_
          refine AllReadyH.cons (i := 14) rfl (fun K hK => ?_) AllReadyH.nil
          refine step_append rfl (.tmp 30) (.tmp 33) 30 rfl (by kernel_rfl) (by kernel_rfl) HRun.out ?_
          refine hK.out _ _ HS6.out (fun _ => ?_)
          clear hK K
          refine wpAnyH_ready (rs := [15]) (by kernel_rfl) (by simp) ?_
          refine AllReadyH.cons (i := 15) rfl ?_ AllReadyH.nil
          have hru := HPut.out
          go_simp
          clear hru
          intro K hK
          refine hK.out _ _ HS7.out (fun _ => ?_)
          clear hK K
          refine wpAnyH_done (by kernel_rfl) ?_ _
          go_wp2_with fail
          go_roundw
          case rel => exact ⟨k + 1, m + 1, by omega, by go_num, hidIn ⟨_, HR7.out, by omega⟩⟩
          case measure => simp [intOf]; omega
        · go_simp
          intro K hK
          refine hK.out _ _ HSa.out (fun _ => ?_)
          clear hK K
          refine wpAnyH_ready (rs := [10]) (by kernel_rfl) (by simp) ?_
          refine AllReadyH.cons (i := 10) rfl ?_ AllReadyH.nil
          have hru := HLa.out
          go_simp
          clear hru
          intro K hK
          refine hK.out _ _ HSa.out (fun _ => ?_)
          clear hK K
          refine wpAnyH_ready (rs := [14]) (by kernel_rfl) (by simp) ?_
          refine AllReadyH.cons (i := 14) rfl (fun K hK => ?_) AllReadyH.nil
          refine step_append rfl (.tmp 30) (.tmp 33) 30 rfl (by kernel_rfl) (by kernel_rfl) HRun.out ?_
          refine hK.out _ _ HS6.out (fun _ => ?_)
          clear hK K
          refine wpAnyH_ready (rs := [15]) (by kernel_rfl) (by simp) ?_
          refine AllReadyH.cons (i := 15) rfl ?_ AllReadyH.nil
          have hru := HPut.out
          go_simp
          clear hru
          intro K hK
          refine hK.out _ _ HS7.out (fun _ => ?_)
          clear hK K
          refine wpAnyH_done (by kernel_rfl) ?_ _
          go_wp2_with fail
          go_roundw
          case rel => exact ⟨k + 1, m + 1, by omega, by go_num, hidIn ⟨_, HR7.out, by omega⟩⟩
          case measure => simp [intOf]; omega
      · have hb1 : (xn == 1) = false := by simpa using hone
        rw [hb1]
        have HG2 : Hid (GaM w w2 w.heap.size m (frI (T.take (k + 1))) vv) := hidIn (by rw [HT1.out, frI_no _ (by simp only; rw [Hxn.out]; exact hone)]; exact hG2)
        clear hG2 hX2 hb2 HF x0 x1 HG1 HX1 hb1
        go_wp2_with fail
        go_roundw
        case rel => exact ⟨k + 1, m, by omega, by go_num, hidIn ⟨_, HG2.out, by omega⟩⟩
        case measure => simp [intOf]; omega
    · have hke : T.take k = T := List.take_of_length_le (by have := HTl.out; omega)
      rw [hke] at hG
      have hki : ¬ ((k : Int) < (n : Int)) := by omega
      have HRi := hidIn (rising_any (HRs.out.keep hG.b (Nat.le_refl _)) HRn.out (by have := HRl.out; omega))
      have HG := hidIn hG
      obtain ⟨R, hR⟩ : ∃ R, rsL R0 = R := ⟨_, rfl⟩
      have HRR := hidIn hR
      have hRlen := rsL_len R0
      rw [hR] at hRlen HRi
      obtain ⟨rn, hrn⟩ : ∃ rn, R.length = rn := ⟨_, rfl⟩
      rw [hrn] at HRi hRlen
      have Hrn := hidIn hrn
      have hr2 : rn ≤ 100 := by have := HRl.out; omega
      clear hG hke hR hRlen hrn hmk
      go_wp2_with fail
      refine HRi.out.mono ?_
      rintro e w3 ⟨⟨qa, qc, rfl, hrow⟩, hb3⟩
      have HG3 := hidIn (HG.out.keep hb3)
      have HK3 := hidIn (slAt_of_row (cs := ic) (fun _ => rfl) hrow Hrn.out)
      have HB3 := hidIn (HG.out.b.trans (hb3.mono HG.out.b.size))
      clear hrow hb3 HRi HG
      go_wp2_with fail
      go_loopw [4, 5, 39] (fun ua ub i wz => ∃ (j : Nat), j ≤ rn ∧ i = .int .i64 j ∧ (∃ a c, ua = .slice a ((R.take j).flatMap (frI T)).length c) ∧ (∃ a c, ub = .slice a ((R.take j).filter fun n => (frI T n).isEmpty).length c) ∧ Hid (TwoM w3 wz ua ub ((R.take j).flatMap (frI T)) ((R.take j).filter fun n => (frI T n).isEmpty))) (fun _ _ i _ => rn - (intOf i).toNat)
      case atStart => exact ⟨0, Nat.zero_le _, rfl, ⟨none, 0, rfl⟩, ⟨none, 0, rfl⟩, hidIn ⟨World.ownsRow_nil _ _ _ _, World.ownsRow_nil _ _ _ _, fun j hj => by simp [Value.ownBlock] at hj, Below.refl _ _⟩⟩
      case round =>
        obtain ⟨j, hj, rfl, ⟨ia, ic', rfl⟩, ⟨wa, wc, rfl⟩, HT2⟩ := hrel
        by_cases hltj : j < rn
        · obtain ⟨q, hq⟩ : ∃ q, R[j]? = some q := ⟨R[j]'(by have := Hrn.out; omega), List.getElem?_eq_getElem _⟩
          have hqw : (Lit.int .i64 q).wf = true := HRw.out q ((rsL_ok R0).2 q |>.1 (by rw [HRR.out]; exact List.mem_of_getElem? hq))
          obtain ⟨qa', qc', hqe, _, _, hqc⟩ := HK3.out.ints
          simp only [Value.slice.injEq] at hqe
          obtain ⟨rfl, hz9, rfl⟩ := hqe
          clear hz9
          obtain ⟨bk, o, rfl, hbk, hcell⟩ := hqc (by have := Hrn.out; omega)
          have hM := HT2.out
          have q0 := (hM.w.cell (p := ⟨bk, o + j, none⟩) hbk).trans (hcell j q hq)
          have hGz := HG3.out.keep hM.w
          have hlk := hGz.look hqw
          obtain ⟨va, vc, hvv⟩ := row_shape (hGz.r q)
          rw [hvv] at hlk
          have HF1 : Hid ((R.take (j + 1)).flatMap (frI T) = (R.take j).flatMap (frI T) ++ frI T q) := hidIn (by rw [take_snoc hq, List.flatMap_append]; simp)
          have HF2 : Hid (((R.take (j + 1)).filter fun n => (frI T n).isEmpty) = ((R.take j).filter fun n => (frI T n).isEmpty) ++ (if (frI T q).isEmpty then [q] else [])) := hidIn (by
            rw [take_snoc hq, List.filter_append]
            congr 1
            cases hh : (frI T q).isEmpty <;> simp [hh])
          have hfl := flat_len (T := T) (n := 100) (by have := HTl.out; omega) (R.take j)
          have hrl : (R.take j).length ≤ 100 := by rw [List.length_take]; omega
          have hfl2 : ((R.take j).flatMap (frI T)).length ≤ 10000 := Nat.le_trans hfl (by omega)
          have hwl : ((R.take j).filter fun n => (frI T n).isEmpty).length ≤ 100 := Nat.le_trans (List.length_filter_le _ _) hrl
          have hql := frI_len T q
          have hTn := HTl.out
          generalize (R.take j).flatMap (frI T) = la at hM HF1 hfl2
          generalize ((R.take j).filter fun n => (frI T n).isEmpty) = lb at hM HF2 hwl
          have hji : (j : Int) < (rn : Int) := by omega
          obtain ⟨fq, hfq⟩ : ∃ fq, frI T q = fq := ⟨_, rfl⟩
          have hvz : fq = [] → vv q = nilS := fun e => hGz.z q (by rw [hfq]; exact e)
          have hrq := hGz.r q
          rw [hfq] at HF1 HF2 hql hvv hrq hlk
          rcases Nat.eq_zero_or_pos fq.length with hf0 | hf0
          · have hfe : fq = [] := List.length_eq_zero_iff.1 hf0
            subst hfe
            have hv0 := hvz rfl
            rw [hv0] at hvv
            simp only [Value.slice.injEq] at hvv
            obtain ⟨rfl, hz8, rfl⟩ := hvv
            clear hz8
            simp only [List.length_nil] at hlk
            obtain ⟨g, gc, w6, hrun, hown, hlie, hgr, hb6⟩ := append_int hM.b q (by omega) hM.w.size
            have hF6 : Fr (fun i => (Value.slice wa lb.length wc).ownBlock = some i) wr w6 := ⟨hgr.os, hgr.tape, hgr.output, hgr.size, fun i hi hn => hgr.block i hi (fun e => hn e.symm)⟩
            have ha6 := row_fr hM.a hF6 (fun i hi => hM.d i hi)
            have hB6 := hM.w.trans hb6
            have hlk6 := (HG3.out.keep hB6).look hqw
            rw [hv0] at hlk6
            have hnil6 : SlAt ic 1 w6 nilS [] := slAt_of_row (cs := ic) (fun _ => rfl) (World.ownsRow_nil w6 0 3 1) rfl
            obtain ⟨a7, c7, w7, hrun7, hown7, hb7, hF7, hl7⟩ := append_L ha6 hnil6 (fun _ => rfl) (by simp; omega) hB6.size
            have hne : ∀ i, (Value.slice ia la.length ic').ownBlock = some i → ¬ (i = g) := fun i hi e => by
              subst e
              rcases hlie with h1 | h1
              · exact hM.d i hi h1
              · have := (hM.a.lt i hi).2
                omega
            have HO : Hid (TwoM w3 w7 (.slice a7 la.length c7) (.slice (some ⟨g, 0, none⟩) (lb.length + 1) gc) la (lb ++ [q])) := hidIn (by
              simp only [List.length_nil, Nat.add_zero, List.append_nil] at hown7 hl7
              refine ⟨hown7, ?_, fun i hi e => ?_, hB6.trans hb7⟩
              · rw [List.length_append, List.length_singleton]
                exact row_fr hown hF7 (fun i hi e => by
                  simp [Value.ownBlock] at hi
                  exact hne i e hi.symm)
              · simp [Value.ownBlock] at e
                rcases hl7 i hi with h1 | h1
                · exact hne i h1 e.symm
                · have := (hown.lt g rfl).2
                  omega)
            have HRun := hidIn hrun
            have HRun7 : Hid ((Builtin.append_ #[30, 30] 30 #[.slice ia la.length ic', .slice none 0 0]).run Try.prog w6 = .ok (.slice a7 la.length c7) w7) := hidIn (by simpa using hrun7)
            have HLk6 := hidIn hlk6
            have HE1 : Hid ((R.take (j + 1)).flatMap (frI T) = la) := hidIn (by rw [HF1.out, List.append_nil])
            have HE2 : Hid (((R.take (j + 1)).filter fun n => (frI T n).isEmpty) = lb ++ [q]) := hidIn HF2.out
            clear hq hqc hcell hM hGz hvz hrq hfl hrl hF6 ha6 hB6 hnil6 hown7 hb7 hF7 hl7 hne hrun hown hlie hgr hb6 hrun7 hlk6 HT2 HF1 HF2 hfq hfl2 hwl hql hTn hv0 hf0
            generalize hlan : la.length = lan at *
            generalize hlbn : lb.length = lbn at *
            have HLa := hidIn hlan
            have HLb := hidIn hlbn
            clear hlan hlbn
            go_upto_region 13 with (refine l_append rfl _ _ 30 rfl HRun.out ?_)
            have hlk' := HLk6.out
            clear hlk q0
            go_wp2_with (refine l_append rfl _ _ 30 rfl HRun7.out ?_)
            go_roundw
            case rel => exact ⟨j + 1, by omega, by go_num, ⟨a7, c7, by rw [HE1.out, HLa.out]⟩, ⟨_, gc, by rw [HE2.out, List.length_append, HLb.out]; rfl⟩, by rw [HE1.out, HE2.out]; exact HO⟩
            case measure => simp [intOf]; omega
          · obtain ⟨a7, c7, w7, hrun7, hown7, hb7, hF7, hl7⟩ := append_L hM.a (slAt_of_row (cs := ic) (fun _ => rfl) hrq rfl) (fun e => by rw [e] at hf0; simp at hf0) (by omega) hM.w.size
            rw [hvv] at hrun7
            have hb7' := row_fr hM.b hF7 (fun i hi e => hM.d i e hi)
            have hfe : fq.isEmpty = false := by cases fq with | nil => simp at hf0 | cons x y => rfl
            have HO : Hid (TwoM w3 w7 (.slice a7 (la.length + fq.length) c7) (.slice wa lb.length wc) (la ++ fq) lb) := hidIn ⟨by rw [List.length_append]; exact hown7, hb7', fun i hi e => by
              rcases hl7 i hi with h1 | h1
              · exact hM.d i h1 e
              · have := (hM.b.lt i e).2
                omega, hM.w.trans hb7⟩
            have HRun7 := hidIn hrun7
            have HE1 := hidIn HF1.out
            have HE2 : Hid (((R.take (j + 1)).filter fun n => (frI T n).isEmpty) = lb) := hidIn (by rw [HF2.out, hfe]; simp)
            obtain ⟨fn, hfn⟩ : ∃ fn, fq.length = fn := ⟨_, rfl⟩
            rw [hfn] at hf0 HRun7 HO hlk
            have hfi : ¬ ((fn : Int) = 0) := by omega
            have HLl : Hid ((la ++ fq).length = la.length + fn) := hidIn (by rw [List.length_append, hfn])
            clear hq hqc hcell hM hGz hvz hrq hfl hrl hown7 hb7 hF7 hl7 hrun7 HT2 HF1 HF2 hfq hfl2 hwl hql hTn hvv hb7' hfe hf0 hfn
            generalize hlan : la.length = lan at *
            generalize hlbn : lb.length = lbn at *
            have HLb := hidIn hlbn
            clear hlan hlbn
            go_wp2_with (refine l_append rfl _ _ 30 rfl HRun7.out ?_)
            go_roundw
            case rel => exact ⟨j + 1, by omega, by go_num, ⟨a7, c7, by rw [HE1.out, HLl.out]⟩, ⟨wa, wc, by rw [HE2.out, HLb.out]⟩, by rw [HE1.out, HE2.out]; exact HO⟩
            case measure => simp [intOf]; omega
        · have hje : R.take j = R := List.take_of_length_le (by have := Hrn.out; omega)
          have hM := HT2.out
          rw [hje] at hM ⊢
          have hji : ¬ ((j : Int) < (rn : Int)) := by omega
          have hfl := flat_len (T := T) (n := 100) (by have := HTl.out; omega) R
          have hfl2 : (R.flatMap (frI T)).length ≤ 10000 := Nat.le_trans hfl (by have := Hrn.out; omega)
          have HRi := hidIn (rising_any (slAt_of_row (cs := ic) (fun _ => rfl) hM.a rfl) (row_nilOk hM.a) (by omega))
          have HIw := hidIn hM.b
          have HMw := hidIn (HB3.out.trans (hM.w.mono HB3.out.size))
          have HMs := hidIn (Nat.le_trans HB3.out.size hM.w.size)
          obtain ⟨fl1, hfl1⟩ : ∃ fl1, (R.flatMap (frI T)).length = fl1 := ⟨_, rfl⟩
          obtain ⟨fl2, hfl2'⟩ : ∃ fl2, (R.filter fun n => (frI T n).isEmpty).length = fl2 := ⟨_, rfl⟩
          rw [hfl1] at HRi ⊢
          rw [hfl2'] at HIw ⊢
          have Hf2 := hidIn hfl2'
          obtain ⟨rl, hrl⟩ : ∃ rl, rsL (R.flatMap (frI T)) = rl := ⟨_, rfl⟩
          rw [hrl] at HRi
          have Hrl := hidIn hrl
          clear hM hje hfl hfl2 hfl1 hfl2' hrl HT2
          go_wp2_with fail
          refine HRi.out.mono ?_
          rintro e w4 ⟨⟨ra4, rc4, rfl, hrow4⟩, hb4⟩
          have HE : Hid (IdsA w w4 T (rsL R0) (.returned (.tuple #[.slice ra4 rl.length rc4, .slice wa fl2 wc])) ∧ Below w.heap.size w w4) := hidIn (by
            refine ⟨⟨_, _, rfl, ?_, ?_⟩, HMw.out.trans (hb4.mono HMs.out)⟩
            · unfold idsT
              rw [HRR.out, Hrl.out]
              exact row_low hrow4 HMs.out
            · unfold wioT
              rw [HRR.out, Hf2.out]
              exact row_below (row_low HIw.out HB3.out.size) hb4 (Nat.le_refl _))
          clear hrow4 hb4 HRi
          go_wp2_with fail
          go_ret2
          exact HE.out
end Go.Proofs.Ytnhlonapbohaeaa
