/- All. -/
import Derived.Test.YtgpinecfmhenkaaDoorU3
import Derived.Deep.RegionHeld3
namespace Go.Proofs.YtgpinecfmhenkaaDoor
open Go.RowKit Go.Maps

/-- What All answers. -/
def AllA (w w' : World) (rs : List Rc) (e : Ending) : Prop :=
  (bothOk no1 rs = true ∧ ∃ u, e = .returned (.tuple #[u, .int .i64 0]) ∧ ClsAns w w' (allC rs) u) ∨ (bothOk no1 rs = false ∧ e = .returned (.tuple #[nilS, .int .i64 2]))
theorem gat_set (rs : List Rc) (r : Rc) (h : r.claim ≠ 0) : gat (rs ++ [r]) = setF (gat rs) r.claim (gat rs r.claim ++ [r.origin]) := by
  funext k
  rw [gat_snoc]
  by_cases hk : k = r.claim
  · subst hk
    rw [setF_same, if_pos ⟨rfl, h⟩]
  · rw [setF_other _ _ hk, if_neg (fun e => hk e.1.symm), List.append_nil]
theorem gat_none (rs : List Rc) (r : Rc) (h : r.claim = 0) : gat (rs ++ [r]) = gat rs := by
  funext k
  rw [gat_snoc, if_neg (fun e => e.2 h), List.append_nil]
/-- What All has behind some records. -/
structure AlM (w wr : World) (F : Nat → Bool) (n : Nat) (g : Int → List Int) : Prop where
  t : Arr wr w.heap.size 67 (mcl F)
  g : ∃ v, GaM w wr (w.heap.size + 1) n g v
theorem AlM.keep {w wr w' : World} {F : Nat → Bool} {n : Nat} {g : Int → List Int} (h : AlM w wr F n g) (hb : Below wr.heap.size wr w') : AlM w w' F n g := by
  obtain ⟨v, hv⟩ := h.g
  exact ⟨h.t.keep hb h.t.lt, v, hv.keep hb⟩
theorem AlM.b {w wr : World} {F : Nat → Bool} {n : Nat} {g : Int → List Int} (h : AlM w wr F n g) : Below w.heap.size w wr := by
  obtain ⟨v, hv⟩ := h.g
  exact hv.b
theorem AlM.mark {w wr : World} {F : Nat → Bool} {n : Nat} {g : Int → List Int} (h : AlM w wr F n g) {k : Nat} (hk : k < 25) : AlM w (wr.setCell ⟨w.heap.size, k, none⟩ (.bool true)) (mk1 F k) n g := by
  obtain ⟨v, hv⟩ := h.g
  exact ⟨by rw [← mcl_set F hk]; exact h.t.set k _, v, hv.set h.t (by decide) (Nat.le_refl _) k _⟩
/-- A record's block is read. -/
def rdC (br : Nat) (m cl : Int) (wx : World) : Prop := wx.cell? ⟨br, 0, none⟩ = some (.int .i64 m) ∧ wx.cell? ⟨br, 3, none⟩ = some (.int .i64 cl)
theorem eq_sl (a : Option Addr) (n c : Nat) : (Value.slice a n c).oneCell' = true := rfl

set_option maxRecDepth 100000 in
set_option maxHeartbeats 4000000 in
theorem all_any {l : List (Rc × Value)} {v : Value} {w : World} (h : RecsAt w v l) (hlen : l.length ≤ 10000) :
    Calls Tryd.prog 15 #[v] w fun e w' => AllA w w' (rcs l) e ∧ Below w.heap.size w w' := by
  obtain ⟨a, cap, rfl, hl, _, hat⟩ := h.r.recs
  have Ha := hidIn hat
  have HA := hidIn h.a
  have Hlen := hidIn hlen
  clear hat h hlen
  have hzm := zeroMet
  have hmk := makeZ
  obtain ⟨W0, hW0⟩ : ∃ W0, (w.alloc (.cells (mcl no1).toArray 67)).alloc (.map #[] 0) = W0 := ⟨_, rfl⟩
  have HM0 : Hid (AlM w W0 no1 0 (gat [])) := hidIn (by
    have b0 : Below w.heap.size w (w.alloc (.cells (mcl no1).toArray 67)) := (Below.refl _ w).alloc (Nat.le_refl _) _
    rw [← hW0]
    refine ⟨?_, fun _ => nilS, ?_⟩
    · unfold Arr
      rw [Below.heap_alloc _ _ _ (by simp)]
      exact heap_alloc_last w _
    · have := gaM_new b0
      rw [World.size_alloc] at this
      exact this)
  have HW := hidIn hW0
  clear hW0
  go_enter Tryd.func15, Tryd.ntmps15
  go_upto_region 3 with fail
  rw [HW.out]
  clear HW hzm hmk
  go_wp2_with fail
  go_loopw [14] (fun i wr => ∃ (k n : Nat), k ≤ l.length ∧ i = .int .i64 k ∧ Hid (AlM w wr (thereL no1 (rcs (l.take k))) n (gat (rcs (l.take k))) ∧ n ≤ k ∧ bothOk no1 (rcs l) = bothOk (thereL no1 (rcs (l.take k))) (rcs (l.drop k)))) (fun i _ => l.length - (intOf i).toNat)
  case atStart => exact ⟨0, 0, Nat.zero_le _, rfl, hidIn ⟨HM0.out, Nat.le_refl _, by rw [List.drop_zero]; rfl⟩⟩
  case round =>
    obtain ⟨k, n, hk, rfl, HR⟩ := hrel
    clear HM0
    by_cases hlt : k < l.length
    · obtain ⟨bk, o, rfl, hbk, hcell⟩ := Ha.out (by omega)
      obtain ⟨⟨⟨orig, epo, sq, cl, ig, as'⟩, va⟩, hz⟩ : ∃ z, l[k]? = some z := ⟨l[k], List.getElem?_eq_getElem hlt⟩
      obtain ⟨hM, hnk, hrest⟩ := HR.out
      clear HR
      obtain ⟨q0, q1, q2, q3, q4, q5⟩ := hcell k _ hz
      have hbel := hM.b
      have c0 := (hbel.cell (p := ⟨bk, o + k * 6, none⟩) hbk).trans q0
      have c1 := (hbel.cell (p := ⟨bk, o + k * 6 + 1, none⟩) hbk).trans q1
      have c2 := (hbel.cell (p := ⟨bk, o + k * 6 + 2, none⟩) hbk).trans q2
      have c3 := (hbel.cell (p := ⟨bk, o + k * 6 + 3, none⟩) hbk).trans q3
      have c4 := (hbel.cell (p := ⟨bk, o + k * 6 + 4, none⟩) hbk).trans q4
      have c5 := (hbel.cell (p := ⟨bk, o + k * 6 + 5, none⟩) hbk).trans q5
      simp only at c0 c1 c2 c3 c4 c5
      have hva := HA.out (⟨orig, epo, sq, cl, ig, as'⟩, va) (List.mem_of_getElem? hz)
      simp only at hva
      obtain ⟨aa, acap, rfl, hal, _, haat⟩ := hva.ads
      clear haat
      have HN : Hid (bothOk no1 (rcs l) = (recOk ⟨orig, epo, sq, cl, ig, as'⟩ && (!thereL no1 (rcs (l.take k)) orig.toNat && bothOk (mk1 (thereL no1 (rcs (l.take k))) orig.toNat) (rcs (l.drop (k + 1)))))) := hidIn (by
        rw [hrest, drop_next hz]
        show bothOk _ (⟨orig, epo, sq, cl, ig, as'⟩ :: rcs (l.drop (k + 1))) = _
        rw [bothOk])
      have HT : Hid (thereL no1 (rcs (l.take (k + 1))) = mk1 (thereL no1 (rcs (l.take k))) orig.toNat) := hidIn (by rw [take_snoc hz, rcs, List.map_append]; exact thereL_snoc _ _ _)
      have HG : Hid (rcs (l.take (k + 1)) = rcs (l.take k) ++ [⟨orig, epo, sq, cl, ig, as'⟩]) := hidIn (by rw [take_snoc hz, rcs, List.map_append]; rfl)
      have HGl : Hid (∀ id, (gat (rcs (l.take k)) id).length ≤ k) := hidIn fun id => Nat.le_trans (gat_len _ _) (by rw [rcs, List.length_map]; exact List.length_take_le _ _)
      generalize thereL no1 (rcs (l.take k)) = F at *
      obtain ⟨W1, hW1⟩ : ∃ W1, wr.alloc (recO ⟨orig, epo, sq, cl, ig, as'⟩ (.slice aa as'.length acap)) = W1 := ⟨_, rfl⟩
      have hb1 : Below wr.heap.size wr W1 := by rw [← hW1]; exact (Below.refl _ wr).alloc (Nat.le_refl _) _
      have hbx : W1.heap[wr.heap.size]? = some (recO ⟨orig, epo, sq, cl, ig, as'⟩ (.slice aa as'.length acap)) := by rw [← hW1]; exact heap_alloc_last wr _
      have hM1 := hM.keep hb1
      obtain ⟨br, hbr⟩ : ∃ br, wr.heap.size = br := ⟨_, rfl⟩
      rw [hbr] at hbx
      have b0 := cell_of_row _ _ 0 _ _ _ hbx
      have b1 := cell_of_row _ _ 1 _ _ _ hbx
      have b2 := cell_of_row _ _ 2 _ _ _ hbx
      have b3 := cell_of_row _ _ 3 _ _ _ hbx
      have b4 := cell_of_row _ _ 4 _ _ _ hbx
      have b5 := cell_of_row _ _ 5 _ _ _ hbx
      simp at b0 b1 b2 b3 b4 b5
      have HW := hidIn hW1
      have HM1 := hidIn hM1
      have HBX := hidIn hbx
      have hki : (k : Int) < (l.length : Int) := by omega
      have HC := hidIn (rcheck_any (r := ⟨orig, epo, sq, cl, ig, as'⟩) (hva.keep hM1.b (Nat.le_refl _)))
      have hltx := block_lt hbx
      have hwr := hM.t.lt
      rw [hbr] at hwr
      clear hcell q0 q1 q2 q3 q4 q5 hz hrest hbel hM hva hb1 hW1 hM1 hbx
      go_upto_region 6 with fail
      rw [HW.out]
      clear HW c0 c1 c2 c3 c4 c5
      go_wp2_with fail
      refine HC.out.mono ?_
      rintro e' w2 ⟨rfl, hb2⟩
      have hM2 := HM1.out.keep hb2
      have hbx2 := (hb2.block _ hltx).trans HBX.out
      clear b0 b1 b2 b3 b4 b5 HM1 HBX HC hb2 hltx hbr
      obtain ⟨b1, hb1⟩ : ∃ b1, recOk ⟨orig, epo, sq, cl, ig, as'⟩ = b1 := ⟨_, rfl⟩
      have Hb1 := hidIn hb1
      have hck : ckN ⟨orig, epo, sq, cl, ig, as'⟩ = if b1 then 0 else 2 := by unfold ckN; rw [hb1]
      rw [hck]
      clear hb1 hck
      have HM2 := hidIn hM2
      cases b1
      · have HB := hidIn hM2.b
        clear hbx2 hM2
        simp only [Bool.false_eq_true, if_false]
        go_wp2_with fail
        go_ret2
        exact ⟨.inr ⟨by rw [HN.out, Hb1.out]; rfl, rfl⟩, HB.out⟩
      · have hp := (recOk_parts Hb1.out).1
        simp only at hp
        obtain ⟨ho1, ho2⟩ := hp
        have hcl : 0 ≤ cl ∧ cl ≤ 1024 := by
          have := Hb1.out
          simp only [recOk, Bool.and_eq_true, decide_eq_true_eq] at this
          exact ⟨this.2.2.2.1, this.2.2.2.2.1⟩
        obtain ⟨m, rfl⟩ : ∃ m : Nat, orig = (m : Int) := ⟨orig.toNat, by omega⟩
        have hm : m < 25 := by omega
        have hmi : (m : Int) < 25 := by omega
        rw [Int.toNat_natCast] at HN HT
        have mc := hM2.t.cell m
        rw [mcl_get _ hm] at mc
        have mf := hM2.t.frozen m
        have x0 := cell_of_row _ _ 0 _ _ _ hbx2
        have x3 := cell_of_row _ _ 3 _ _ _ hbx2
        simp at x0 x3
        obtain ⟨b2, hb2⟩ : ∃ b2, F m = b2 := ⟨_, rfl⟩
        have Hb2 := hidIn hb2
        rw [hb2] at mc
        have HB := hidIn hM2.b
        clear hb2
        simp only [if_true]
        cases b2
        · have hM3 := hM2.mark hm
          have hne : ¬ br = w.heap.size := by omega
          have hbx3 : (w2.setCell ⟨w.heap.size, m, none⟩ (.bool true)).heap[br]? = some (recO ⟨(m : Int), epo, sq, cl, ig, as'⟩ (.slice aa as'.length acap)) := (Below.heap_setCell _ _ _ _ (by show br ≠ w.heap.size; exact hne)).trans hbx2
          have HM3 := hidIn hM3
          have HX3 := hidIn hbx3
          have y3 := cell_of_row _ _ 3 _ _ _ hbx3
          have y0 := cell_of_row _ _ 0 _ _ _ hbx3
          simp at y0 y3
          obtain ⟨W3, hW3⟩ : ∃ W3, w2.setCell ⟨w.heap.size, m, none⟩ (.bool true) = W3 := ⟨_, rfl⟩
          rw [hW3] at HM3 HX3 y0 y3
          have HW3 := hidIn hW3
          clear hM2 hbx2 hM3 hbx3 hW3
          go_upto_region 9 with fail
          rw [HW3.out]
          clear mc mf x0 x3 HB HM2 HW3
          by_cases hc0 : cl = 0
          · subst hc0
            go_wp2_with fail
            go_roundw
            case rel => exact ⟨k + 1, n, by omega, by go_num, hidIn ⟨by rw [HT.out, HG.out, gat_none _ _ rfl]; exact HM3.out, by omega, by rw [HN.out, HT.out, Hb1.out, Hb2.out]; simp⟩⟩
            case measure => simp [intOf]; omega
          · have hcne : ¬ cl = 0 := hc0
            have hwf : (Lit.int .i64 cl).wf = true := wf9 (by omega)
            obtain ⟨vv, hvv⟩ := HM3.out.g
            obtain ⟨Wd, hWd⟩ : ∃ Wd, W3.drew = Wd := ⟨_, rfl⟩
            have hbd : Below W3.heap.size W3 Wd := by rw [← hWd]; exact (Below.refl _ W3).drew
            have hvd := hvv.keep hbd
            have hxd := (hbd.block _ (block_lt HX3.out)).trans HX3.out
            obtain ⟨ga, gcap, w6, w7, hrun, hput, hg7, hb6, hb7, hk7⟩ := hvd.add (by have := Hlen.out; omega) hwf (by have := HGl.out cl; have := Hlen.out; omega) (m : Int)
            have ht7 : Arr w7 w.heap.size 67 (mcl (mk1 F m)) := (hk7 _ _ _ (HM3.out.t.keep hbd HM3.out.t.lt) (by decide)).2
            have HR7 : Hid (AlM w w7 (mk1 F m) (n + 1) (gat (rcs (l.take k) ++ [⟨(m : Int), epo, sq, cl, ig, as'⟩]))) := hidIn ⟨ht7, _, by rw [gat_set _ _ hcne]; exact hg7⟩
            have hba : Below Wd.heap.size Wd (Wd.alloc (.cells #[.int .i64 (m : Int)] 3)) := (Below.refl _ Wd).alloc (Nat.le_refl _) _
            have hcs : ∀ wq : World, wq.heap[br]? = some (recO ⟨(m : Int), epo, sq, cl, ig, as'⟩ (.slice aa as'.length acap)) → rdC br (m : Int) cl wq := fun wq e1 => by
              have d0 := cell_of_row _ _ 0 _ _ _ e1
              have d3 := cell_of_row _ _ 3 _ _ _ e1
              simp at d0 d3
              exact ⟨d0, d3⟩
            have HSd := hidIn (hcs _ hxd)
            have HSa := hidIn (hcs _ ((hba.block _ (block_lt hxd)).trans hxd))
            have HS6 := hidIn (hcs _ (hk7 _ _ _ hxd (by decide)).1)
            have HS7 := hidIn (hcs _ (hk7 _ _ _ hxd (by decide)).2)
            have HLd := hidIn (hvd.look hwf)
            have HLa := hidIn ((hvd.keep hba).look hwf)
            obtain ⟨gl, hgl⟩ : ∃ gl, (gat (rcs (l.take k)) cl).length = gl := ⟨_, rfl⟩
            rw [hgl] at hrun hput
            have HRun := hidIn hrun
            have HPut := hidIn hput
            have HWd := hidIn hWd
            obtain ⟨va, vc, hvc⟩ := row_shape (hvd.r cl)
            rw [hgl] at hvc
            rw [hvc] at HLd HLa HRun
            clear hrun hput hg7 hb6 hb7 hk7 ht7 hvv hvd hbd hWd hgl HM3 HX3 hvc hba hcs hxd y0
            go_upto_region 10 with fail
            clear y3
            refine wp_region_held_drew (S := fun wx => rdC br (m : Int) cl wx) (by kernel_rfl) (by rw [HWd.out]; exact HSd.out) (fun hHeld => ?_)
            rw [HWd.out] at hHeld ⊢
            refine wpAnyH_take (i := 0) (v := ?_) rfl (by kernel_rfl) (by kernel_rfl) (by kernel_rfl) (fun _ _ _ h => h) (Or.inl ⟨by rfl, ?_⟩) (by assumption) ?_
            rotate_left
            · intro wq hSw
              clear hSw
              go_simp
              try (with_reducible rfl)
            refine wpAnyH_take (i := 1) (v := ?_) rfl (by kernel_rfl) (by kernel_rfl) (by kernel_rfl) (fun _ _ _ h => h) (Or.inl ⟨by rfl, ?_⟩) (by assumption) ?_
            rotate_left
            · intro wq hSw
              clear hSw
              go_simp
              try (with_reducible rfl)
            refine wpAnyH_take (i := 2) (v := ?_) rfl (by kernel_rfl) (by kernel_rfl) (by kernel_rfl) (fun _ _ _ h => h) (Or.inl ⟨by rfl, ?_⟩) (by assumption) ?_
            rotate_left
            · intro wq hSw
              obtain ⟨zz0, zz3⟩ := hSw
              have hSw := zz0
              clear hSw
              go_simp
              try (with_reducible rfl)
            refine wpAnyH_take (i := 3) (v := ?_) rfl (by kernel_rfl) (by kernel_rfl) (by kernel_rfl) (fun _ _ _ h => h) (Or.inl ⟨by rfl, ?_⟩) (by assumption) ?_
            rotate_left
            · intro wq hSw
              clear hSw
              go_simp
              try (with_reducible rfl)
            refine wpAnyH_take (i := 4) (v := ?_) rfl (by kernel_rfl) (by kernel_rfl) (by kernel_rfl) (fun _ _ _ h => h) (Or.inl ⟨by rfl, ?_⟩) (by assumption) ?_
            rotate_left
            · intro wq hSw
              clear hSw
              go_simp
              try (with_reducible rfl)
            refine wpAnyH_take (i := 5) (v := ?_) rfl (by kernel_rfl) (by kernel_rfl) (by kernel_rfl) (fun _ _ _ h => h) (Or.inl ⟨by rfl, ?_⟩) (by assumption) ?_
            rotate_left
            · intro wq hSw
              obtain ⟨zz0, zz3⟩ := hSw
              have hSw := zz0
              clear hSw
              go_simp
              try (with_reducible rfl)
            refine wpAnyH_take (i := 7) (v := ?_) rfl (by kernel_rfl) (by kernel_rfl) (by kernel_rfl) (fun _ _ _ h => h) (Or.inl ⟨by rfl, ?_⟩) (by assumption) ?_
            rotate_left
            · intro wq hSw
              clear hSw
              go_simp
              try (with_reducible rfl)
            refine wpAnyH_take (i := 8) (v := ?_) rfl (by kernel_rfl) (by kernel_rfl) (by kernel_rfl) (fun _ _ _ h => h) (Or.inl ⟨by rfl, ?_⟩) (by assumption) ?_
            rotate_left
            · intro wq hSw
              obtain ⟨zz0, zz3⟩ := hSw
              have hSw := zz0
              clear hSw
              go_simp
              try (with_reducible rfl)
            refine wpAnyH_ready (rs := [6, 9]) (by kernel_rfl) (by simp) ?_
            refine AllReadyH.cons (i := 6) rfl ?_ (AllReadyH.cons (i := 9) rfl ?_ AllReadyH.nil)
            · have hru := HLd.out
              go_simp
              clear hru
              intro K hK
              refine hK.out _ _ HSd.out (fun _ => ?_)
              clear hK K
              refine wpAnyH_ready (rs := [9]) (by kernel_rfl) (by simp) ?_
              refine AllReadyH.cons (i := 9) rfl ?_ AllReadyH.nil
              go_simp
              intro K hK
              refine hK.out _ _ HSa.out (fun _ => ?_)
              clear hK K
              refine wpAnyH_ready (rs := [10]) (by kernel_rfl) (by simp) ?_
              refine AllReadyH.cons (i := 10) rfl (fun K hK => ?_) AllReadyH.nil
              refine step_append rfl (.tmp 39) (.tmp 42) 29 rfl (by kernel_rfl) (by kernel_rfl) HRun.out ?_
              refine hK.out _ _ HS6.out (fun _ => ?_)
              clear hK K
              refine wpAnyH_ready (rs := [11]) (by kernel_rfl) (by simp) ?_
              refine AllReadyH.cons (i := 11) rfl ?_ AllReadyH.nil
              have hru := HPut.out
              go_simp
              clear hru
              intro K hK
              refine hK.out _ _ HS7.out (fun _ => ?_)
              clear hK K
              refine wpAnyH_done (by kernel_rfl) ?_ _
              go_wp2_with fail
              go_roundw
              case rel => exact ⟨k + 1, n + 1, by omega, by go_num, hidIn ⟨by rw [HT.out, HG.out]; exact HR7.out, by omega, by rw [HN.out, HT.out, Hb1.out, Hb2.out]; simp⟩⟩
              case measure => simp [intOf]; omega
            · go_simp
              intro K hK
              refine hK.out _ _ HSa.out (fun _ => ?_)
              clear hK K
              refine wpAnyH_ready (rs := [6]) (by kernel_rfl) (by simp) ?_
              refine AllReadyH.cons (i := 6) rfl ?_ AllReadyH.nil
              have hru := HLa.out
              go_simp
              clear hru
              intro K hK
              refine hK.out _ _ HSa.out (fun _ => ?_)
              clear hK K
              refine wpAnyH_ready (rs := [10]) (by kernel_rfl) (by simp) ?_
              refine AllReadyH.cons (i := 10) rfl (fun K hK => ?_) AllReadyH.nil
              refine step_append rfl (.tmp 39) (.tmp 42) 29 rfl (by kernel_rfl) (by kernel_rfl) HRun.out ?_
              refine hK.out _ _ HS6.out (fun _ => ?_)
              clear hK K
              refine wpAnyH_ready (rs := [11]) (by kernel_rfl) (by simp) ?_
              refine AllReadyH.cons (i := 11) rfl ?_ AllReadyH.nil
              have hru := HPut.out
              go_simp
              clear hru
              intro K hK
              refine hK.out _ _ HS7.out (fun _ => ?_)
              clear hK K
              refine wpAnyH_done (by kernel_rfl) ?_ _
              go_wp2_with fail
              go_roundw
              case rel => exact ⟨k + 1, n + 1, by omega, by go_num, hidIn ⟨by rw [HT.out, HG.out]; exact HR7.out, by omega, by rw [HN.out, HT.out, Hb1.out, Hb2.out]; simp⟩⟩
              case measure => simp [intOf]; omega
        · clear hM2 hbx2
          go_wp2_with fail
          go_ret2
          exact ⟨.inr ⟨by rw [HN.out, Hb1.out, Hb2.out]; rfl, rfl⟩, HB.out⟩
    · have hke : k = l.length := by omega
      obtain ⟨hM, hnk, hrest⟩ := HR.out
      rw [hke, List.take_length] at hM
      rw [hke, List.drop_length] at hrest
      have HOk : Hid (bothOk no1 (rcs l) = true) := hidIn (by rw [hrest]; rfl)
      have hki : ¬ ((k : Int) < (l.length : Int)) := by omega
      obtain ⟨vv, hG⟩ := hM.g
      have hidr : ∀ x, x ∈ idsL (rcs l) ↔ (Lit.int .i64 x).wf = true ∧ ((fun k => if (gat (rcs l) k).isEmpty then none else some (vv k)) x).isSome = true := fun x => by
        rw [mem_idsL]
        constructor
        · rintro ⟨h1, h2⟩
          refine ⟨wf9 (by omega), ?_⟩
          have : (gat (rcs l) x).isEmpty = false := by simpa using h2
          dsimp only
          rw [this]
          rfl
        · rintro ⟨_, h2⟩
          dsimp only at h2
          have h3 : gat (rcs l) x ≠ [] := fun e => by rw [e] at h2; cases h2
          refine ⟨?_, h3⟩
          obtain ⟨y, hy⟩ := List.exists_mem_of_ne_nil _ h3
          obtain ⟨r, hr, h4, h5, _⟩ := mem_gat.1 hy
          have h6 := ((bothOk_all _ _ HOk.out).1 r hr).1
          simp only [recOk, Bool.and_eq_true, decide_eq_true_eq] at h6
          omega
      obtain ⟨ks, hks⟩ : ∃ ks, idsL (rcs l) = ks := ⟨_, rfl⟩
      have HKs := hidIn hks
      have hrise := idsL_rise (rcs l)
      have HBd : Hid (∀ x ∈ ks, 1 ≤ x ∧ x ≤ 1024) := hidIn fun x hx => by rw [← hks] at hx; exact (mem_idsL.1 hx).1
      rw [hks] at hidr hrise
      have HKl : Hid (ks.length ≤ 1024) := hidIn (by rw [← hks]; unfold idsL; exact Nat.le_trans (List.length_filter_le _ _) (by simp [allI]))
      have HSo := hidIn (sortedC_any hG.m (by have := Hlen.out; omega) ks hrise hidr)
      have HKy := hidIn (keysC_any (w.heap.size + 1) wr)
      have HG := hidIn hG
      obtain ⟨W1, hW1⟩ : ∃ W1, wr.alloc (.cells #[.map (some (w.heap.size + 1))] 68) = W1 := ⟨_, rfl⟩
      rw [hW1] at HSo HKy
      clear hM hnk hrest hidr hrise hG HR hks hW1
      go_wp2_with fail
      refine HKy.out.mono ?_
      rintro e w2 ⟨rfl, hw2⟩
      rw [hw2]
      clear hw2 w2 HKy
      go_wp2_with fail
      refine HSo.out.mono ?_
      rintro e w3 ⟨⟨ka, kc, rfl, hrow⟩, hb3⟩
      have HG3 := hidIn (HG.out.keep hb3)
      have HK3 := hidIn (row_low hrow HG.out.b.size)
      clear hrow hb3 HSo HG
      obtain ⟨kl, hkl⟩ : ∃ kl, ks.length = kl := ⟨_, rfl⟩
      rw [hkl] at HK3 HKl ⊢
      have Hkl := hidIn hkl
      clear hkl
      go_wp2_with fail
      go_loopw [8, 49] (fun u i wz => ∃ (j : Nat) (L : List (Int × List Int × Value)), j ≤ kl ∧ i = .int .i64 j ∧ (∃ a c, u = .slice a j c) ∧ Hid (GaM w wz (w.heap.size + 1) n (gat (rcs l)) vv ∧ wz.ownsRow w.heap.size 3 1 (.slice ka kl kc) kl (fl ic ks) ∧ wz.ownsRow w.heap.size 31 2 u j (fl clc L) ∧ L.length = j ∧ cls L = (ks.take j).map (fun id => (id, rsL (gat (rcs l) id))) ∧ ∀ x ∈ L, wz.ownsRow w.heap.size 3 1 x.2.2 x.2.1.length (fl ic x.2.1))) (fun _ i _ => kl - (intOf i).toNat)
      case atStart => exact ⟨0, [], Nat.zero_le _, rfl, ⟨none, 0, rfl⟩, hidIn ⟨HG3.out, HK3.out, World.ownsRow_nil _ _ _ _, rfl, rfl, fun _ h => absurd h List.not_mem_nil⟩⟩
      case round =>
        clear HG3 HK3
        obtain ⟨j, L, hj, rfl, ⟨ua, uc, rfl⟩, HR⟩ := hrel
        obtain ⟨hG, hK, hu, hLl', hLc, hLr⟩ := HR.out
        have hLl := hidIn hLl'
        clear HR hLl'
        by_cases hlt : j < kl
        · obtain ⟨id, hid⟩ : ∃ id, ks[j]? = some id := ⟨ks[j]'(by have := Hkl.out; omega), List.getElem?_eq_getElem _⟩
          obtain ⟨ka', kc', hke', _, _, hkc⟩ := (slAt_of_row (cs := ic) (fun _ => rfl) hK Hkl.out).ints
          simp only [Value.slice.injEq] at hke'
          obtain ⟨rfl, hz9, rfl⟩ := hke'
          clear hz9
          obtain ⟨bk, o, rfl, hbk, hcell⟩ := hkc (by have := Hkl.out; omega)
          have q0 := hcell j id hid
          have hidb := HBd.out id (List.mem_of_getElem? hid)
          have hwf : (Lit.int .i64 id).wf = true := wf9 (by omega)
          have hlk := hG.look hwf
          have hgl : (gat (rcs l) id).length ≤ 10000 := Nat.le_trans (gat_len _ _) (by rw [rcs, List.length_map]; exact Hlen.out)
          have HRi := hidIn (rising_any (slAt_of_row (cs := ic) (fun _ => rfl) (hG.r id) rfl) (row_nilOk (hG.r id)) (by omega))
          have HG := hidIn hG
          have HK := hidIn hK
          have Hu := hidIn hu
          have HLr := hidIn hLr
          have HLc : Hid (cls L ++ [(id, rsL (gat (rcs l) id))] = (ks.take (j + 1)).map (fun id => (id, rsL (gat (rcs l) id)))) := hidIn (by rw [take_snoc hid, List.map_append, ← hLc]; rfl)
          obtain ⟨rn, hrn⟩ : ∃ rn, (rsL (gat (rcs l) id)).length = rn := ⟨_, rfl⟩
          have Hrn := hidIn hrn
          rw [hrn] at HRi
          obtain ⟨va, vc, hvv⟩ := row_shape (hG.r id)
          rw [hvv] at hlk HRi
          have hji : (j : Int) < (kl : Int) := by omega
          have hkb := HKl.out
          clear hG hK hu hLr hLc hrn hvv hcell hkc hid hgl
          go_wp2_with fail
          refine HRi.out.mono ?_
          rintro e w4 ⟨⟨ra, rc, rfl, hrr⟩, hb4⟩
          have hG4 := HG.out.keep hb4
          have hK4 := row_below HK.out hb4 (Nat.le_refl _)
          have hu4 := row_below Hu.out hb4 (Nat.le_refl _)
          have hr4 := row_low hrr HG.out.b.size
          obtain ⟨g5, cap5, w5, hrun, hown, hb5, hF5⟩ := append_clm hu4 (id, rsL (gat (rcs l) id), .slice ra rn rc) rfl (by have := HKl.out; omega) hG4.b.size
          have hT : ∀ i, (Value.slice ua j uc).ownBlock = some i → i < w4.heap.size → ∃ (cur : Array Value) (t : TypeId), w4.heap[i]? = some (Obj.cells cur t) ∧ t ≠ 3 := fun i hi _ => by
            obtain ⟨cur, h1⟩ := crowTy hu4 hi
            exact ⟨cur, _, h1, by decide⟩
          have hnI : ∀ {base k : Nat} {x : Value} {xs : List Value}, w4.ownsRow base 3 1 x k xs → w5.ownsRow base 3 1 x k xs := fun {base k x xs} hx => row_fr hx hF5 (fun i hi e => by
            obtain ⟨cur, h1⟩ := crowTy hx hi
            obtain ⟨cur', t, h2, h3⟩ := hT i e (block_lt h1)
            rw [h1] at h2
            simp only [Option.some.injEq, Obj.cells.injEq] at h2
            exact h3 h2.2.1.symm)
          have HO : Hid (GaM w w5 (w.heap.size + 1) n (gat (rcs l)) vv ∧ w5.ownsRow w.heap.size 3 1 (.slice (some ⟨bk, o, none⟩) kl kc) kl (fl ic ks) ∧ w5.ownsRow w.heap.size 31 2 (.slice (some ⟨g5, 0, none⟩) (j + 1) cap5) (j + 1) (fl clc (L ++ [(id, rsL (gat (rcs l) id), .slice ra rn rc)])) ∧ (L ++ [(id, rsL (gat (rcs l) id), Value.slice ra rn rc)]).length = j + 1 ∧ cls (L ++ [(id, rsL (gat (rcs l) id), Value.slice ra rn rc)]) = (ks.take (j + 1)).map (fun id => (id, rsL (gat (rcs l) id))) ∧ ∀ x ∈ L ++ [(id, rsL (gat (rcs l) id), Value.slice ra rn rc)], w5.ownsRow w.heap.size 3 1 x.2.2 x.2.1.length (fl ic x.2.1)) := hidIn (by
            refine ⟨hG4.fr hF5 hT (hG4.b.trans hb5), hnI hK4, hown, by rw [List.length_append, hLl.out]; rfl, by rw [← HLc.out, cls, List.map_append]; rfl, fun x hx => ?_⟩
            rcases List.mem_append.1 hx with hx | hx
            · exact hnI (row_below (HLr.out x hx) hb4 (Nat.le_refl _))
            · rw [List.mem_singleton.1 hx]
              refine hnI ?_
              show w4.ownsRow _ _ 1 (.slice ra rn rc) (rsL (gat (rcs l) id)).length _
              rw [Hrn.out]
              exact hr4)
          have HRun := hidIn hrun
          clear hG4 hK4 hu4 hr4 hrun hown hb5 hF5 hT hnI hrr hb4 hlk q0 HRi HG HK Hu HLr HLc
          go_wp2_with (refine l_append rfl _ _ 22 rfl HRun.out ?_)
          go_roundw
          case rel => exact ⟨j + 1, _, by omega, by go_num, ⟨_, _, rfl⟩, HO⟩
          case measure => simp [intOf]; omega
        · have hje : j = kl := by omega
          have hji : ¬ ((j : Int) < (kl : Int)) := by omega
          have HE : Hid (ClsAns w wr (allC (rcs l)) (.slice ua j uc) ∧ Below w.heap.size w wr) := hidIn ⟨⟨L, by rw [hLl.out]; exact hu, by rw [hLc, hje, ← Hkl.out, List.take_length, ← HKs.out]; rfl, hLr⟩, hG.b⟩
          clear hG hK hu hLl hLc hLr hje
          go_wp2_with fail
          go_ret2
          exact ⟨.inl ⟨HOk.out, _, rfl, HE.out.1⟩, HE.out.2⟩
end Go.Proofs.YtgpinecfmhenkaaDoor
