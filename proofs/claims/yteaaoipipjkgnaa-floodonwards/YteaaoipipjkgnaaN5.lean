/- A record put into a store. -/
import Derived.Test.YteaaoipipjkgnaaN4
import Derived.Test.YteaaoipipjkgnaaXO
namespace Go.Proofs.Yteaaoipipjkgnaa
open Go.RowKit Go.Maps

/-- How a record stands to what is there. -/
def stdN (f : Sf) (r : Rc) : Int := newI r.epoch r.seq (rOf (f r.origin)).epoch (rOf (f r.origin)).seq
def putN (f : Sf) (r : Rc) : Int := if recOk r = true then stdN f r else 0
/-- What Put leaves. -/
def PutAns (w w' : World) (S M n : Nat) (f : Sf) (r : Rc) (e : Ending) : Prop :=
  e = .returned (.tuple #[.int .i64 (putN f r), .int .i64 (ckN r)]) ∧ Fr (fun k => k = M) w w' ∧
    ((recOk r = true ∧ stdN f r = 1 ∧ ∃ a c, StAt w' S M (n + 1) (putO f r.origin (r, .slice a r.adjs.length c)) ∧ Fresh w w' a) ∨ (¬ (recOk r = true ∧ stdN f r = 1) ∧ StAt w' S M (n + 1) f))
theorem SlAt.keepM {α : Type} {cs : α → List Value} {sz : Nat} {w w' : World} {v : Value} {l : List α} {M : Nat} (h : SlAt cs sz w v l) (hF : Fr (fun k => k = M) w w') (hM : ∃ es cl, w.heap[M]? = some (.map es cl)) (hz : 0 < sz) (hcs : ∀ x, (cs x).length = sz) : SlAt cs sz w' v l := by
  obtain ⟨a, cap, rfl, h1, h2, h3⟩ := h
  refine ⟨a, cap, rfl, h1, h2, fun hp => ?_⟩
  obtain ⟨bk, o, rfl, h4, h5⟩ := h3 hp
  have hne : ¬ bk = M := fun e => by
    obtain ⟨es, cl, hm⟩ := hM
    obtain ⟨x, hx⟩ : ∃ x, l[0]? = some x := ⟨l[0], List.getElem?_eq_getElem hp⟩
    obtain ⟨u, hu⟩ : ∃ u, (cs x)[0]? = some u := ⟨(cs x)[0]'(by rw [hcs]; exact hz), List.getElem?_eq_getElem _⟩
    have := h5 0 x hx 0 u hu
    subst e
    simp [World.cell?, hm] at this
  exact ⟨bk, o, rfl, Nat.lt_of_lt_of_le h4 hF.size, fun j x hx i u hu => (World.cell?_of_block (a := ⟨bk, o + j * sz + i, none⟩) (hF.block bk h4 hne)).trans (h5 j x hx i u hu)⟩
theorem MpAt.isMap {w : World} {B n : Nat} {f : Int → Option Value} (h : MpAt w B n f) : ∃ es cl, w.heap[B]? = some (.map es cl) := by
  obtain ⟨D, ⟨es, cl, hb, _⟩, _⟩ := h
  exact ⟨es, cl, hb⟩
theorem step_putR {P : Program} {ops : Array Oper} {o : Oper} {a : Act} {w w' : World} {K : Act → World → Prop} {Q : Exit → Act → World → Prop} {E : Prop}
    (hg : o.guard = none) (m x v : Operand) (t : TypeId) (hop : o.op = Op.mapUpdate t m x v) {vm vx vv : Value} (hm : a.eval m = vm) (hx : a.eval x = vx) (hv : a.eval v = vv)
    (hrun : (Instr.mapUpdate t vm vx vv).run P w = .ok () w') (hK : K (a.put o.dst undef) w') :
    if Region.wanted o (yielded ops a.tmps) = true then Oper.wp P o a w K Q else E := by
  have hw : Region.wanted o (yielded ops a.tmps) = true := by simp [Region.wanted, hg]
  rw [if_pos hw]
  unfold Oper.wp
  simp [execOp, hop, hm, hx, hv, hrun, Result.andThen]
  exact hK
set_option maxRecDepth 100000 in
set_option maxHeartbeats 4000000 in
theorem sput_any {S M n : Nat} {f : Sf} {r : Rc} {va : Value} {w : World} (h : StAt w S M n f) (hn : n < 1000000) (hv : SlAt ac 2 w va r.adjs) (hp : 0 ≤ r.epoch ∧ 0 ≤ r.seq) :
    Calls Try.prog 48 #[ptr S, recV r va] w fun e w' => PutAns w w' S M n f r e := by
  have HS := hidIn h
  have HV := hidIn hv
  have HT : Hid (∀ wq, Below w.heap.size w wq → Calls Try.prog 76 #[ptr S] wq fun e w' => e = .returned (.bool true) ∧ w' = wq) := hidIn fun wq hq => there_any (h.keep hq)
  have HC : Hid (∀ wq, Below w.heap.size w wq → Calls Try.prog 22 #[recV r va] wq fun e w' => e = .returned (.int .i64 (ckN r)) ∧ Below wq.heap.size wq w') := hidIn fun wq hq => rcheck_any (hv.keep hq (Nat.le_refl _))
  obtain ⟨aa, cap, rfl, hq⟩ := hv
  clear h hq
  obtain ⟨ck, hck⟩ : ∃ ck, ckN r = ck := ⟨_, rfl⟩
  have HE : Hid (∀ w' e, PutAns w w' S M n f r e ↔ (e = .returned (.tuple #[.int .i64 (putN f r), .int .i64 ck]) ∧ Fr (fun k => k = M) w w' ∧
    ((recOk r = true ∧ stdN f r = 1 ∧ ∃ a c, StAt w' S M (n + 1) (putO f r.origin (r, .slice a r.adjs.length c)) ∧ Fresh w w' a) ∨ (¬ (recOk r = true ∧ stdN f r = 1) ∧ StAt w' S M (n + 1) f)))) := hidIn fun w' e => by unfold PutAns; rw [hck]
  have Hck := hidIn hck
  rw [hck] at HC
  clear hck
  obtain ⟨nl, hnl⟩ : ∃ nl, r.adjs.length = nl := ⟨_, rfl⟩
  rw [hnl] at HV HC HE ⊢
  have Hnl := hidIn hnl
  clear hnl
  have Hp := hidIn hp
  clear hp
  obtain ⟨W1, hW1⟩ : ∃ W1, w.alloc (.cells #[.int .i64 r.origin, .int .u32 r.epoch, .int .u32 r.seq, .int .i64 r.claim, .bool r.ing, .slice aa nl cap] 38) = W1 := ⟨_, rfl⟩
  have b1 : Below w.heap.size w W1 := by rw [← hW1]; exact (Below.refl _ w).alloc (Nat.le_refl _) _
  have hX : W1.heap[w.heap.size]? = some (.cells #[.int .i64 r.origin, .int .u32 r.epoch, .int .u32 r.seq, .int .i64 r.claim, .bool r.ing, .slice aa nl cap] 38) := by rw [← hW1]; exact heap_alloc_last w _
  have HW := hidIn hW1
  have Hb1 := hidIn b1
  have HX := hidIn hX
  clear hW1 b1 hX
  obtain ⟨bx, hbx⟩ : ∃ bx, w.heap.size = bx := ⟨_, rfl⟩
  have Hbx := hidIn hbx
  rw [hbx] at HX
  go_enter Try.func48, Try.ntmps48
  go_upto_region 1 with fail
  rw [HW.out]
  clear HW hbx
  go_wp2_with fail
  refine (HT.out _ Hb1.out).mono ?_
  rintro e w2 ⟨rfl, rfl⟩
  clear HT
  have x0 := cell_of_row _ _ 0 _ _ _ HX.out
  have x1 := cell_of_row _ _ 1 _ _ _ HX.out
  have x2 := cell_of_row _ _ 2 _ _ _ HX.out
  have x3 := cell_of_row _ _ 3 _ _ _ HX.out
  have x4 := cell_of_row _ _ 4 _ _ _ HX.out
  have x5 := cell_of_row _ _ 5 _ _ _ HX.out
  simp at x0 x1 x2 x3 x4 x5
  go_wp2_with fail
  refine (HC.out _ Hb1.out).mono ?_
  rintro e w2 ⟨rfl, hb2⟩
  have HX2 := hidIn ((hb2.block _ (block_lt HX.out)).trans HX.out)
  have Hb2 := hidIn (Hb1.out.trans (hb2.mono Hb1.out.size))
  clear HC hb2 x0 x1 x2 x3 x4 x5 HX Hb1
  by_cases hok : recOk r = true
  · have Hok := hidIn hok
    have hck0 : ck = 0 := by rw [← Hck.out]; unfold ckN; rw [if_pos hok]
    subst hck0
    clear hok
    have x0 := cell_of_row _ _ 0 _ _ _ HX2.out
    have x1 := cell_of_row _ _ 1 _ _ _ HX2.out
    have x2 := cell_of_row _ _ 2 _ _ _ HX2.out
    have x3 := cell_of_row _ _ 3 _ _ _ HX2.out
    have x4 := cell_of_row _ _ 4 _ _ _ HX2.out
    have x5 := cell_of_row _ _ 5 _ _ _ HX2.out
    simp at x0 x1 x2 x3 x4 x5
    have k0 := cell_regrown x0
    have k1 := cell_regrown x1
    have k2 := cell_regrown x2
    have k3 := cell_regrown x3
    have k4 := cell_regrown x4
    have k5 := cell_regrown x5
    have hwf : (Lit.int .i64 r.origin).wf = true := wf9 (by have := (recOk_parts Hok.out).1; omega)
    have HSt : Hid (∀ wq, Below w2.heap.size w2 wq → Calls Try.prog 78 #[ptr S, .int .i64 r.origin] wq fun e w' => e = .returned (stV (rOf (f r.origin)).origin (rOf (f r.origin)).epoch (rOf (f r.origin)).seq) ∧ Below wq.heap.size wq w') := hidIn fun wq hq => sstamp_any (HS.out.keep (Hb2.out.trans (hq.mono Hb2.out.size))) hwf
    clear hwf
    go_upto_region 6 with fail
    refine wp_region_quiet_below (by kernel_rfl) (by kernel_rfl) ?_
    repeat (go_big_quiet_step (first
      | (go_at_call 23; exact Calls.regrown_of (stamp_any r aa nl cap _))
      | (go_at_call 78; exact Calls.regrown_of (HSt.out _ (below_regrown _ _ _)))
      | (go_at_call 24; exact Calls.regrown_of (newer_any _ _ _ _ _ _ _))))
    refine wpQuiet_nil ?_
    rintro _ ⟨⟨dq, osq⟩, rfl⟩
    have hbr := below_regrown w2 dq osq
    generalize Go.Sort.grow (redrawn w2 dq) osq = W4 at hbr ⊢
    have Hb4 := hidIn (Hb2.out.trans (hbr.mono Hb2.out.size))
    have HX4 := hidIn ((hbr.block _ (block_lt HX2.out)).trans HX2.out)
    clear hbr Hb2 HX2 x0 x1 x2 x3 x4 x5 k0 k1 k2 k3 k4 k5 HSt
    obtain ⟨sn, hsn⟩ : ∃ sn, newI r.epoch r.seq (rOf (f r.origin)).epoch (rOf (f r.origin)).seq = sn := ⟨_, rfl⟩
    rw [hsn]
    have Hsn : Hid (stdN f r = sn) := hidIn hsn
    have HPn : Hid (putN f r = sn) := hidIn (by unfold putN; rw [if_pos Hok.out]; exact hsn)
    clear hsn
    have HS4 := hidIn (HS.out.keep Hb4.out)
    by_cases h1 : sn = 1
    · subst h1
      have HneM : Hid (M < bx) := hidIn (by have := HS.out.lts.2; have := Hbx.out; omega)
      have HSM : Hid (¬ S = M) := hidIn fun e => by
        have h1 := HS.out.p
        obtain ⟨D, ⟨es, clock, hb, _⟩, _⟩ := HS.out.m
        rw [e, hb] at h1
        cases h1
      have HU : Hid (SlAt ac 2 W4 (.slice aa nl cap) r.adjs) := hidIn (HV.out.keep Hb4.out (Nat.le_refl _))
      have HCp : Hid (Calls Try.prog 77 #[recV r (.slice aa nl cap)] W4.drew fun e w' => CpAns W4 w' r e ∧ Below W4.heap.size W4 w') := hidIn ((copied_any (w := W4.drew) HU.out (by have := (recOk_parts Hok.out).2.1; omega)).mono fun e w' h => ⟨h.1, ⟨h.2.os, h.2.tape, h.2.output, h.2.size, h.2.block⟩⟩)
      go_upto_region 8 with fail
      refine wp_region_held_drew (S := fun wx => Fr (fun k => k = M) W4 wx) (by kernel_rfl) ((Fr.refl _ W4).drew) (fun hHeld => ?_)
      refine wpAnyH_take (i := 0) (v := ?_) rfl (by kernel_rfl) (by kernel_rfl) (by kernel_rfl) (fun _ _ _ h => h) (Or.inl ⟨by rfl, ?_⟩) (by assumption) ?_
      rotate_left
      · intro wq hSw
        clear hSw
        go_simp
        try (with_reducible rfl)
      refine wpAnyH_take (i := 1) (v := ?_) rfl (by kernel_rfl) (by kernel_rfl) (by kernel_rfl) (fun _ _ _ h => h) (Or.inl ⟨by rfl, ?_⟩) (by assumption) ?_
      rotate_left
      · intro wq hSw
        clear hSw
        go_simp
        try (with_reducible rfl)
      refine wpAnyH_take (i := 2) (v := ?_) rfl (by kernel_rfl) (by kernel_rfl) (by kernel_rfl) (fun _ _ _ h => h) (Or.inl ⟨by rfl, ?_⟩) (by assumption) ?_
      rotate_left
      · intro wq hSw
        clear hSw
        go_simp
        try (with_reducible rfl)
      refine wpAnyH_take (i := 3) (v := ?_) rfl (by kernel_rfl) (by kernel_rfl) (by kernel_rfl) (fun _ _ _ h => h) (Or.inl ⟨by rfl, ?_⟩) (by assumption) ?_
      rotate_left
      · intro wq hSw
        have hq := (hSw.block S (block_lt HS4.out.p) HSM.out).trans HS4.out.p
        have z0 := cell_of_row _ _ 0 _ _ _ hq
        simp at z0
        clear hq
        clear hSw
        go_simp
        try (with_reducible rfl)
      refine wpAnyH_take (i := 4) (v := ?_) rfl (by kernel_rfl) (by kernel_rfl) (by kernel_rfl) (fun _ _ _ h => h) (Or.inl ⟨by rfl, ?_⟩) (by assumption) ?_
      rotate_left
      · intro wq hSw
        clear hSw
        go_simp
        try (with_reducible rfl)
      refine wpAnyH_take (i := 5) (v := ?_) rfl (by kernel_rfl) (by kernel_rfl) (by kernel_rfl) (fun _ _ _ h => h) (Or.inl ⟨by rfl, ?_⟩) (by assumption) ?_
      rotate_left
      · intro wq hSw
        have hq := (hSw.block bx (block_lt HX4.out) (by have := HneM.out; omega)).trans HX4.out
        have z0 := cell_of_row _ _ 0 _ _ _ hq
        have z1 := cell_of_row _ _ 1 _ _ _ hq
        have z2 := cell_of_row _ _ 2 _ _ _ hq
        have z3 := cell_of_row _ _ 3 _ _ _ hq
        have z4 := cell_of_row _ _ 4 _ _ _ hq
        have z5 := cell_of_row _ _ 5 _ _ _ hq
        simp at z0 z1 z2 z3 z4 z5
        clear hq
        clear hSw
        go_simp
        try (with_reducible rfl)
      refine wpAnyH_take (i := 6) (v := ?_) rfl (by kernel_rfl) (by kernel_rfl) (by kernel_rfl) (fun _ _ _ h => h) (Or.inl ⟨by rfl, ?_⟩) (by assumption) ?_
      rotate_left
      · intro wq hSw
        have hq := (hSw.block bx (block_lt HX4.out) (by have := HneM.out; omega)).trans HX4.out
        have z0 := cell_of_row _ _ 0 _ _ _ hq
        have z1 := cell_of_row _ _ 1 _ _ _ hq
        have z2 := cell_of_row _ _ 2 _ _ _ hq
        have z3 := cell_of_row _ _ 3 _ _ _ hq
        have z4 := cell_of_row _ _ 4 _ _ _ hq
        have z5 := cell_of_row _ _ 5 _ _ _ hq
        simp at z0 z1 z2 z3 z4 z5
        clear hq
        clear hSw
        go_simp
        try (with_reducible rfl)
      refine wpAnyH_ready (rs := [7]) (by kernel_rfl) (by simp) ?_
      refine AllReadyH.cons rfl (fun K hK => ?_) AllReadyH.nil
      go_simp
      refine HCp.out.mono ?_
      rintro e w5 ⟨⟨a, c, rfl, hs5, hn5, hf5⟩, hb5⟩
      rw [Hnl.out] at hs5 hn5
      obtain ⟨w6, hrun, hm6, hF6⟩ := (HS4.out.keep hb5).m.put hn (x := r.origin) (wf9 (by have := (recOk_parts Hok.out).1; omega)) (recV r (.slice a nl c))
      have hF5 : Fr (fun k => k = M) W4 w5 := Fr.of_below hb5
      have HF := hidIn (Fr.trans (Fr.of_below Hb4.out) (hF5.trans hF6))
      have hM5 : M < W4.heap.size := HS4.out.lts.2
      have hold : ∀ g, W4.heap.size ≤ g → ¬ g = M := fun g h1 h2 => by omega
      have HO : Hid (StAt w6 S M (n + 1) (putO f r.origin (r, .slice a nl c))) := hidIn (by
        have hS5 := HS4.out.keep hb5
        refine ⟨(hF6.block S (block_lt hS5.p) HSM.out).trans hS5.p, ?_, fun k r' u' hk => ?_⟩
        · have he : putO (sV f) r.origin (recV r (.slice a nl c)) = sV (putO f r.origin (r, .slice a nl c)) := by
            funext j
            unfold sV putO
            by_cases hj : j = r.origin
            · rw [if_pos hj, if_pos hj]; rfl
            · rw [if_neg hj, if_neg hj]
          rw [← he]
          exact hm6
        · by_cases hj : k = r.origin
          · rw [hj, putO_same] at hk
            simp only [Option.some.injEq, Prod.mk.injEq] at hk
            obtain ⟨rfl, rfl⟩ := hk
            refine ⟨Hok.out, hj.symm, hs5.fr hF6 (fun p hp => ?_), hn5, Hp.out⟩
            obtain ⟨g, rfl, h2, _⟩ := hf5 p hp
            exact hold g h2
          · rw [putO_other f _ hj] at hk
            obtain ⟨h1, h2, h3, h4⟩ := HS4.out.v k r' u' hk
            exact ⟨h1, h2, h3.keepM (hF5.trans hF6) HS4.out.m.isMap (by omega) (fun _ => rfl), h4⟩)
      have HFr : Hid (Fresh w w6 a) := hidIn fun p hp => by
        obtain ⟨g, rfl, h2, cur, h3⟩ := hf5 p hp
        exact ⟨g, rfl, Nat.le_trans Hb4.out.size h2, cur, (hF6.block g (block_lt h3) (hold g h2)).trans h3⟩
      have hS6 := hF5.trans hF6
      simp only [Hnl.out]
      refine hK.out _ _ hF5 (fun _ => ?_)
      clear hK K
      refine wpAnyH_ready (rs := [8]) (by kernel_rfl) (by simp) ?_
      refine AllReadyH.cons rfl (fun K hK => ?_) AllReadyH.nil
      refine step_putR rfl (.tmp 28) (.tmp 30) (.tmp 32) 123 rfl (by kernel_rfl) (by kernel_rfl) (by kernel_rfl) hrun ?_
      refine hK.out _ _ hS6 (fun _ => ?_)
      clear hK K hrun hm6 hF6 hF5 hS6 hs5 hn5 hf5 hb5 hHeld HCp HS4 HX4 Hb4 hold
      refine wpAnyH_done (by kernel_rfl) ?_ _
      go_wp2_with fail
      go_returns
      exact (HE.out _ _).2 ⟨by rw [HPn.out]; rfl, HF.out, .inl ⟨Hok.out, Hsn.out, a, c, HO.out, HFr.out⟩⟩
    · have h1' : (sn == 1) = false := by simpa using h1
      have Hne := hidIn h1
      clear h1
      go_wp2_with fail
      go_returns
      exact (HE.out _ _).2 ⟨by rw [HPn.out]; rfl, Fr.of_below Hb4.out, .inr ⟨fun h => Hne.out (by rw [← Hsn.out]; exact h.2), HS4.out.mono (Nat.le_succ _)⟩⟩
  · have hck2 : ck = 2 := by rw [← Hck.out]; unfold ckN; rw [if_neg hok]
    subst hck2
    have Hno := hidIn hok
    clear hok
    go_wp2_with fail
    go_returns
    exact (HE.out _ _).2 ⟨by unfold putN; rw [if_neg Hno.out]; rfl, Fr.of_below Hb2.out, .inr ⟨fun h => Hno.out h.1, (HS.out.keep Hb2.out).mono (Nat.le_succ _)⟩⟩
end Go.Proofs.Yteaaoipipjkgnaa
