/- A calendar of dandelion/api.Arrive: remove. -/
import Derived.Test.YtkhfpcnmnnboeaaC5A
namespace Go.Proofs.Ytkhfpcnmnnboeaa.Ca.A
open Go.RowKit Go.Maps

theorem HpC.cut {w V : World} {cp mb g m cap : Nat} {fs : List Th} {p : Int} (h : HpC w cp (.slice (some ⟨g, 0, none⟩) (m + 1) cap) mb fs p)
    (hV : V.heap = ((w.setCell ⟨g, m, none⟩ nilP).setCell ⟨cp, 1, none⟩ (.slice (some ⟨g, 0, none⟩) m cap)).heap) : HpC V cp (.slice (some ⟨g, 0, none⟩) m cap) mb (fs.take m) p := by
  have hn := h.rowN
  have hcg : cp ≠ g := h.cp_ne (.inl rfl)
  have hV2 : ∀ k, k ≠ g → k ≠ cp → V.heap[k]? = w.heap[k]? := fun k h1 h2 => by
    rw [hV, Below.heap_setCell _ _ _ _ h2, Below.heap_setCell _ _ _ _ h1]
  refine ⟨?_, ?_, fun i e he => ?_⟩
  · rw [hV]
    exact heap_setCell_same _ cp 1 _ _ _ ((Below.heap_setCell _ _ _ _ hcg).trans h.blk)
  · have hr := h.row
    rw [← hn] at hr
    have r1 := row_set hr m nilP
    have hl : (fs.take m).length = m := by rw [List.length_take]; omega
    rw [hl]
    refine ⟨?_, ?_⟩
    · rw [fl_pc, List.length_map, hl]; omega
    · rcases r1.2 with ⟨h3, _⟩ | ⟨g', cap', cur, h3, h4, h5, h6, h7, h8, h9⟩
      · simp at h3
      · simp at h3
        obtain ⟨rfl, rfl⟩ := h3
        refine .inr ⟨g, cap, cur, rfl, h4, ?_, by omega, h7, h8, ?_⟩
        · rw [hV, Below.heap_setCell _ _ _ _ hcg.symm]; exact h5
        · have e1 : cur.toList.take (m * 1) = (cur.toList.take ((m + 1) * 1)).take (m * 1) := by rw [List.take_take]; congr 1; omega
          rw [e1, h9, fl_pc, fl_pc, List.map_take, Nat.mul_one, List.take_set, List.set_eq_of_length_le (by rw [List.length_take]; omega)]
  · have hi := (List.getElem?_eq_some_iff.1 he).1
    rw [List.length_take] at hi
    rw [List.getElem?_take_of_lt (by omega)] at he
    rw [hV2 _ (h.ne_row he) (fun e' => h.cp_ne (.inr ⟨e, List.mem_of_getElem? he, rfl⟩) e'.symm)]
    exact h.ent i e he
set_option maxRecDepth 100000 in
set_option maxHeartbeats 2000000 in
theorem remove_ok {w : World} {cp mb n i : Nat} {v : Value} {es : List Th} {p : Int} {f : Int → Option Value} {a : Th} (h : HpC w cp v mb es p) (hm : MpE w mb n f) (hl : es.length ≤ 100000) (ha : es[i]? = some a) (ht : (Lit.int .i64 a.2).wf = true) :
    Calls Try.prog 51 #[ptr cp, ptr a.1.1] w fun e w' => (∃ r, e = .returned r) ∧ ∃ v', HpC w' cp v' mb (remL less es i) p ∧ MpE w' mb n (delO f a.2) ∧ Fr (fun k => k = cp ∨ k = mb ∨ ownH v es k) w w' ∧ v'.ownBlock = v.ownBlock := by
  have hi := (List.getElem?_eq_some_iff.1 ha).1
  obtain ⟨m, hmm⟩ : ∃ m, es.length = m + 1 := ⟨es.length - 1, by omega⟩
  obtain ⟨z, hz⟩ : ∃ z, es[m]? = some z := ⟨es[m], List.getElem?_eq_getElem (by omega)⟩
  have hrem : remL less es i = if i < m then sinkF less m (riseF less i ((es.set i z).take m) i) i else (es.set i z).take m := by
    unfold remL
    rw [hmm, Nat.add_sub_cancel, hz]
  obtain ⟨ad, cap, rfl, hcap, hg⟩ := h.slice
  obtain ⟨g, rfl, hgl, _⟩ := hg (by omega)
  rw [hmm] at h hcap ⊢
  obtain ⟨es', cl', hmap⟩ := hm.isMap
  have hmc : mb ≠ cp := fun e => by rw [e, h.blk] at hmap; cases hmap
  have hA := h.ent i a ha
  have hAm : a.1.1 ≠ mb := fun e => by rw [e, hmap] at hA; cases hA
  have hno : ∀ k, ownH (.slice (some ⟨g, 0, none⟩) (m + 1) cap) es k → k ≠ mb := fun k hk e => by
    obtain ⟨cur, t, h1, _⟩ := h.own_ty hk
    rw [e, hmap] at h1
    cases h1
  obtain ⟨W0, hrun0, hM0, hF0⟩ := (show MpE w.drew mb n f from hm).drop (T := 112) Try.underlying112 ht 0
  have hF0' : Fr (fun k => k = mb) w W0 := ⟨hF0.os, hF0.tape, hF0.output, hF0.size, hF0.block⟩
  have h0 := h.keep hF0' (fun e => hmc e.symm) hno
  have HCl : Hid (∀ wq, Fr (fun k => k = mb) w wq → wq.cell? ⟨cp, 2, none⟩ = some (.map (some mb)) ∧ wq.cell? ⟨a.1.1, 4, none⟩ = some (.int .i64 a.2)) := hidIn fun wq hF => by
    have j0 := (hF.block cp h.lt (fun e => hmc e.symm)).trans h.blk
    have j1 := (hF.block _ (block_lt hA) hAm).trans hA
    exact ⟨cell_of_row _ _ 2 _ _ _ j0, cell_of_row _ _ 4 _ _ _ j1⟩
  have HR0 := hidIn hrun0
  have HF0 := hidIn hF0
  have HF0' := hidIn hF0'
  have HM0 := hidIn hM0
  have HH0 := hidIn h0
  have Ha := hidIn ha
  have Hz := hidIn hz
  have Hm := hidIn hmm
  have Hno := hidIn hno
  have Hmc := hidIn hmc
  have HRem := hidIn hrem
  obtain ⟨A, hAA⟩ : ∃ A, a.1.1 = A := ⟨_, rfl⟩
  obtain ⟨t0, ht0⟩ : ∃ t0, a.2 = t0 := ⟨_, rfl⟩
  have HAA := hidIn hAA
  rw [hAA, ht0] at HCl
  rw [ht0] at HR0 HM0
  rw [hAA, ht0]
  have hl9 : m + 1 ≤ 100000 := by omega
  have hi9 : i ≤ m := by omega
  clear hrun0 hM0 hF0 hF0' h0 ha hz hmm hno hmc hrem hA hAm hmap hm h hAA ht0 hl hi hg
  go_enter Try.func51, Try.ntmps51
  go_upto_region 0 with fail
  refine wp_region_held_drew (S := fun wx => Fr (fun k => k = mb) w wx) (by kernel_rfl) ((Fr.refl _ w).drew) (fun hHeld => ?_)
  have hd0 : Fr (fun k => k = mb) w w.drew := hHeld
  clear hHeld
  refine wpAnyH_take (i := 0) (v := ptr cp) rfl (by kernel_rfl) (by kernel_rfl) (by kernel_rfl) (fun _ _ _ h => h) (Or.inl ⟨by kernel_rfl, fun _ _ => by kernel_rfl⟩) (by assumption) ?_
  refine wpAnyH_take (i := 1) (v := ptr cp) rfl (by kernel_rfl) (by kernel_rfl) (by kernel_rfl) (fun _ _ _ h => h) (Or.inl ⟨by kernel_rfl, fun _ _ => by kernel_rfl⟩) (by assumption) ?_
  refine wpAnyH_take (i := 2) (v := .pointer (some ⟨cp, 2, none⟩)) rfl (by kernel_rfl) (by kernel_rfl) (by kernel_rfl) (fun _ _ _ h => h) (Or.inl ⟨by kernel_rfl, fun _ _ => by kernel_rfl⟩) (by assumption) ?_
  refine wpAnyH_take (i := 3) (v := .map (some mb)) rfl (by kernel_rfl) (by kernel_rfl) (by kernel_rfl) (fun _ _ _ h => h) (Or.inl ⟨by kernel_rfl, fun wq hSw => by
      obtain ⟨s0, s1⟩ := HCl.out wq hSw
      go_simp⟩) (by assumption) ?_
  refine wpAnyH_take (i := 4) (v := ptr A) rfl (by kernel_rfl) (by kernel_rfl) (by kernel_rfl) (fun _ _ _ h => h) (Or.inl ⟨by kernel_rfl, fun _ _ => by kernel_rfl⟩) (by assumption) ?_
  refine wpAnyH_take (i := 5) (v := ptr A) rfl (by kernel_rfl) (by kernel_rfl) (by kernel_rfl) (fun _ _ _ h => h) (Or.inl ⟨by kernel_rfl, fun _ _ => by kernel_rfl⟩) (by assumption) ?_
  refine wpAnyH_take (i := 6) (v := .pointer (some ⟨A, 4, none⟩)) rfl (by kernel_rfl) (by kernel_rfl) (by kernel_rfl) (fun _ _ _ h => h) (Or.inl ⟨by kernel_rfl, fun _ _ => by kernel_rfl⟩) (by assumption) ?_
  refine wpAnyH_take (i := 7) (v := .int .i64 t0) rfl (by kernel_rfl) (by kernel_rfl) (by kernel_rfl) (fun _ _ _ h => h) (Or.inl ⟨by kernel_rfl, fun wq hSw => by
      obtain ⟨s0, s1⟩ := HCl.out wq hSw
      go_simp⟩) (by assumption) ?_
  have hr0 := HR0.out
  refine wpAnyH_ready (rs := [8]) (by kernel_rfl) (by simp) ?_
  refine AllReadyH.cons (i := 8) rfl ?_ AllReadyH.nil
  go_simp
  intro K hK
  refine hK.out _ _ (hd0.trans HF0.out) (fun _ => ?_)
  clear hK K hr0 HCl HR0
  refine wpAnyH_done (by kernel_rfl) ?_ _
  have c1 := cell_regrown HH0.out.c.2.1
  have c3 : W0.cell? ⟨A, 5, none⟩ = some (.int .i64 i) := by
    have h1 := HH0.out.ent i a Ha.out
    rw [HAA.out] at h1
    exact cell_of_row _ _ 5 _ _ _ h1
  have c4 := cell_regrown c3
  clear c3
  go_wp2_with fail
  refine wp_region_quiet_below (by kernel_rfl) (by kernel_rfl) ?_
  repeat (go_big_quiet_step (fail))
  refine wpQuiet_nil ?_
  intro _ hw'
  obtain ⟨⟨dq, osq⟩, hw''⟩ := hw'
  subst hw''
  have hbr := below_regrown W0 dq osq
  generalize Go.Sort.grow (redrawn W0 dq) osq = U at hbr ⊢
  clear c1 c4
  have HU := hidIn (HH0.out.below hbr)
  have HMU := hidIn (HM0.out.keep (T := fun _ => False) (Fr.of_below hbr) (fun h => h))
  have HFU := hidIn ((HF0'.out.mono (T := fun k => k = cp ∨ k = mb ∨ ownH (.slice (some ⟨g, 0, none⟩) (m + 1) cap) es k) (fun _ _ h => .inr (.inl h))).trans (Fr.of_below hbr))
  clear hbr HH0 HM0 HF0 HF0' hd0
  go_wp2_with fail
  refine (swap_ok HU.out (by rw [Hm.out]; exact hl9) Ha.out Hz.out).mono ?_
  rintro e w2 ⟨⟨r, rfl⟩, hM2, hF2⟩
  have HM2 := hidIn (HMU.out.keep hF2 (fun hk => Hno.out mb hk rfl))
  have HF2 := hidIn (HFU.out.trans (hF2.mono (T := fun k => k = cp ∨ k = mb ∨ ownH (.slice (some ⟨g, 0, none⟩) (m + 1) cap) es k) (fun _ _ h => .inr (.inr h))))
  have c1 := hM2.c.2.1
  have f1 := frozen_new hM2.blk 1
  have hgm : (swp es i m a z)[m]? = some a := by rw [swp_get Ha.out Hz.out, if_pos rfl]
  have gm := hM2.at hgm
  rw [HAA.out] at gm
  have fgm : w2.frozen? ⟨g, m, none⟩ = false := by
    obtain ⟨cur, h1⟩ := row_ty hM2.row (j := g) rfl
    exact frozen_new h1 m
  have hcg : cp ≠ g := hM2.cp_ne (.inl rfl)
  have hgc : g ≠ cp := hcg.symm
  have HH2 := hidIn hM2
  have hmc' : (m : Int) ≤ (cap : Int) := by omega
  have hm9 : (m : Int) < 100000 := by omega
  clear hM2 hF2 HU HMU HFU hgm
  go_upto_region 5 with fail
  obtain ⟨V, hV⟩ : ∃ V, (w2.setCell ⟨g, m, none⟩ nilP).setCell ⟨cp, 1, none⟩ (.slice (some ⟨g, 0, none⟩) m cap) = V := ⟨_, rfl⟩
  rw [hV]
  have hd : (swp es i m a z).take m = (es.set i z).take m := by
    unfold swp
    rw [List.take_set, List.set_eq_of_length_le (by rw [List.length_take]; omega)]
  have HV := hidIn (HH2.out.cut (V := V) (by rw [hV]))
  rw [hd] at HV
  have HFV : Hid (Fr (fun k => k = cp ∨ k = mb ∨ ownH (.slice (some ⟨g, 0, none⟩) (m + 1) cap) es k) w V) := hidIn (by
    rw [← hV]
    exact (HF2.out.set (p := ⟨g, m, none⟩) (.inr (.inr (.inl rfl))) _).set (p := ⟨cp, 1, none⟩) (.inl rfl) _)
  have HMV : Hid (MpE V mb n (delO f t0)) := hidIn (by
    rw [← hV]
    obtain ⟨es3, cl3, h3⟩ := HM2.out.isMap
    obtain ⟨cur, h4⟩ := row_ty HH2.out.row (j := g) rfl
    refine HM2.out.keep (T := fun k => k = g ∨ k = cp) (((Fr.refl _ w2).set (p := ⟨g, m, none⟩) (.inl rfl) _).set (p := ⟨cp, 1, none⟩) (.inr rfl) _) (fun e => ?_)
    rcases e with e | e
    · rw [e, h4] at h3; cases h3
    · exact Hmc.out e)
  have hdl : ((es.set i z).take m).length = m := by rw [List.length_take, List.length_set, Hm.out]; omega
  have hpm : ∀ k, ownH (.slice (some ⟨g, 0, none⟩) m cap) ((es.set i z).take m) k → k = cp ∨ k = mb ∨ ownH (.slice (some ⟨g, 0, none⟩) (m + 1) cap) es k := fun k hk => by
    rcases hk with hk | ⟨x, hx, hxk⟩
    · exact .inr (.inr (.inl hk))
    · refine .inr (.inr (.inr ⟨x, ?_, hxk⟩))
      have hx2 := List.mem_of_mem_take hx
      rcases List.mem_or_eq_of_mem_set hx2 with hx3 | rfl
      · exact hx3
      · exact List.mem_of_getElem? Hz.out
  have hvn : ∀ k, ownH (.slice (some ⟨g, 0, none⟩) m cap) ((es.set i z).take m) k → ¬ k = mb := fun k hk e => by
    obtain ⟨cur, t, h1, _⟩ := HV.out.own_ty hk
    obtain ⟨es3, cl3, h3⟩ := HMV.out.isMap
    rw [e, h3] at h1
    cases h1
  obtain ⟨d, hdd⟩ : ∃ d, (es.set i z).take m = d := ⟨_, rfl⟩
  have hrm := HRem.out
  rw [hdd] at HV hdl hpm hvn hrm
  have Hdl := hidIn hdl
  have Hpm := hidIn hpm
  have Hvn := hidIn hvn
  have HR := hidIn hrm
  clear hd hdl hpm hvn hrm hdd hV HH2 HM2 HF2 HRem c1 f1 gm fgm hcg hgc hcap hmc'
  by_cases hlt : i < m
  · have hlt' : (i : Int) < (m : Int) := by omega
    clear hi9
    go_wp2_with fail
    refine (rise_ok HV.out (by rw [Hdl.out]; omega) (by rw [Hdl.out]; exact hlt)).mono ?_
    rintro e w3 ⟨⟨r3, rfl⟩, hM3, hF3⟩
    have HM3 := hidIn (HMV.out.keep hF3 (fun hk => Hvn.out mb hk rfl))
    have HF3 := hidIn (HFV.out.trans (hF3.mono (T := fun k => k = cp ∨ k = mb ∨ ownH (.slice (some ⟨g, 0, none⟩) (m + 1) cap) es k) (fun k _ h => Hpm.out k h)))
    have hl3 : (riseF less i d i).length = m := (riseF_perm _ _ _ _).length_eq.trans Hdl.out
    have HS := hidIn (sink_ok (i := i) hM3 hl3 (by omega) (by omega))
    have HL3 := hidIn hl3
    have hpo : ∀ k, ownH (.slice (some ⟨g, 0, none⟩) m cap) (riseF less i d i) k → ownH (.slice (some ⟨g, 0, none⟩) m cap) d k := fun k hk => ownH_perm (riseF_perm _ _ _ _) hk
    have Hpo := hidIn hpo
    clear hM3 hF3 hl3 hpo
    go_wp2_with fail
    refine HS.out.mono ?_
    rintro e w4 ⟨⟨r4, rfl⟩, hM4, hF4⟩
    have HM4 := hidIn (HM3.out.keep hF4 (fun hk => Hvn.out mb (Hpo.out _ hk) rfl))
    have HF4 := hidIn (HF3.out.trans (hF4.mono (T := fun k => k = cp ∨ k = mb ∨ ownH (.slice (some ⟨g, 0, none⟩) (m + 1) cap) es k) (fun k _ h => Hpm.out k (Hpo.out k h))))
    have HH4 := hidIn hM4
    clear hM4 hF4 HS
    go_wp2
    go_returns
    refine ⟨⟨_, rfl⟩, .slice (some ⟨g, 0, none⟩) m cap, ?_, HM4.out, HF4.out, rfl⟩
    rw [HR.out, if_pos hlt]
    exact HH4.out
  · have hlt' : ¬ (i : Int) < (m : Int) := by omega
    clear hi9
    go_wp2
    go_returns
    refine ⟨⟨_, rfl⟩, .slice (some ⟨g, 0, none⟩) m cap, ?_, HMV.out, HFV.out, rfl⟩
    rw [HR.out, if_neg hlt]
    exact HV.out
end Go.Proofs.Ytkhfpcnmnnboeaa.Ca.A
