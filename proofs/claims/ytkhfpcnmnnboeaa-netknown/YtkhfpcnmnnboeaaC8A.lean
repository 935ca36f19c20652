/- A calendar of dandelion/api.Arrive: Put. -/
import Derived.Test.YtkhfpcnmnnboeaaC7A
namespace Go.Proofs.Ytkhfpcnmnnboeaa.Ca.A
open Go.RowKit Go.Maps

theorem HpC.bump {w : World} {cp mb : Nat} {v : Value} {es : List Th} {p : Int} (q : Int) (h : HpC w cp v mb es p) : HpC (w.setCell ⟨cp, 3, none⟩ (.int .i64 q)) cp v mb es q := by
  have hF : Fr (fun k => k = cp) w (w.setCell ⟨cp, 3, none⟩ (.int .i64 q)) := (Fr.refl (fun k => k = cp) w).set (p := ⟨cp, 3, none⟩) rfl _
  refine ⟨heap_setCell_same w cp 3 _ _ _ h.blk, row_fr h.row hF (fun j hj e => h.cp_ne (.inl hj) e.symm), fun i e he => (hF.block _ (block_lt (h.ent i e he)) (fun e' => h.cp_ne (.inr ⟨e, List.mem_of_getElem? he, rfl⟩) e'.symm)).trans (h.ent i e he)⟩
/-- What stays while a pair is laid into an entry. -/
structure PutS (vb cp : Nat) (t0 : Int) (x : (Int × Int × ByteArray)) (wq : World) : Prop where
  a : wq.cell? ⟨vb, 0, none⟩ = some (.int .i64 x.1)
  b : wq.cell? ⟨vb, 1, none⟩ = some (.int .i64 x.2.1)
  d : wq.cell? ⟨vb, 2, none⟩ = some (.string x.2.2)
  c : wq.cell? ⟨cp, 3, none⟩ = some (.int .i64 t0)
theorem putS_of {vb cp : Nat} {t0 : Int} {x : (Int × Int × ByteArray)} {wq : World} {t : TypeId} (h : wq.heap[vb]? = some (.cells #[.int .i64 x.1, .int .i64 x.2.1, .string x.2.2] t)) (hc : wq.cell? ⟨cp, 3, none⟩ = some (.int .i64 t0)) : PutS vb cp t0 x wq :=
  ⟨cell_of_row _ _ 0 _ _ _ h, cell_of_row _ _ 1 _ _ _ h, cell_of_row _ _ 2 _ _ _ h, hc⟩
set_option maxRecDepth 100000 in
set_option maxHeartbeats 2000000 in
theorem put_ok {w : World} {S : Nat → Prop} {cp p : Nat} {L : List (Tg (Int × Int × ByteArray))} (x : (Int × Int × ByteArray)) (at0 : Int) (h : Cal w S cp L p) (hp : p < 90000) (hl : L.length < 90000) :
    Calls Try.prog 43 #[ptr cp, .int .u64 at0, .agg #[.int .i64 x.1, .int .i64 x.2.1, .string x.2.2]] w fun e w' => e = .returned (.int .i64 ((p + 1 : Nat) : Int)) ∧ Cal w' (ext S w w') cp (insL L ((x, at0), ((p + 1 : Nat) : Int))) (p + 1) ∧ Fr S w w' := by
  obtain ⟨w0, hw0⟩ : ∃ w0, w.alloc (.cells #[.int .i64 x.1, .int .i64 x.2.1, .string x.2.2] 30) = w0 := ⟨_, rfl⟩
  have hb0 : Below w.heap.size w w0 := by rw [← hw0]; exact (Below.refl _ w).alloc (Nat.le_refl _) _
  have hV : w0.heap[w.heap.size]? = some (.cells #[.int .i64 x.1, .int .i64 x.2.1, .string x.2.2] 30) := by rw [← hw0]; exact heap_alloc_last w _
  have h0 := h.below hb0
  obtain ⟨vb, hvb⟩ : ∃ vb, w.heap.size = vb := ⟨_, rfl⟩
  rw [hvb] at hV
  have HB0 := hidIn hb0
  have HV := hidIn hV
  have HW0 := hidIn hw0
  have Hvb := hidIn hvb
  clear hb0 hV hw0
  obtain ⟨v, mb, es, f, h1, h2, h3, h4, h5, h6, h7, h8⟩ := h0.x
  have HT := hidIn (there_yes h1.c.1)
  have hes := len_is h5
  have c3 := h1.c.2.2.2
  have f3 := frozen_new h1.blk 3
  obtain ⟨ad, cap, rfl, hcap, _⟩ := h1.slice
  obtain ⟨es', cl', hmap⟩ := h2.isMap
  have hmc : mb ≠ cp := fun e => by rw [e, h1.blk] at hmap; cases hmap
  obtain ⟨t0, ht0⟩ : ∃ t0 : Int, ((p + 1 : Nat) : Int) = t0 := ⟨_, rfl⟩
  have ht1 : (p : Int) + 1 = t0 := by rw [← ht0]; omega
  have ht9 : 0 ≤ t0 ∧ t0 ≤ 90000 := by omega
  have hpn : (p : Int) ≤ 90000 := by omega
  obtain ⟨W1, hW1⟩ : ∃ W1, w0.setCell ⟨cp, 3, none⟩ (.int .i64 t0) = W1 := ⟨_, rfl⟩
  have hB1 : HpC W1 cp (.slice ad es.length cap) mb es t0 := by rw [← hW1]; exact h1.bump t0
  have hF1 : Fr (fun k => k = cp) w0 W1 := by rw [← hW1]; exact (Fr.refl (fun k => k = cp) w0).set (p := ⟨cp, 3, none⟩) rfl _
  have hM1 : MpE W1 mb p f := h2.keep hF1 hmc
  have hs1 : W1.heap.size = w0.heap.size := by rw [← hW1]; simp [World.setCell]
  obtain ⟨X, hX⟩ : ∃ X, W1.heap.size = X := ⟨_, rfl⟩
  obtain ⟨W2, hW2⟩ : ∃ W2, (W1.alloc (.cells (entA ((X, x, at0), t0) es.length) 116)).drew = W2 := ⟨_, rfl⟩
  have hb2 : Below W1.heap.size W1 W2 := by rw [← hW2]; exact ((Below.refl _ W1).alloc (Nat.le_refl _) _).drew
  have hX2 : W2.heap[X]? = some (.cells (entA ((X, x, at0), t0) es.length) 116) := by rw [← hW2, ← hX]; exact heap_alloc_last W1 _
  have hB2 := hB1.below hb2
  have hM2 := hM1.keep (T := fun _ => False) (Fr.of_below hb2) (fun h => h)
  have hXo : ¬ ownH (.slice ad es.length cap) es X := fun hk => by have := hB1.own_lt hk; omega
  have hvc : vb ≠ cp := fun e => by
    have h9 := HV.out
    rw [e, h1.blk] at h9
    simp only [Option.some.injEq, Obj.cells.injEq] at h9
    exact absurd h9.2.1 (by decide)
  have hvm : vb ≠ mb := fun e => by
    have h9 := HV.out
    rw [e, hmap] at h9
    cases h9
  have hvr : ∀ k, (Value.slice ad es.length cap).ownBlock = some k → vb ≠ k := fun k hk e => by
    obtain ⟨cur, h9⟩ := row_ty h1.row hk
    have h8' := HV.out
    rw [e, h9] at h8'
    simp only [Option.some.injEq, Obj.cells.injEq] at h8'
    exact absurd h8'.2.1 (by decide)
  have hV1 := (hF1.block vb (block_lt HV.out) hvc).trans HV.out
  have hV2 := (hb2.block vb (block_lt hV1)).trans hV1
  have HS1 : Hid (PutS vb cp t0 x W1) := hidIn (putS_of hV1 hB1.c.2.2.2)
  have HS2 : Hid (PutS vb cp t0 x W2) := hidIn (putS_of hV2 hB2.c.2.2.2)
  have HV2 := hidIn hV2
  have Hvr := hidIn hvr
  have Hvc := hidIn hvc
  have Hvm := hidIn hvm
  have HA := hidIn (add_ok hB2 hM2 (by omega) (by omega) hX2 hXo (wf9 (by omega)))
  have hF2 : Fr (fun k => k = cp) w0 W2 := hF1.trans (Fr.of_below hb2)
  have HF2 := hidIn hF2
  have HX := hidIn hX2
  have hsz2 : w0.heap.size ≤ X ∧ X < W2.heap.size := ⟨by omega, block_lt hX2⟩
  have Hsz := hidIn hsz2
  have H3 := hidIn h3
  have H4 := hidIn h4
  have H5 := hidIn h5
  have H6 := hidIn h6
  have H7 := hidIn h7
  have H8 := hidIn h8
  have Ho := hidIn h0.o
  have Ht := hidIn h0.t
  have Hlt := hidIn h1.lt
  have Hml := hidIn h2.lt
  have Hes := hidIn hes
  have HW1 := hidIn hW1
  have HW2 := hidIn hW2
  have HXX := hidIn hX
  have Hol := hidIn (fun k (hk : ownH (.slice ad es.length cap) es k) => h1.own_lt hk)
  have Ht0 := hidIn ht0
  have c1 : W1.cell? ⟨cp, 1, none⟩ = some (.slice ad es.length cap) := hB1.c.2.1
  have d3 : W1.cell? ⟨cp, 3, none⟩ = some (.int .i64 t0) := hB1.c.2.2.2
  rw [ht0]
  clear h1 h2 h3 h4 h5 h6 h7 h8 h h0 hvc hvm hvr hV1 hV2 hmap hmc hB1 hF1 hM1 hs1 hb2 hX2 hB2 hM2 hXo hF2 hsz2 hes hW1 hW2 hX ht0
  have hel : (es.length : Int) ≤ 90000 := by have := Hes.out; omega
  obtain ⟨n, hn⟩ : ∃ n, es.length = n := ⟨_, rfl⟩
  rw [hn] at c1 HW2 hel HA Hol H8 Hvr
  have Hn := hidIn hn
  clear hn hcap
  go_enter Try.func43, Try.ntmps43
  go_upto_region 1 with fail
  try rw [HW0.out]
  try rw [hvb]
  clear HW0 hvb
  go_wp2_with fail
  refine HT.out.mono ?_
  rintro e w1 ⟨rfl, hw1⟩
  rw [hw1]
  clear hw1 w1
  go_upto_region 4 with fail
  rw [HW1.out]
  clear c3 f3
  go_upto_region 5 with fail
  refine wp_region_held_drew (S := fun wx => PutS vb cp t0 x wx) (by kernel_rfl) ⟨HS1.out.a, HS1.out.b, HS1.out.d, HS1.out.c⟩ (fun hHeld => ?_)
  have hd0 : PutS vb cp t0 x W1.drew := ⟨HS1.out.a, HS1.out.b, HS1.out.d, HS1.out.c⟩
  clear hHeld
  refine wpAnyH_take (i := 0) (v := ptr cp) rfl (by kernel_rfl) (by kernel_rfl) (by kernel_rfl) (fun _ _ _ h => h) (Or.inl ⟨by kernel_rfl, fun _ _ => by kernel_rfl⟩) (by assumption) ?_
  refine wpAnyH_take (i := 1) (v := .agg #[.int .i64 x.1, .int .i64 x.2.1, .string x.2.2]) rfl (by kernel_rfl) (by kernel_rfl) (by kernel_rfl) (fun _ _ _ h => h) (Or.inl ⟨by kernel_rfl, fun wq hSw => by
      obtain ⟨s0, s1, s2, s3⟩ := hSw
      go_simp⟩) (by assumption) ?_
  refine wpAnyH_take (i := 2) (v := .int .u64 at0) rfl (by kernel_rfl) (by kernel_rfl) (by kernel_rfl) (fun _ _ _ h => h) (Or.inl ⟨by kernel_rfl, fun _ _ => by kernel_rfl⟩) (by assumption) ?_
  refine wpAnyH_take (i := 3) (v := ptr cp) rfl (by kernel_rfl) (by kernel_rfl) (by kernel_rfl) (fun _ _ _ h => h) (Or.inl ⟨by kernel_rfl, fun _ _ => by kernel_rfl⟩) (by assumption) ?_
  refine wpAnyH_take (i := 4) (v := ptr cp) rfl (by kernel_rfl) (by kernel_rfl) (by kernel_rfl) (fun _ _ _ h => h) (Or.inl ⟨by kernel_rfl, fun _ _ => by kernel_rfl⟩) (by assumption) ?_
  refine wpAnyH_take (i := 5) (v := .pointer (some ⟨cp, 3, none⟩)) rfl (by kernel_rfl) (by kernel_rfl) (by kernel_rfl) (fun _ _ _ h => h) (Or.inl ⟨by kernel_rfl, fun _ _ => by kernel_rfl⟩) (by assumption) ?_
  refine wpAnyH_take (i := 6) (v := .int .i64 t0) rfl (by kernel_rfl) (by kernel_rfl) (by kernel_rfl) (fun _ _ _ h => h) (Or.inl ⟨by kernel_rfl, fun wq hSw => by
      obtain ⟨s0, s1, s2, s3⟩ := hSw
      go_simp⟩) (by assumption) ?_
  refine wpAnyH_take (i := 7) (v := .int .i64 n) rfl (by kernel_rfl) (by kernel_rfl) (by kernel_rfl) (fun _ _ _ h => h) (Or.inl ⟨by kernel_rfl, fun _ _ => by kernel_rfl⟩) (by assumption) ?_
  refine wpAnyH_take (i := 8) (v := .agg #[.int .i64 x.1, .int .i64 x.2.1, .string x.2.2, .int .u64 at0, .int .i64 t0, .int .i64 n]) rfl (by kernel_rfl) (by kernel_rfl) (by kernel_rfl) (fun _ _ _ h => h) (Or.inl ⟨by kernel_rfl, fun _ _ => by kernel_rfl⟩) (by assumption) ?_
  refine wpAnyH_ready (rs := [9]) (by kernel_rfl) (by simp) ?_
  refine AllReadyH.cons (i := 9) rfl ?_ AllReadyH.nil
  go_simp
  intro K hK
  try rw [HXX.out]
  try rw [HW2.out]
  refine hK.out _ _ HS2.out (fun _ => ?_)
  clear hK K
  refine wpAnyH_ready (rs := [10]) (by kernel_rfl) (by simp) ?_
  refine AllReadyH.cons (i := 10) rfl ?_ AllReadyH.nil
  go_simp
  intro K hK
  refine HA.out.mono ?_
  rintro e w3 ⟨⟨r, rfl⟩, v', hM3, hP3, hF3, hv3⟩
  have hd3 : PutS vb cp t0 x w3 := putS_of ((hF3.block vb (block_lt HV2.out) (fun h => by
    rcases h with h | h | h
    · exact Hvc.out h
    · exact Hvm.out h
    · exact Hvr.out _ h rfl)).trans HV2.out) hM3.c.2.2.2
  refine hK.out _ _ hd3 (fun _ => ?_)
  clear hK K
  refine wpAnyH_done (by kernel_rfl) ?_ _
  have HS : Hid (∀ k, ownH v' (es ++ [((X, x, at0), t0)]) k → S k ∨ (w0.heap.size ≤ k ∧ k < w3.heap.size)) := hidIn (by
    have hs3 := hF3.size
    rintro k (hk | ⟨e, he, hek⟩)
    · rcases hv3 k hk with h | h
      · exact .inl (H8.out k (.inl h))
      · exact .inr ⟨by have := Hsz.out; omega, h.2⟩
    · rcases List.mem_append.1 he with he | he
      · exact .inl (H8.out k (.inr ⟨e, he, hek⟩))
      · rw [List.mem_singleton.1 he] at hek
        have hXk : X = k := hek
        exact .inr ⟨by have := Hsz.out; omega, by have := Hsz.out; omega⟩)
  have HFT : Hid (Fr (fun k => S k ∨ w0.heap.size ≤ k) w0 w3) := hidIn ((HF2.out.mono (fun k _ hk => .inl (hk ▸ H6.out))).trans (hF3.mono (fun k _ hk => by
    rcases hk with hk | hk | hk
    · exact .inl (hk ▸ H6.out)
    · exact .inl (hk ▸ H7.out)
    · exact .inl (H8.out k (.inl hk)))))
  have hl3 : (es ++ [((X, x, at0), t0)]).length = n + 1 := by rw [List.length_append, Hn.out]; rfl
  have HR := hidIn (rise_ok (i := n) hM3 (by rw [hl3]; omega) (by rw [hl3]; omega))
  have hnm : mb ≠ cp := fun e => by
    obtain ⟨es2, cl2, h2⟩ := hP3.isMap
    rw [e, hM3.blk] at h2
    cases h2
  have Hno : Hid (∀ k, ownH v' (es ++ [((X, x, at0), t0)]) k → ¬ k = mb) := hidIn (fun k hk e => by
    obtain ⟨cur, t, h1, _⟩ := hM3.own_ty hk
    obtain ⟨es2, cl2, h2⟩ := hP3.isMap
    rw [e, h2] at h1
    cases h1)
  have HP3 := hidIn hP3
  clear hM3 hP3 hF3 hv3 HA HF2 HX c1 d3 hl3 hnm Hlt Hml Hol HT
  go_wp2_with fail
  refine HR.out.mono ?_
  rintro e w4 ⟨⟨r4, rfl⟩, hM4, hF4⟩
  have c3 := hM4.c.2.2.2
  have HM4 := hidIn hM4
  have HP4 := hidIn (HP3.out.keep hF4 (fun hk => Hno.out mb hk rfl))
  have HF4 := hidIn (HFT.out.trans (hF4.mono (fun k _ hk => (HS.out k hk).imp id (fun h => h.1))))
  have Hs4 := hidIn hF4.size
  clear hM4 hF4 HR HP3 HFT
  go_wp2
  go_ret
  have hpr := riseF_perm less n (es ++ [((X, x, at0), t0)]) n
  have hlt : ∀ a ∈ L, a.2 < t0 := fun a ha => by have := Ht.out a ha; omega
  suffices hh : Cal w4 (ext S w0 w4) cp (insL L ((x, at0), t0)) (p + 1) ∧ Fr S w0 w4 by
    refine ⟨rfl, hh.1.mono (fun k _ hk => ?_), (Fr.of_below HB0.out).trans hh.2⟩
    rcases hk with hk | hk
    · exact .inl hk
    · exact .inr ⟨by have := HB0.out.size; omega, hk.2⟩
  refine ⟨⟨⟨v', mb, riseF less n (es ++ [((X, x, at0), t0)]) n, putO f t0 (ptr X), ?_, HP4.out, ?_, ?_, ?_, .inl H6.out, .inl H7.out, fun k hk => ?_⟩, ?_, ?_⟩, HF4.out.mono (fun k hk h => h.elim id (fun h => absurd hk (by omega)))⟩
  · rw [Ht0.out]; exact HM4.out
  · exact (H3.out.put (e := ((X, x, at0), t0)) (fun y hy => by
      have := hlt (tg y) (H5.out.mem_iff.1 (List.mem_map.2 ⟨y, hy, rfl⟩))
      show y.2 ≠ t0
      have h9 : y.2 < t0 := this
      omega)).perm hpr.symm
  · have := push_at at' H4.out ((X, x, at0), t0)
    rw [Hn.out] at this
    exact this
  · refine (hpr.map tg).trans ?_
    rw [List.map_append]
    refine (List.perm_append_comm).trans ?_
    exact (H5.out.cons _).trans (insL_perm L ((x, at0), t0)).symm
  · rcases HS.out k (ownH_perm hpr hk) with h | h
    · exact .inl h
    · exact .inr ⟨h.1, by have := Hs4.out; omega⟩
  · exact insL_ord _ Ho.out hlt
  · intro a ha
    rcases List.mem_cons.1 ((insL_perm L ((x, at0), t0)).mem_iff.1 ha) with rfl | ha
    · show 1 ≤ t0 ∧ t0 ≤ _; omega
    · have := Ht.out a ha; omega
end Go.Proofs.Ytkhfpcnmnnboeaa.Ca.A
