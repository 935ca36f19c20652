/- A calendar of string: Put. -/
import Derived.Test.YtaldehgggilmdaaC7S
namespace Go.Proofs.Ytaldehgggilmdaa.Ca.S
open Go.RowKit Go.Maps

theorem HpC.bump {w : World} {cp mb : Nat} {v : Value} {es : List Th} {p : Int} (q : Int) (h : HpC w cp v mb es p) : HpC (w.setCell ⟨cp, 3, none⟩ (.int .i64 q)) cp v mb es q := by
  have hF : Fr (fun k => k = cp) w (w.setCell ⟨cp, 3, none⟩ (.int .i64 q)) := (Fr.refl (fun k => k = cp) w).set (p := ⟨cp, 3, none⟩) rfl _
  refine ⟨heap_setCell_same w cp 3 _ _ _ h.blk, row_fr h.row hF (fun j hj e => h.cp_ne (.inl hj) e.symm), fun i e he => (hF.block _ (block_lt (h.ent i e he)) (fun e' => h.cp_ne (.inr ⟨e, List.mem_of_getElem? he, rfl⟩) e'.symm)).trans (h.ent i e he)⟩
set_option maxRecDepth 100000 in
set_option maxHeartbeats 2000000 in
theorem put_ok {w : World} {S : Nat → Prop} {cp p : Nat} {L : List (Tg ByteArray)} (x : ByteArray) (at0 : Int) (h : Cal w S cp L p) (hp : p < 90000) (hl : L.length < 90000) :
    Calls Try.prog 11 #[ptr cp, .int .u64 at0, .string x] w fun e w' => e = .returned (.int .i64 ((p + 1 : Nat) : Int)) ∧ Cal w' (ext S w w') cp (insL L ((x, at0), ((p + 1 : Nat) : Int))) (p + 1) ∧ Fr S w w' := by
  obtain ⟨v, mb, es, f, h1, h2, h3, h4, h5, h6, h7, h8⟩ := h.x
  have HT := hidIn (there_yes h1.c.1)
  have hes := len_is h5
  have c3 := h1.c.2.2.2
  have f3 := frozen_new h1.blk 3
  obtain ⟨ad, cap, rfl, hcap, _⟩ := h1.slice
  obtain ⟨es', cl', hmap⟩ := h2.isMap
  have hmc : mb ≠ cp := fun e => by rw [e, h1.blk] at hmap; cases hmap
  obtain ⟨t0, ht0⟩ : ∃ t0 : Int, ((p + 1 : Nat) : Int) = t0 := ⟨_, rfl⟩
  have ht1 : (p : Int) + 1 = t0 := by rw [← ht0]; omega
  have ht9 : 0 ≤ t0 ∧ t0 ≤ 90000 := by omega
  have hpn : (p : Int) ≤ 90000 := by omega
  obtain ⟨W1, hW1⟩ : ∃ W1, w.setCell ⟨cp, 3, none⟩ (.int .i64 t0) = W1 := ⟨_, rfl⟩
  have hB1 : HpC W1 cp (.slice ad es.length cap) mb es t0 := by rw [← hW1]; exact h1.bump t0
  have hF1 : Fr (fun k => k = cp) w W1 := by rw [← hW1]; exact (Fr.refl (fun k => k = cp) w).set (p := ⟨cp, 3, none⟩) rfl _
  have hM1 : MpE W1 mb p f := h2.keep hF1 hmc
  have hs1 : W1.heap.size = w.heap.size := by rw [← hW1]; simp [World.setCell]
  obtain ⟨X, hX⟩ : ∃ X, W1.heap.size = X := ⟨_, rfl⟩
  obtain ⟨W2, hW2⟩ : ∃ W2, W1.alloc (.cells (entA ((X, x, at0), t0) es.length) 53) = W2 := ⟨_, rfl⟩
  have hb2 : Below W1.heap.size W1 W2 := by rw [← hW2]; exact (Below.refl _ W1).alloc (Nat.le_refl _) _
  have hX2 : W2.heap[X]? = some (.cells (entA ((X, x, at0), t0) es.length) 53) := by rw [← hW2, ← hX]; exact heap_alloc_last W1 _
  have hB2 := hB1.below hb2
  have hM2 := hM1.keep (T := fun _ => False) (Fr.of_below hb2) (fun h => h)
  have hXo : ¬ ownH (.slice ad es.length cap) es X := fun hk => by have := hB1.own_lt hk; omega
  have HA := hidIn (add_ok hB2 hM2 (by omega) (by omega) hX2 hXo (wf9 (by omega)))
  have hF2 : Fr (fun k => k = cp) w W2 := hF1.trans (Fr.of_below hb2)
  have HF2 := hidIn hF2
  have HX := hidIn hX2
  have hsz2 : w.heap.size ≤ X ∧ X < W2.heap.size := ⟨by omega, block_lt hX2⟩
  have Hsz := hidIn hsz2
  have H3 := hidIn h3
  have H4 := hidIn h4
  have H5 := hidIn h5
  have H6 := hidIn h6
  have H7 := hidIn h7
  have H8 := hidIn h8
  have Ho := hidIn h.o
  have Ht := hidIn h.t
  have Hlt := hidIn h1.lt
  have Hml := hidIn h2.lt
  have Hes := hidIn hes
  have HW1 := hidIn hW1
  have HW2 := hidIn hW2
  have HXX := hidIn hX
  have Hol := hidIn (fun k (hk : ownH (.slice ad es.length cap) es k) => h1.own_lt hk)
  have Ht0 := hidIn ht0
  have c1 : W1.cell? ⟨cp, 1, none⟩ = some (.slice ad es.length cap) := hB1.c.2.1
  have d3 : W1.cell? ⟨cp, 3, none⟩ = some (.int .i64 t0) := hB1.c.2.2.2
  rw [ht0]
  clear h1 h2 h3 h4 h5 h6 h7 h8 h hmap hmc hB1 hF1 hM1 hs1 hb2 hX2 hB2 hM2 hXo hF2 hsz2 hes hW1 hW2 hX ht0
  have hel : (es.length : Int) ≤ 90000 := by have := Hes.out; omega
  obtain ⟨n, hn⟩ : ∃ n, es.length = n := ⟨_, rfl⟩
  rw [hn] at c1 HW2 hel HA Hol H8
  have Hn := hidIn hn
  clear hn hcap
  go_enter Try.func11, Try.ntmps11
  go_wp2_with fail
  refine HT.out.mono ?_
  rintro e w1 ⟨rfl, hw1⟩
  rw [hw1]
  clear hw1 w1
  go_upto_region 4 with fail
  rw [HW1.out]
  clear c3 f3
  go_wp2_with fail
  try rw [HXX.out]
  try rw [HW2.out]
  refine HA.out.mono ?_
  rintro e w3 ⟨⟨r, rfl⟩, v', hM3, hP3, hF3, hv3⟩
  have HS : Hid (∀ k, ownH v' (es ++ [((X, x, at0), t0)]) k → S k ∨ (w.heap.size ≤ k ∧ k < w3.heap.size)) := hidIn (by
    have hs3 := hF3.size
    rintro k (hk | ⟨e, he, hek⟩)
    · rcases hv3 k hk with h | h
      · exact .inl (H8.out k (.inl h))
      · exact .inr ⟨by have := Hsz.out; omega, h.2⟩
    · rcases List.mem_append.1 he with he | he
      · exact .inl (H8.out k (.inr ⟨e, he, hek⟩))
      · rw [List.mem_singleton.1 he] at hek
        have hXk : X = k := hek
        exact .inr ⟨by have := Hsz.out; omega, by have := Hsz.out; omega⟩)
  have HFT : Hid (Fr (fun k => S k ∨ w.heap.size ≤ k) w w3) := hidIn ((HF2.out.mono (fun k _ hk => .inl (hk ▸ H6.out))).trans (hF3.mono (fun k _ hk => by
    rcases hk with hk | hk | hk
    · exact .inl (hk ▸ H6.out)
    · exact .inl (hk ▸ H7.out)
    · exact .inl (H8.out k (.inl hk)))))
  have hl3 : (es ++ [((X, x, at0), t0)]).length = n + 1 := by rw [List.length_append, Hn.out]; rfl
  have HR := hidIn (rise_ok (i := n) hM3 (by rw [hl3]; omega) (by rw [hl3]; omega))
  have hnm : mb ≠ cp := fun e => by
    obtain ⟨es2, cl2, h2⟩ := hP3.isMap
    rw [e, hM3.blk] at h2
    cases h2
  have Hno : Hid (∀ k, ownH v' (es ++ [((X, x, at0), t0)]) k → ¬ k = mb) := hidIn (fun k hk e => by
    obtain ⟨cur, t, h1, _⟩ := hM3.own_ty hk
    obtain ⟨es2, cl2, h2⟩ := hP3.isMap
    rw [e, h2] at h1
    cases h1)
  have HP3 := hidIn hP3
  clear hM3 hP3 hF3 hv3 HA HF2 HX c1 d3 hl3 hnm Hlt Hml Hol HT
  go_wp2_with fail
  refine HR.out.mono ?_
  rintro e w4 ⟨⟨r4, rfl⟩, hM4, hF4⟩
  have c3 := hM4.c.2.2.2
  have HM4 := hidIn hM4
  have HP4 := hidIn (HP3.out.keep hF4 (fun hk => Hno.out mb hk rfl))
  have HF4 := hidIn (HFT.out.trans (hF4.mono (fun k _ hk => (HS.out k hk).imp id (fun h => h.1))))
  have Hs4 := hidIn hF4.size
  clear hM4 hF4 HR HP3 HFT
  go_wp2
  go_ret
  have hpr := riseF_perm less n (es ++ [((X, x, at0), t0)]) n
  have hlt : ∀ a ∈ L, a.2 < t0 := fun a ha => by have := Ht.out a ha; omega
  refine ⟨rfl, ⟨⟨v', mb, riseF less n (es ++ [((X, x, at0), t0)]) n, putO f t0 (ptr X), ?_, HP4.out, ?_, ?_, ?_, .inl H6.out, .inl H7.out, fun k hk => ?_⟩, ?_, ?_⟩, HF4.out.mono (fun k hk h => h.elim id (fun h => absurd hk (by omega)))⟩
  · rw [Ht0.out]; exact HM4.out
  · exact (H3.out.put (e := ((X, x, at0), t0)) (fun y hy => by
      have := hlt (tg y) (H5.out.mem_iff.1 (List.mem_map.2 ⟨y, hy, rfl⟩))
      show y.2 ≠ t0
      have h9 : y.2 < t0 := this
      omega)).perm hpr.symm
  · have := push_at at' H4.out ((X, x, at0), t0)
    rw [Hn.out] at this
    exact this
  · refine (hpr.map tg).trans ?_
    rw [List.map_append]
    refine (List.perm_append_comm).trans ?_
    exact (H5.out.cons _).trans (insL_perm L ((x, at0), t0)).symm
  · rcases HS.out k (ownH_perm hpr hk) with h | h
    · exact .inl h
    · exact .inr ⟨h.1, by have := Hs4.out; omega⟩
  · exact insL_ord _ Ho.out hlt
  · intro a ha
    rcases List.mem_cons.1 ((insL_perm L ((x, at0), t0)).mem_iff.1 ha) with rfl | ha
    · show 1 ≤ t0 ∧ t0 ≤ _; omega
    · have := Ht.out a ha; omega
end Go.Proofs.Ytaldehgggilmdaa.Ca.S
