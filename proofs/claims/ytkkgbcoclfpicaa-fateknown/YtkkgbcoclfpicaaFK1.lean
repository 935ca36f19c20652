/- FateKnown: the walk. -/
import Derived.Test.YtkkgbcoclfpicaaFK0
namespace Go.Proofs.Ytkkgbcoclfpicaa.Fa
open Go.RowKit

set_option maxRecDepth 100000 in
set_option maxHeartbeats 4000000 in
theorem fateKnown_walk (W : World) : Calls Try.prog 5 #[] W fun e w' => e = .returned (.bool true) ∧ Below W.heap.size W w' := by
  obtain ⟨W1, hW1⟩ : ∃ W1, (W.alloc (.cells #[.int .i64 1, .int .i64 2, .int .i64 1, .int .i64 3, .int .i64 65] 32)).alloc (.cells #[.int .i64 1, .int .i64 2, .int .i64 1, .int .i64 4, .int .i64 1] 32) = W1 := ⟨_, rfl⟩
  have b1 : Below W.heap.size W W1 := by rw [← hW1]; exact ((Below.refl _ W).alloc (Nat.le_refl _) _).alloc (by simp) _
  have hX : W1.heap[W.heap.size]? = some (.cells #[.int .i64 1, .int .i64 2, .int .i64 1, .int .i64 3, .int .i64 65] 32) := by
    rw [← hW1, Below.heap_alloc _ _ _ (by simp)]
    exact heap_alloc_last W _
  have hY : W1.heap[W.heap.size + 1]? = some (.cells #[.int .i64 1, .int .i64 2, .int .i64 1, .int .i64 4, .int .i64 1] 32) := by
    rw [← hW1]
    have := heap_alloc_last (W.alloc (.cells #[.int .i64 1, .int .i64 2, .int .i64 1, .int .i64 3, .int .i64 65] 32)) (.cells #[.int .i64 1, .int .i64 2, .int .i64 1, .int .i64 4, .int .i64 1] 32)
    rwa [World.size_alloc] at this
  have s1 : W1.heap.size = W.heap.size + 2 := by rw [← hW1]; simp
  obtain ⟨q, hq⟩ : ∃ q, W.heap.size = q := ⟨_, rfl⟩
  rw [hq] at b1 hX hY s1 ⊢
  have HB1 := hidIn b1
  have HX := hidIn hX
  have HY := hidIn hY
  have HS1 := hidIn s1
  have HW1 := hidIn hW1
  have HQ0 := hidIn hq
  have HCl : Hid (∀ wq, Below (q + 2) W1 wq → wq.heap[q]? = some (.cells #[.int .i64 1, .int .i64 2, .int .i64 1, .int .i64 3, .int .i64 65] 32) ∧ wq.heap[q + 1]? = some (.cells #[.int .i64 1, .int .i64 2, .int .i64 1, .int .i64 4, .int .i64 1] 32)) := hidIn fun wq hF => ⟨(hF.block q (by omega)).trans hX, (hF.block (q + 1) (by omega)).trans hY⟩
  clear hW1 b1 hX hY s1 hq
  go_enter Try.func5, Try.ntmps5
  go_upto_region 4 with fail
  rw [HW1.out, HQ0.out]
  clear HW1
  refine wp_region_held_drew (S := fun wx => Below (q + 2) W1 wx) (by kernel_rfl) ((Below.refl _ W1).drew) (fun hHeld => ?_)
  have hd0 : Below (q + 2) W1 W1.drew := hHeld
  clear hHeld
  refine wpAnyH_take (i := 0) (v := .func (.func 18) #[] #[]) rfl (by kernel_rfl) (by kernel_rfl) (by kernel_rfl) (fun _ _ _ h => h) (Or.inl ⟨by kernel_rfl, fun _ _ => by kernel_rfl⟩) (by assumption) ?_
  refine wpAnyH_take (i := 2) (v := .func (.func 18) #[] #[]) rfl (by kernel_rfl) (by kernel_rfl) (by kernel_rfl) (fun _ _ _ h => h) (Or.inl ⟨by kernel_rfl, fun _ _ => by kernel_rfl⟩) (by assumption) ?_
  refine wpAnyH_take (i := 4) (v := .func (.func 18) #[] #[]) rfl (by kernel_rfl) (by kernel_rfl) (by kernel_rfl) (fun _ _ _ h => h) (Or.inl ⟨by kernel_rfl, fun _ _ => by kernel_rfl⟩) (by assumption) ?_
  refine wpAnyH_take (i := 6) (v := .func (.func 18) #[] #[]) rfl (by kernel_rfl) (by kernel_rfl) (by kernel_rfl) (fun _ _ _ h => h) (Or.inl ⟨by kernel_rfl, fun _ _ => by kernel_rfl⟩) (by assumption) ?_
  refine wpAnyH_take (i := 8) (v := .func (.func 18) #[] #[]) rfl (by kernel_rfl) (by kernel_rfl) (by kernel_rfl) (fun _ _ _ h => h) (Or.inl ⟨by kernel_rfl, fun _ _ => by kernel_rfl⟩) (by assumption) ?_
  refine wpAnyH_take (i := 10) (v := .func (.func 18) #[] #[]) rfl (by kernel_rfl) (by kernel_rfl) (by kernel_rfl) (fun _ _ _ h => h) (Or.inl ⟨by kernel_rfl, fun _ _ => by kernel_rfl⟩) (by assumption) ?_
  refine wpAnyH_take (i := 12) (v := .agg #[.int .i64 1, .int .i64 2, .int .i64 1, .int .i64 3, .int .i64 65]) rfl (by kernel_rfl) (by kernel_rfl) (by kernel_rfl) (fun _ _ _ h => h) (Or.inl ⟨by kernel_rfl, fun wq hSw => by
      obtain ⟨h0, h1⟩ := HCl.out wq hSw
      have y0 := cell_of_row _ _ 0 _ _ _ h0
      have y1 := cell_of_row _ _ 1 _ _ _ h0
      have y2 := cell_of_row _ _ 2 _ _ _ h0
      have y3 := cell_of_row _ _ 3 _ _ _ h0
      have y4 := cell_of_row _ _ 4 _ _ _ h0
      simp at y0 y1 y2 y3 y4
      go_simp⟩) (by assumption) ?_
  refine wpAnyH_take (i := 13) (v := .agg #[.int .i64 1, .int .i64 2, .int .i64 1, .int .i64 4, .int .i64 1]) rfl (by kernel_rfl) (by kernel_rfl) (by kernel_rfl) (fun _ _ _ h => h) (Or.inl ⟨by kernel_rfl, fun wq hSw => by
      obtain ⟨h0, h1⟩ := HCl.out wq hSw
      have y0 := cell_of_row _ _ 0 _ _ _ h1
      have y1 := cell_of_row _ _ 1 _ _ _ h1
      have y2 := cell_of_row _ _ 2 _ _ _ h1
      have y3 := cell_of_row _ _ 3 _ _ _ h1
      have y4 := cell_of_row _ _ 4 _ _ _ h1
      simp at y0 y1 y2 y3 y4
      go_simp⟩) (by assumption) ?_
  refine wpAnyH_take (i := 16) (v := .int .i64 0) rfl (by kernel_rfl) (by kernel_rfl) (by kernel_rfl) (fun _ _ _ h => h) (Or.inl ⟨by kernel_rfl, fun _ _ => by kernel_rfl⟩) (by assumption) ?_
  refine wpAnyH_ready (rs := [1]) (by kernel_rfl) (by simp) ?_
  refine AllReadyH.cons (i := 1) rfl ?_ AllReadyH.nil
  go_simp
  intro K hK
  refine (fdrop_any 1 2 1 1 _).mono ?_
  rintro e v1 ⟨rfl, hb⟩
  have hd1 : Below (q + 2) W1 v1 := hd0.trans (hb.mono (by have := hd0.size; have := HS1.out; omega))
  refine hK.out _ _ hd1 (fun _ => ?_)
  clear hK K hb hd0
  refine wpAnyH_ready (rs := [3]) (by kernel_rfl) (by simp) ?_
  refine AllReadyH.cons (i := 3) rfl ?_ AllReadyH.nil
  go_simp
  intro K hK
  refine (fdrop_any 1 1 1 0 _).mono ?_
  rintro e v2 ⟨rfl, hb⟩
  have hd2 : Below (q + 2) W1 v2 := hd1.trans (hb.mono (by have := hd1.size; have := HS1.out; omega))
  refine hK.out _ _ hd2 (fun _ => ?_)
  clear hK K hb hd1
  refine wpAnyH_ready (rs := [5]) (by kernel_rfl) (by simp) ?_
  refine AllReadyH.cons (i := 5) rfl ?_ AllReadyH.nil
  go_simp
  intro K hK
  refine (fdrop_any 1 2 0 0 _).mono ?_
  rintro e v3 ⟨rfl, hb⟩
  have hd3 : Below (q + 2) W1 v3 := hd2.trans (hb.mono (by have := hd2.size; have := HS1.out; omega))
  refine hK.out _ _ hd3 (fun _ => ?_)
  clear hK K hb hd2
  refine wpAnyH_ready (rs := [7]) (by kernel_rfl) (by simp) ?_
  refine AllReadyH.cons (i := 7) rfl ?_ AllReadyH.nil
  go_simp
  intro K hK
  refine (fdrop_any 0 2 1 0 _).mono ?_
  rintro e v4 ⟨rfl, hb⟩
  have hd4 : Below (q + 2) W1 v4 := hd3.trans (hb.mono (by have := hd3.size; have := HS1.out; omega))
  refine hK.out _ _ hd4 (fun _ => ?_)
  clear hK K hb hd3
  refine wpAnyH_ready (rs := [9]) (by kernel_rfl) (by simp) ?_
  refine AllReadyH.cons (i := 9) rfl ?_ AllReadyH.nil
  go_simp
  intro K hK
  refine (fdrop_any 1 25 1 0 _).mono ?_
  rintro e v5 ⟨rfl, hb⟩
  have hd5 : Below (q + 2) W1 v5 := hd4.trans (hb.mono (by have := hd4.size; have := HS1.out; omega))
  refine hK.out _ _ hd5 (fun _ => ?_)
  clear hK K hb hd4
  refine wpAnyH_ready (rs := [11]) (by kernel_rfl) (by simp) ?_
  refine AllReadyH.cons (i := 11) rfl ?_ AllReadyH.nil
  go_simp
  intro K hK
  refine (fdrop_any 1 2 1048577 0 _).mono ?_
  rintro e v6 ⟨rfl, hb⟩
  have hd6 : Below (q + 2) W1 v6 := hd5.trans (hb.mono (by have := hd5.size; have := HS1.out; omega))
  refine hK.out _ _ hd6 (fun _ => ?_)
  clear hK K hb hd5
  refine wpAnyH_ready (rs := [14]) (by kernel_rfl) (by simp) ?_
  refine AllReadyH.cons (i := 14) rfl ?_ AllReadyH.nil
  go_simp
  intro K hK
  refine hK.out _ _ (hd6.alloc (by have := hd6.size; have := HS1.out; omega) _) (fun _ => ?_)
  clear hK K
  refine wpAnyH_ready (rs := [15]) (by kernel_rfl) (by simp) ?_
  refine AllReadyH.cons (i := 15) rfl ?_ AllReadyH.nil
  go_simp
  intro K hK
  refine hK.out _ _ (hd6.alloc (by have := hd6.size; have := HS1.out; omega) _) (fun _ => ?_)
  clear hK K
  refine wpAnyH_done (by kernel_rfl) ?_ _
  obtain ⟨W7, hW7⟩ : ∃ W7, v6.alloc (.cells #[.int .i64 1, .int .i64 2, .int .i64 1, .int .i64 1, .int .i64 1, .int .i64 1, .int .i64 1, .int .i64 1, .int .i64 1, .int .i64 0, .int .i64 1, .int .i64 2, .int .i64 0, .int .i64 1, .int .i64 0, .int .i64 0, .int .i64 2, .int .i64 1, .int .i64 1, .int .i64 0, .int .i64 1, .int .i64 25, .int .i64 1, .int .i64 1, .int .i64 0, .int .i64 1, .int .i64 2, .int .i64 1048577, .int .i64 1, .int .i64 0, .int .i64 1, .int .i64 2, .int .i64 1, .int .i64 3, .int .i64 65, .int .i64 1, .int .i64 2, .int .i64 1, .int .i64 4, .int .i64 1] 32) = W7 := ⟨_, rfl⟩
  have hL7 : SlAt ruC 5 W7 (.slice (some ⟨v6.heap.size, 0, none⟩) 8 8) badL := by
    rw [← hW7]
    exact slAt_new5 v6 badL (by decide)
  have hd7 : Below (q + 2) W1 W7 := by rw [← hW7]; exact hd6.alloc (by have := hd6.size; have := HS1.out; omega) _
  have HL7 := hidIn hL7
  have HX7 := hidIn (HCl.out W7 hd7)
  have HB7 := hidIn (HB1.out.trans (hd7.mono (by omega)))
  have HW7 := hidIn hW7
  rw [HW7.out]
  obtain ⟨g, hg⟩ : ∃ g, v6.heap.size = g := ⟨_, rfl⟩
  rw [hg] at HL7 ⊢
  clear hL7 hd6 hd7 hW7 HW7 hg HX HY HCl HB1 HS1
  go_wp2_with fail
  go_loopw [38] (fun i wr => ∃ k : Nat, k ≤ 8 ∧ i = .int .i64 k ∧ Hid (Below W7.heap.size W7 wr)) (fun i _ => 8 - (intOf i).toNat)
  case atStart => exact ⟨0, by omega, rfl, hidIn (Below.refl _ _)⟩
  case round =>
    obtain ⟨k, hk, rfl, HR⟩ := hrel
    by_cases hlt : k < 8
    · obtain ⟨r, hr⟩ : ∃ r, badL[k]? = some r := ⟨badL[k]'(by show k < 8; omega), List.getElem?_eq_getElem _⟩
      have HBad := hidIn (badL_bad r (List.mem_of_getElem? hr))
      obtain ⟨a0, cap, h0, _, hcell⟩ := SlAt_rus HL7.out
      simp at h0
      obtain ⟨rfl, hx8⟩ := h0
      clear hx8
      obtain ⟨bk, o, h1, hbk, hcell⟩ := hcell (by decide)
      simp at h1
      obtain ⟨rfl, rfl⟩ := h1
      obtain ⟨q0, q1, q2, q3, q4⟩ := hcell k r hr
      have hR := HR.out
      have c0 := (hR.cell (p := ⟨g, 0 + k * 5, none⟩) hbk).trans q0
      have c1 := (hR.cell (p := ⟨g, 0 + k * 5 + 1, none⟩) hbk).trans q1
      have c2 := (hR.cell (p := ⟨g, 0 + k * 5 + 2, none⟩) hbk).trans q2
      have c3 := (hR.cell (p := ⟨g, 0 + k * 5 + 3, none⟩) hbk).trans q3
      have c4 := (hR.cell (p := ⟨g, 0 + k * 5 + 4, none⟩) hbk).trans q4
      rw [Nat.zero_add] at c0 c1 c2 c3 c4
      clear q0 q1 q2 q3 q4 hcell hbk hr hR
      obtain ⟨W8, hW8⟩ : ∃ W8, wr.alloc (.cells #[.int .i64 r.1, .int .i64 r.2.1, .int .i64 r.2.2.1, .int .i64 r.2.2.2.1, .int .i64 r.2.2.2.2] 32) = W8 := ⟨_, rfl⟩
      have b8 : Below wr.heap.size wr W8 := by rw [← hW8]; exact (Below.refl _ wr).alloc (Nat.le_refl _) _
      have HXb : Hid (BxR W8 wr.heap.size r) := hidIn (by rw [← hW8]; exact BxR.new wr r _)
      have HB8 := hidIn (HR.out.trans (b8.mono HR.out.size))
      have HW8 := hidIn hW8
      clear hW8 b8 HR
      have hki : (k : Int) < 8 := by omega
      have hk8 : k < 8 := hlt
      go_upto_region 7 with fail
      rw [HW8.out]
      clear HW8 c0 c1 c2 c3 c4
      refine wp_region_held_drew (S := fun wx => Below W8.heap.size W8 wx) (by kernel_rfl) ((Below.refl _ W8).drew) (fun hHeld => ?_)
      have hd0 : Below W8.heap.size W8 W8.drew := hHeld
      clear hHeld
      refine wpAnyH_take (i := 0) (v := .func (.func 18) #[] #[]) rfl (by kernel_rfl) (by kernel_rfl) (by kernel_rfl) (fun _ _ _ h => h) (Or.inl ⟨by kernel_rfl, fun _ _ => by kernel_rfl⟩) (by assumption) ?_
      refine wpAnyH_take (i := 2) (v := .agg #[.int .i64 r.1, .int .i64 r.2.1, .int .i64 r.2.2.1, .int .i64 r.2.2.2.1, .int .i64 r.2.2.2.2]) rfl (by kernel_rfl) (by kernel_rfl) (by kernel_rfl) (fun _ _ _ h => h) (Or.inl ⟨by kernel_rfl, fun wq hSw => by
          obtain ⟨y0, y1, y2, y3, y4, ylt⟩ := HXb.out.keep hSw (Nat.le_refl _)
          go_simp⟩) (by assumption) ?_
      refine wpAnyH_ready (rs := [1]) (by kernel_rfl) (by simp) ?_
      refine AllReadyH.cons (i := 1) rfl ?_ AllReadyH.nil
      go_simp
      intro K hK
      refine (fdrop_any 3 4 1 0 _).mono ?_
      rintro e w9 ⟨rfl, hb⟩
      have hd1 : Below W8.heap.size W8 w9 := hd0.trans (hb.mono hd0.size)
      refine hK.out _ _ hd1 (fun _ => ?_)
      clear hK K hb hd0
      refine wpAnyH_ready (rs := [3]) (by kernel_rfl) (by simp) ?_
      refine AllReadyH.cons (i := 3) rfl ?_ AllReadyH.nil
      go_simp
      intro K hK
      refine hK.out _ _ (hd1.alloc hd1.size _) (fun _ => ?_)
      clear hK K
      refine wpAnyH_ready (rs := [4]) (by kernel_rfl) (by simp) ?_
      refine AllReadyH.cons (i := 4) rfl ?_ AllReadyH.nil
      go_simp
      intro K hK
      refine (check_bad HBad.out w9).mono ?_
      rintro e w10 ⟨rfl, hb⟩
      have hd2 : Below W8.heap.size W8 w10 := hd1.trans (hb.mono hd1.size)
      refine hK.out _ _ hd2 (fun _ => ?_)
      clear hK K hb hd1
      refine wpAnyH_take (i := 5) (v := .tuple #[.int .i64 1, .int .i64 2]) rfl (by kernel_rfl) (by kernel_rfl) (by kernel_rfl) (fun _ _ _ h => h) (Or.inl ⟨by kernel_rfl, fun _ _ => by kernel_rfl⟩) (by assumption) ?_
      refine wpAnyH_take (i := 6) (v := .int .i64 1) rfl (by kernel_rfl) (by kernel_rfl) (by kernel_rfl) (fun _ _ _ h => h) (Or.inl ⟨by kernel_rfl, fun _ _ => by kernel_rfl⟩) (by assumption) ?_
      refine wpAnyH_take (i := 7) (v := .int .i64 2) rfl (by kernel_rfl) (by kernel_rfl) (by kernel_rfl) (fun _ _ _ h => h) (Or.inl ⟨by kernel_rfl, fun _ _ => by kernel_rfl⟩) (by assumption) ?_
      refine wpAnyH_take (i := 8) (v := .int .i64 1) rfl (by kernel_rfl) (by kernel_rfl) (by kernel_rfl) (fun _ _ _ h => h) (Or.inl ⟨by kernel_rfl, fun _ _ => by kernel_rfl⟩) (by assumption) ?_
      refine wpAnyH_take (i := 9) (v := .int .i64 2) rfl (by kernel_rfl) (by kernel_rfl) (by kernel_rfl) (fun _ _ _ h => h) (Or.inl ⟨by kernel_rfl, fun _ _ => by kernel_rfl⟩) (by assumption) ?_
      refine wpAnyH_done (by kernel_rfl) ?_ _
      obtain ⟨y0, y1, y2, y3, y4, ylt⟩ := HXb.out.keep hd2 (Nat.le_refl _)
      have HB10 := hidIn (HB8.out.trans (hd2.mono HB8.out.size))
      clear hd2
      go_wp2_with fail
      refine (new_bad HBad.out w10).mono ?_
      rintro e w11 ⟨rfl, hb⟩
      have HB11 := hidIn (HB10.out.trans (hb.mono HB10.out.size))
      clear hb y0 y1 y2 y3 y4 ylt
      go_wp2_with fail
      go_roundw
      case rel => exact ⟨k + 1, by omega, by go_num, hidIn HB11.out⟩
      case measure => simp [intOf]; omega
    · have hX := (HR.out.block q (block_lt HX7.out.1)).trans HX7.out.1
      have HB := hidIn (HB7.out.trans (HR.out.mono (by have := HB7.out.size; have := HQ0.out; omega)))
      have HQ := hidIn (block_lt hX)
      have c4 := cell_of_row _ _ 4 _ _ _ hX
      have f4 := frozen_new hX 4
      simp at c4
      obtain ⟨W12, hW12⟩ : ∃ W12, wr.setCell ⟨q, 4, none⟩ (.int .i64 64) = W12 := ⟨_, rfl⟩
      have HX12 : Hid (W12.heap[q]? = some (.cells #[.int .i64 1, .int .i64 2, .int .i64 1, .int .i64 3, .int .i64 64] 32)) := hidIn (by rw [← hW12]; exact heap_setCell_same _ _ _ _ _ _ hX)
      have HB12 : Hid (Below q W W12) := hidIn (by rw [← hW12]; exact HB.out.setCell (p := ⟨q, 4, none⟩) (Nat.le_refl _) _)
      have HW12 := hidIn hW12
      have HCl : Hid (∀ wq, Below W12.heap.size W12 wq → wq.heap[q]? = some (.cells #[.int .i64 1, .int .i64 2, .int .i64 1, .int .i64 3, .int .i64 64] 32)) := hidIn fun wq hF => (hF.block q (block_lt HX12.out)).trans HX12.out
      have hki : ¬ ((k : Int) < 8) := by omega
      clear hX hW12 HB HR
      go_upto_region 13 with fail
      rw [HW12.out]
      clear c4 f4 HW12
      refine wp_region_held_drew (S := fun wx => Below W12.heap.size W12 wx) (by kernel_rfl) ((Below.refl _ W12).drew) (fun hHeld => ?_)
      have hd0 : Below W12.heap.size W12 W12.drew := hHeld
      clear hHeld
      refine wpAnyH_take (i := 0) (v := .func (.func 18) #[] #[]) rfl (by kernel_rfl) (by kernel_rfl) (by kernel_rfl) (fun _ _ _ h => h) (Or.inl ⟨by kernel_rfl, fun _ _ => by kernel_rfl⟩) (by assumption) ?_
      refine wpAnyH_take (i := 2) (v := .agg #[.int .i64 1, .int .i64 2, .int .i64 1, .int .i64 3, .int .i64 64]) rfl (by kernel_rfl) (by kernel_rfl) (by kernel_rfl) (fun _ _ _ h => h) (Or.inl ⟨by kernel_rfl, fun wq hSw => by
          have h0 := HCl.out wq hSw
          have y0 := cell_of_row _ _ 0 _ _ _ h0
          have y1 := cell_of_row _ _ 1 _ _ _ h0
          have y2 := cell_of_row _ _ 2 _ _ _ h0
          have y3 := cell_of_row _ _ 3 _ _ _ h0
          have y4 := cell_of_row _ _ 4 _ _ _ h0
          simp at y0 y1 y2 y3 y4
          go_simp⟩) (by assumption) ?_
      refine wpAnyH_ready (rs := [1]) (by kernel_rfl) (by simp) ?_
      refine AllReadyH.cons (i := 1) rfl ?_ AllReadyH.nil
      go_simp
      intro K hK
      refine (fdrop_any 1 2 1 0 _).mono ?_
      rintro e w9 ⟨rfl, hb⟩
      have hd1 : Below W12.heap.size W12 w9 := hd0.trans (hb.mono hd0.size)
      refine hK.out _ _ hd1 (fun _ => ?_)
      clear hK K hb hd0
      refine wpAnyH_ready (rs := [3]) (by kernel_rfl) (by simp) ?_
      refine AllReadyH.cons (i := 3) rfl ?_ AllReadyH.nil
      go_simp
      intro K hK
      refine hK.out _ _ (hd1.alloc hd1.size _) (fun _ => ?_)
      clear hK K
      refine wpAnyH_ready (rs := [4]) (by kernel_rfl) (by simp) ?_
      refine AllReadyH.cons (i := 4) rfl ?_ AllReadyH.nil
      go_simp
      intro K hK
      refine (check_again w9).mono ?_
      rintro e w13 ⟨rfl, hb⟩
      have hd2 : Below W12.heap.size W12 w13 := hd1.trans (hb.mono hd1.size)
      refine hK.out _ _ hd2 (fun _ => ?_)
      clear hK K hb hd1
      refine wpAnyH_take (i := 5) (v := .tuple #[.int .i64 1, .int .i64 7]) rfl (by kernel_rfl) (by kernel_rfl) (by kernel_rfl) (fun _ _ _ h => h) (Or.inl ⟨by kernel_rfl, fun _ _ => by kernel_rfl⟩) (by assumption) ?_
      refine wpAnyH_take (i := 6) (v := .int .i64 1) rfl (by kernel_rfl) (by kernel_rfl) (by kernel_rfl) (fun _ _ _ h => h) (Or.inl ⟨by kernel_rfl, fun _ _ => by kernel_rfl⟩) (by assumption) ?_
      refine wpAnyH_take (i := 7) (v := .int .i64 7) rfl (by kernel_rfl) (by kernel_rfl) (by kernel_rfl) (fun _ _ _ h => h) (Or.inl ⟨by kernel_rfl, fun _ _ => by kernel_rfl⟩) (by assumption) ?_
      refine wpAnyH_take (i := 8) (v := .int .i64 1) rfl (by kernel_rfl) (by kernel_rfl) (by kernel_rfl) (fun _ _ _ h => h) (Or.inl ⟨by kernel_rfl, fun _ _ => by kernel_rfl⟩) (by assumption) ?_
      refine wpAnyH_take (i := 9) (v := .int .i64 7) rfl (by kernel_rfl) (by kernel_rfl) (by kernel_rfl) (fun _ _ _ h => h) (Or.inl ⟨by kernel_rfl, fun _ _ => by kernel_rfl⟩) (by assumption) ?_
      refine wpAnyH_done (by kernel_rfl) ?_ _
      have HB13 := hidIn (HB12.out.trans (hd2.mono (by have := HB12.out.size; have := HQ0.out; omega)))
      have HQ13 : Hid (q ≤ w13.heap.size) := hidIn (Nat.le_trans (Nat.le_of_lt (block_lt HX12.out)) hd2.size)
      clear hd2 HCl HX12 HB12 HX7 HB7 HL7 HQ
      have hmk := fun w => make_65 w
      go_wp2_with fail
      refine (check_65 w13).mono ?_
      rintro e w14 ⟨rfl, hb⟩
      have HB14 := hidIn (HB13.out.trans (hb.mono HQ13.out))
      have HQ14 : Hid (q ≤ w14.heap.size) := hidIn (Nat.le_trans HQ13.out hb.size)
      clear hb HB13 HQ13 hmk
      go_wp2_with fail
      refine (fnew_ok (slAt_nil5 w14) (by decide)).mono ?_
      rintro e w15 ⟨P, m, rfl, hP, hPl, hml, hb⟩
      have HP := hidIn hP
      have HB15 := hidIn (HB14.out.trans (hb.mono HQ14.out))
      have HQ15 : Hid (q ≤ w15.heap.size) := hidIn (Nat.le_trans HQ14.out hb.size)
      clear hb hP hPl hml HB14 HQ14
      go_wp2_with fail
      refine (fask_no HP.out.b (a := 1) (b := 1) (by decide)).mono ?_
      rintro e w16 ⟨rfl, hb⟩
      have HPn := hidIn (HP.out.below hb HP.out.b.lt HP.out.m.lt)
      have HB16 := hidIn (HB15.out.trans (hb.mono HQ15.out))
      have HQ16 : Hid (q ≤ w16.heap.size) := hidIn (Nat.le_trans HQ15.out hb.size)
      clear hb HB15 HQ15 HP
      have HP := HPn
      clear HPn
      go_wp2_with fail
      refine (fask_no HP.out.b (a := 0) (b := 1) (by decide)).mono ?_
      rintro e w17 ⟨rfl, hb⟩
      have HPn := hidIn (HP.out.below hb HP.out.b.lt HP.out.m.lt)
      have HB17 := hidIn (HB16.out.trans (hb.mono HQ16.out))
      have HQ17 : Hid (q ≤ w17.heap.size) := hidIn (Nat.le_trans HQ16.out hb.size)
      clear hb HB16 HQ16 HP
      have HP := HPn
      clear HPn
      go_wp2_with fail
      refine (fask_no HP.out.b (a := 1) (b := 25) (by decide)).mono ?_
      rintro e w18 ⟨rfl, hb⟩
      have HPn := hidIn (HP.out.below hb HP.out.b.lt HP.out.m.lt)
      have HB18 := hidIn (HB17.out.trans (hb.mono HQ17.out))
      have HQ18 : Hid (q ≤ w18.heap.size) := hidIn (Nat.le_trans HQ17.out hb.size)
      clear hb HB17 HQ17 HP
      have HP := HPn
      clear HPn
      obtain ⟨W19, hW19⟩ : ∃ W19, w18.alloc (.cells #[.int .i64 0, .int .i64 0, .int .i64 0] 38) = W19 := ⟨_, rfl⟩
      have hb : Below w18.heap.size w18 W19 := by rw [← hW19]; exact (Below.refl _ w18).alloc (Nat.le_refl _) _
      have HP19 := hidIn (HP.out.below hb HP.out.b.lt HP.out.m.lt)
      have HB19 := hidIn (HB18.out.trans (hb.mono HQ18.out))
      have HQ19 : Hid (q ≤ W19.heap.size) := hidIn (Nat.le_trans HQ18.out hb.size)
      have HW := hidIn hW19
      clear hb hW19 HP HB18 HQ18
      go_upto_region 24 with fail
      rw [HW.out]
      clear HW
      go_wp2_with fail
      refine (fask_nil W19).mono ?_
      rintro e w20 ⟨rfl, hb⟩
      obtain ⟨W21, hW21⟩ : ∃ W21, w20.alloc (.cells #[.int .i64 0, .int .i64 0, .int .i64 0] 38) = W21 := ⟨_, rfl⟩
      have hb2 : Below w20.heap.size w20 W21 := by rw [← hW21]; exact (Below.refl _ w20).alloc (Nat.le_refl _) _
      have HP20 := HP19.out.below hb HP19.out.b.lt HP19.out.m.lt
      have HP21 := hidIn (HP20.below hb2 HP20.b.lt HP20.m.lt)
      have HB20 := HB19.out.trans (hb.mono HQ19.out)
      have hq20 : q ≤ w20.heap.size := Nat.le_trans HQ19.out hb.size
      have HB21 := hidIn (HB20.trans (hb2.mono hq20))
      have HQ21 : Hid (q ≤ W21.heap.size) := hidIn (Nat.le_trans hq20 hb2.size)
      have HW := hidIn hW21
      clear hb hb2 hW21 HP20 HB20 hq20 HP19 HB19 HQ19
      go_upto_region 25 with fail
      rw [HW.out]
      clear HW
      go_wp2_with fail
      refine (fasked_no HP21.out.b (a := 1) (b := 25) (by decide)).mono ?_
      rintro e w1 ⟨rfl, hw1⟩
      rw [hw1]
      clear hw1 w1
      go_wp2_with fail
      refine (fasked_nil 1 2 W21).mono ?_
      rintro e w1 ⟨rfl, hw1⟩
      rw [hw1]
      clear hw1 w1
      go_wp2_with fail
      refine (fleft_nil W21).mono ?_
      rintro e w1 ⟨rfl, hw1⟩
      rw [hw1]
      clear hw1 w1
      go_wp2_with fail
      refine (fcopy_nil W21).mono ?_
      rintro e w1 ⟨rfl, hw1⟩
      rw [hw1]
      clear hw1 w1
      go_wp2_with fail
      refine (fworks_any W21).mono ?_
      rintro e w22 ⟨rfl, hb⟩
      have HB22 := hidIn (HB21.out.trans (hb.mono HQ21.out))
      clear hb
      go_wp2_with fail
      go_returns
      exact ⟨rfl, HB22.out⟩
end Go.Proofs.Ytkkgbcoclfpicaa.Fa
