/- ClaimKnown. -/
import Derived.Test.YtnhlonapbohaeabU9
import Derived.Test.YtnhlonapbohaeabUM
import Derived.Test.YtnhlonapbohaeabUI
import Derived.Test.YtnhlonapbohaeabUF
namespace Go.Proofs.Ytnhlonapbohaeab
open Go.RowKit

abbrev withR (l : List Rc) : List (Rc × Value) := l.map fun r => (r, nilS)
abbrev kT : List (Int × List Int) := [(5, [1, 3]), (7, [2]), (8, [])]
theorem ints_blk {w : World} {b : Nat} {l : List Int} (h : w.heap[b]? = some (.cells (fl ic l).toArray 3)) (hn : l.length ≤ 1000) : SlAt ic 1 w (.slice (some ⟨b, 0, none⟩) l.length l.length) l := by
  refine slAt_of_row (cs := ic) (sz := 1) (base := 0) (k := l.length) (e := 3) (fun _ => rfl) ⟨fl_length (sz := 1) (cs := ic) (fun _ => rfl) l, .inr ⟨b, l.length, _, rfl, Nat.zero_le _, h, Nat.le_refl _, by unfold maxLen; omega, by simp [fl_length (sz := 1) (cs := ic) (fun _ => rfl)], ?_⟩⟩ rfl
  simp only
  rw [List.take_of_length_le]
  rw [fl_length (sz := 1) (cs := ic) (fun _ => rfl)]
  exact Nat.le_refl _
theorem kn_ids : idsT kT (rsL [2, 1, 2, 9]) = [7] ∧ wioT kT (rsL [2, 1, 2, 9]) = [1, 9] := by
  have h : rsL [2, 1, 2, 9] = [1, 2, 9] := crise_ext (rsL_ok _).1 (by decide) (fun x => by rw [(rsL_ok _).2]; simp only [List.mem_cons, List.not_mem_nil, or_false]; constructor <;> intro h <;> omega)
  rw [h]
  refine ⟨?_, by decide⟩
  unfold idsT
  rw [show ([1, 2, 9] : List Int).flatMap (frI kT) = [7] by decide]
  exact rsL_of (by decide)
theorem kn_mine : lstT kT 2 = some (7, [2]) ∧ lstT kT 1 = some (5, [1, 3]) ∧ lstT kT 99 = none := ⟨by decide, by decide, by decide⟩
theorem kn_own : tOf kT 9 = none ∧ tOf kT 8 = some (8, []) := ⟨by decide, by decide⟩
theorem kn_all : bothOk no1 [smR 1 5, smR 1 6] = false ∧ bothOk no1 [smR 0 1] = false ∧ bothOk no1 [] = true := ⟨by decide, by decide, by decide⟩
theorem kn_none : allC [] = [] := by
  have h : idsL [] = [] := crise_ext (idsL_rise _) (by simp) (fun x => by rw [mem_idsL]; simp [gat])
  unfold allC
  rw [h]
  rfl
theorem nilT (w : World) : TAt w nilS [] := ⟨[], ⟨slAt_of_row (cs := clc) (fun _ => rfl) (World.ownsRow_nil w 0 24 2) rfl, fun _ hx => absurd hx List.not_mem_nil⟩, rfl⟩
set_option maxRecDepth 100000 in
set_option maxHeartbeats 8000000 in
theorem claimKnown_walk (w : World) : Calls Try.prog 3 #[] w fun e w' => e = .returned (.bool true) ∧ Below w.heap.size w w' := by
  obtain ⟨W1, hW1⟩ : ∃ W1, w.alloc (.cells #[.int .i64 1, .int .i64 3] 3) = W1 := ⟨_, rfl⟩
  obtain ⟨W2, hW2⟩ : ∃ W2, W1.alloc (.cells #[.int .i64 2] 3) = W2 := ⟨_, rfl⟩
  have b1 : Below w.heap.size w W1 := by rw [← hW1]; exact (Below.refl _ w).alloc (Nat.le_refl _) _
  have b2 : Below W1.heap.size W1 W2 := by rw [← hW2]; exact (Below.refl _ W1).alloc (Nat.le_refl _) _
  have hX1 : W1.heap[w.heap.size]? = some (.cells #[.int .i64 1, .int .i64 3] 3) := by rw [← hW1]; exact heap_alloc_last w _
  have hX2 : W2.heap[W1.heap.size]? = some (.cells #[.int .i64 2] 3) := by rw [← hW2]; exact heap_alloc_last W1 _
  obtain ⟨bb1, hbb1⟩ : ∃ bb1, w.heap.size = bb1 := ⟨_, rfl⟩
  have hbb2 : W1.heap.size = bb1 + 1 := by rw [← hW1, World.size_alloc, hbb1]
  rw [hbb1] at hX1
  rw [hbb2] at hX2
  obtain ⟨W3, hW3⟩ : ∃ W3, W2.alloc (.cells #[.int .i64 5, .slice (some ⟨bb1, 0, none⟩) 2 2, .int .i64 7, .slice (some ⟨bb1 + 1, 0, none⟩) 1 1, .int .i64 8, .slice none 0 0] 24) = W3 := ⟨_, rfl⟩
  have b3 : Below W2.heap.size W2 W3 := by rw [← hW3]; exact (Below.refl _ W2).alloc (Nat.le_refl _) _
  have hX3 : W3.heap[W2.heap.size]? = some (.cells (fl clc [(5, [1, 3], .slice (some ⟨bb1, 0, none⟩) 2 2), (7, [2], .slice (some ⟨bb1 + 1, 0, none⟩) 1 1), (8, [], .slice none 0 0)]).toArray 24) := by rw [← hW3]; exact heap_alloc_last W2 _
  have hs1 : SlAt ic 1 W1 (.slice (some ⟨bb1, 0, none⟩) 2 2) [1, 3] := ints_blk (l := [1, 3]) hX1 (by decide)
  have hs2 : SlAt ic 1 W2 (.slice (some ⟨bb1 + 1, 0, none⟩) 1 1) [2] := ints_blk (l := [2]) hX2 (by decide)
  have hbb3 : W2.heap.size = bb1 + 1 + 1 := by rw [← hW2, World.size_alloc, hbb2]
  rw [hbb3] at hX3
  have HT0 : Hid (TAt W3 (.slice (some ⟨bb1 + 1 + 1, 0, none⟩) 3 3) kT) := hidIn (by
    refine ⟨[(5, [1, 3], .slice (some ⟨bb1, 0, none⟩) 2 2), (7, [2], .slice (some ⟨bb1 + 1, 0, none⟩) 1 1), (8, [], .slice none 0 0)], ⟨?_, fun x hx => ?_⟩, rfl⟩
    · refine slAt_of_row (cs := clc) (sz := 2) (base := 0) (k := 3) (e := 24) (fun _ => rfl) ⟨rfl, .inr ⟨bb1 + 1 + 1, 3, _, rfl, Nat.zero_le _, hX3, Nat.le_refl _, by unfold maxLen; omega, rfl, rfl⟩⟩ rfl
    · simp only [List.mem_cons, List.not_mem_nil, or_false] at hx
      rcases hx with rfl | rfl | rfl
      · exact ⟨(hs1.keep b2 (Nat.le_refl _)).keep b3 (Nat.le_refl _), .inl ⟨_, _, _, rfl⟩⟩
      · exact ⟨hs2.keep b3 (Nat.le_refl _), .inl ⟨_, _, _, rfl⟩⟩
      · exact ⟨slAt_of_row (cs := ic) (fun _ => rfl) (World.ownsRow_nil W3 0 3 1) rfl, .inr rfl⟩)
  have HB0 : Hid (Below w.heap.size w W3) := hidIn ((b1.trans (b2.mono b1.size)).trans (b3.mono (Nat.le_trans b1.size b2.size)))
  have HW1 := hidIn hW1
  have HW2 := hidIn hW2
  have HW3 := hidIn hW3
  clear hX1 hX2 hX3 b1 b2 b3 hs1 hs2 hW1 hW2 hW3
  go_enter Try.func3, Try.ntmps3
  go_upto_region 2 with fail
  rw [HW1.out, HW2.out, HW3.out]
  clear HW1 HW2 HW3 hbb1 hbb2 hbb3
  obtain ⟨B, hB⟩ : ∃ B, bb1 + 1 + 1 = B := ⟨_, rfl⟩
  rw [hB] at HT0 ⊢
  clear hB
  go_wp2_with fail
  refine (owner_T 9 HT0.out (by decide)).mono ?_
  rintro e w1 ⟨h, hb⟩
  rcases h with ⟨h, _⟩ | ⟨_, _, f9, rfl, _, hx⟩ | ⟨_, p, hp, _⟩
  · exact absurd ⟨by decide, by decide⟩ h
  rotate_left
  · rw [kn_own.1] at hp
    cases hp
  have HT1 := hidIn (HT0.out.keep hb)
  have HB1 := hidIn (HB0.out.trans (hb.mono HB0.out.size))
  have HX1 := hidIn hx
  clear hx
  clear hb HT0 HB0 
  go_wp2_with fail
  refine (owner_T 0 HT1.out (by decide)).mono ?_
  rintro e w2 ⟨h, hb⟩
  rcases h with ⟨_, f0, rfl, _, hx⟩ | ⟨h, _⟩ | ⟨h, _⟩
  rotate_left
  · exact absurd h (by decide)
  · exact absurd h (by decide)
  have HT2 := hidIn (HT1.out.keep hb)
  have HB2 := hidIn (HB1.out.trans (hb.mono HB1.out.size))
  have HX2 := hidIn ((hb.block _ (block_lt HX1.out)).trans HX1.out)
  have HY2 := hidIn hx
  clear hx
  clear hb HT1 HB1 HX1
  go_wp2_with fail
  refine (owner_T 8 HT2.out (by decide)).mono ?_
  rintro e w3 ⟨h, hb⟩
  rcases h with ⟨h, _⟩ | ⟨_, hp, _⟩ | ⟨_, p, hp, h⟩
  · exact absurd ⟨by decide, by decide⟩ h
  · rw [kn_own.2] at hp
    cases hp
  obtain rfl : p = (8, []) := by rw [kn_own.2] at hp; exact (Option.some.inj hp).symm
  clear hp
  rcases h with ⟨_, f8, rfl, _, hx⟩ | ⟨x, hx, _⟩ | ⟨h, _⟩
  rotate_left
  · cases hx
  · simp at h
  have HT3 := hidIn (HT2.out.keep hb)
  have HB3 := hidIn (HB2.out.trans (hb.mono HB2.out.size))
  have HX3 := hidIn ((hb.block _ (block_lt HX2.out)).trans HX2.out)
  have HY3 := hidIn ((hb.block _ (block_lt HY2.out)).trans HY2.out)
  have HZ3 := hidIn hx
  clear hx
  clear hb HT2 HB2 HX2 HY2
  go_wp2_with fail
  refine (isF_any HX3.out 6).mono ?_
  rintro e w4 ⟨rfl, hb⟩
  have HT4 := hidIn (HT3.out.keep hb)
  have HB4 := hidIn (HB3.out.trans (hb.mono HB3.out.size))
  have HX4 := hidIn ((hb.block _ (block_lt HX3.out)).trans HX3.out)
  have HY4 := hidIn ((hb.block _ (block_lt HY3.out)).trans HY3.out)
  have HZ4 := hidIn ((hb.block _ (block_lt HZ3.out)).trans HZ3.out)
  clear hb HT3 HB3 HX3 HY3 HZ3
  go_wp2_with fail
  refine (isF_any HY4.out 2).mono ?_
  rintro e w5 ⟨rfl, hb⟩
  have HT5 := hidIn (HT4.out.keep hb)
  have HB5 := hidIn (HB4.out.trans (hb.mono HB4.out.size))
  have HX5 := hidIn ((hb.block _ (block_lt HX4.out)).trans HX4.out)
  have HY5 := hidIn ((hb.block _ (block_lt HY4.out)).trans HY4.out)
  have HZ5 := hidIn ((hb.block _ (block_lt HZ4.out)).trans HZ4.out)
  clear hb HT4 HB4 HX4 HY4 HZ4
  go_wp2_with fail
  refine (isF_any HZ5.out 6).mono ?_
  rintro e w6 ⟨rfl, hb⟩
  have HT6 := hidIn (HT5.out.keep hb)
  have HB6 := hidIn (HB5.out.trans (hb.mono HB5.out.size))
  have HX6 := hidIn ((hb.block _ (block_lt HX5.out)).trans HX5.out)
  have HY6 := hidIn ((hb.block _ (block_lt HY5.out)).trans HY5.out)
  have HZ6 := hidIn ((hb.block _ (block_lt HZ5.out)).trans HZ5.out)
  clear hb HT5 HB5 HX5 HY5 HZ5
  go_wp2_with fail
  refine (isF_any HX6.out 11).mono ?_
  rintro e w7 ⟨rfl, hb⟩
  have HT7 := hidIn (HT6.out.keep hb)
  have HB7 := hidIn (HB6.out.trans (hb.mono HB6.out.size))
  have HX7 := hidIn ((hb.block _ (block_lt HX6.out)).trans HX6.out)
  have HY7 := hidIn ((hb.block _ (block_lt HY6.out)).trans HY6.out)
  have HZ7 := hidIn ((hb.block _ (block_lt HZ6.out)).trans HZ6.out)
  clear hb HT6 HB6 HX6 HY6 HZ6
  clear HX7 HY7 HZ7
  go_wp2_with fail
  refine (mine_T 2 HT7.out (by decide)).mono ?_
  rintro e w8 ⟨h, hb⟩
  rcases h with ⟨h, _⟩ | ⟨p, x, hp, _, rfl⟩ | ⟨p, hp, h, _⟩
  · rw [kn_mine.1] at h
    cases h
  rotate_left
  · rw [kn_mine.1] at hp
    cases hp
    simp at h
  obtain rfl : p = (7, [2]) := by rw [kn_mine.1] at hp; exact (Option.some.inj hp).symm
  clear hp
  have HT8 := hidIn (HT7.out.keep hb)
  have HB8 := hidIn (HB7.out.trans (hb.mono HB7.out.size))
  clear hb HT7 HB7 
  go_wp2_with fail
  refine (mine_T 1 HT8.out (by decide)).mono ?_
  rintro e w9 ⟨h, hb⟩
  rcases h with ⟨h, _⟩ | ⟨p, x, hp, hx, _⟩ | ⟨p, hp, _, cc, uu, rfl, _⟩
  · rw [kn_mine.2.1] at h
    cases h
  · rw [kn_mine.2.1] at hp
    cases hp
    simp at hx
  clear hp
  have HT9 := hidIn (HT8.out.keep hb)
  have HB9 := hidIn (HB8.out.trans (hb.mono HB8.out.size))
  clear hb HT8 HB8 
  go_wp2_with fail
  refine (mine_T 99 HT9.out (by decide)).mono ?_
  rintro e w10 ⟨h, hb⟩
  rcases h with ⟨_, rfl⟩ | ⟨p, x, hp, _⟩ | ⟨p, hp, _⟩
  rotate_left
  · rw [kn_mine.2.2] at hp
    cases hp
  · rw [kn_mine.2.2] at hp
    cases hp
  have HT10 := hidIn (HT9.out.keep hb)
  have HB10 := hidIn (HB9.out.trans (hb.mono HB9.out.size))
  clear hb HT9 HB9 
  have nR := neqR
  have nN := neqN
  go_wp2_with fail
  refine (isC_any cc 11 _).mono ?_
  rintro e w11 ⟨rfl, hb⟩
  have HT11 := hidIn (HT10.out.keep hb)
  have HB11 := hidIn (HB10.out.trans (hb.mono HB10.out.size))
  clear hb HT10 HB10 
  clear nR nN
  obtain ⟨WI, hWI⟩ : ∃ WI, w11.alloc (.cells #[.int .i64 2, .int .i64 1, .int .i64 2, .int .i64 9] 3) = WI := ⟨_, rfl⟩
  have hb : Below w11.heap.size w11 WI := by rw [← hWI]; exact (Below.refl _ _).alloc (Nat.le_refl _) _
  have hXI : WI.heap[w11.heap.size]? = some (.cells #[.int .i64 2, .int .i64 1, .int .i64 2, .int .i64 9] 3) := by rw [← hWI]; exact heap_alloc_last _ _
  have HSI := hidIn (ints_blk (l := [2, 1, 2, 9]) hXI (by decide))
  have HTI := hidIn (HT11.out.keep hb)
  have HBI := hidIn (HB11.out.trans (hb.mono HB11.out.size))
  have HWI := hidIn hWI
  clear hb hXI hWI HT11 HB11
  have HId := hidIn (ids_T HTI.out (by decide) (by decide) HSI.out (.inl ⟨_, _, _, rfl⟩) (by decide) (by decide))
  simp only [List.length_cons, List.length_nil, Nat.zero_add, Nat.reduceAdd] at HId
  go_wp2_with fail
  rw [HWI.out]
  refine HId.out.mono ?_
  rintro e wj ⟨h, hb⟩
  obtain ⟨u1, u2, rfl, hu1, hu2⟩ := h
  rw [kn_ids.1] at hu1
  rw [kn_ids.2] at hu2
  have HBJ := hidIn (HBI.out.trans (hb.mono HBI.out.size))
  obtain ⟨a1, c1, rfl, _, _, g1⟩ := (slAt_of_row (cs := ic) (fun _ => rfl) hu1 rfl).ints
  obtain ⟨a2, c2, rfl, _, _, g2⟩ := (slAt_of_row (cs := ic) (fun _ => rfl) hu2 rfl).ints
  obtain ⟨d1, o1, rfl, _, s1⟩ := g1 (by simp)
  obtain ⟨d2, o2, rfl, _, s2⟩ := g2 (by simp)
  have t1 := s1 0 7 rfl
  have t2 := s2 0 1 rfl
  have t3 := s2 1 9 rfl
  simp only [Nat.add_zero] at t1 t2 t3
  simp only [List.length_cons, List.length_nil, Nat.zero_add, Nat.reduceAdd]
  clear hb hu1 hu2 g1 g2 s1 s2 HId HSI HTI HBI HWI
  go_wp2_with fail
  refine (small_any 1 5 _).mono ?_
  rintro e x1 ⟨rfl, hb⟩
  have HBx1 := hidIn (HBJ.out.trans (hb.mono HBJ.out.size))
  clear hb HBJ t1 t2 t3
  go_wp2_with fail
  refine (small_any 1 6 _).mono ?_
  rintro e x2 ⟨rfl, hb⟩
  have HBx2 := hidIn (HBx1.out.trans (hb.mono HBx1.out.size))
  clear hb HBx1
  obtain ⟨Y1, hY1⟩ : ∃ Y1, x2.alloc (.cells (fl rcc (withR [smR 1 5, smR 1 6])).toArray 39) = Y1 := ⟨_, rfl⟩
  have hXY : Y1.heap[x2.heap.size]? = some (.cells (fl rcc (withR [smR 1 5, smR 1 6])).toArray 39) := by rw [← hY1]; exact heap_alloc_last _ _
  have HBY1 : Hid (Below w.heap.size w Y1) := hidIn (by rw [← hY1]; exact HBx2.out.alloc HBx2.out.size _)
  have HAl1 := hidIn (all_any (recs_blk hXY (by decide) (fun x hx => by
    obtain ⟨r, hr, rfl⟩ := List.mem_map.1 hx
    simp only [List.mem_cons, List.not_mem_nil, or_false] at hr
    rcases hr with rfl | rfl <;> exact nilAdj _)) (by decide))
  have HY1 : Hid (x2.alloc (.cells #[.int .i64 1, .int .u32 1, .int .u32 1, .int .i64 5, .bool false, .slice none 0 0, .int .i64 1, .int .u32 1, .int .u32 1, .int .i64 6, .bool false, .slice none 0 0] 39) = Y1) := hidIn hY1
  clear hXY hY1 HBx2
  go_wp2_with fail
  rw [HY1.out]
  refine HAl1.out.mono ?_
  rintro e z1 ⟨h, hb⟩
  rcases h with ⟨h, _⟩ | ⟨_, rfl⟩
  · rw [show rcs (withR [smR 1 5, smR 1 6]) = [smR 1 5, smR 1 6] from rfl, kn_all.1] at h
    cases h
  have HBz1 := hidIn (HBY1.out.trans (hb.mono HBY1.out.size))
  clear hb HAl1 HY1 HBY1
  go_wp2_with fail
  refine (small_any 0 1 _).mono ?_
  rintro e x3 ⟨rfl, hb⟩
  have HBx3 := hidIn (HBz1.out.trans (hb.mono HBz1.out.size))
  clear hb HBz1
  obtain ⟨Y2, hY2⟩ : ∃ Y2, x3.alloc (.cells (fl rcc (withR [smR 0 1])).toArray 39) = Y2 := ⟨_, rfl⟩
  have hXY : Y2.heap[x3.heap.size]? = some (.cells (fl rcc (withR [smR 0 1])).toArray 39) := by rw [← hY2]; exact heap_alloc_last _ _
  have HBY2 : Hid (Below w.heap.size w Y2) := hidIn (by rw [← hY2]; exact HBx3.out.alloc HBx3.out.size _)
  have HAl2 := hidIn (all_any (recs_blk hXY (by decide) (fun x hx => by
    obtain ⟨r, hr, rfl⟩ := List.mem_map.1 hx
    simp only [List.mem_cons, List.not_mem_nil, or_false] at hr
    rcases hr with rfl <;> exact nilAdj _)) (by decide))
  have HY2 : Hid (x3.alloc (.cells #[.int .i64 0, .int .u32 1, .int .u32 1, .int .i64 1, .bool false, .slice none 0 0] 39) = Y2) := hidIn hY2
  clear hXY hY2 HBx3
  go_wp2_with fail
  rw [HY2.out]
  refine HAl2.out.mono ?_
  rintro e z2 ⟨h, hb⟩
  rcases h with ⟨h, _⟩ | ⟨_, rfl⟩
  · rw [show rcs (withR [smR 0 1]) = [smR 0 1] from rfl, kn_all.2.1] at h
    cases h
  have HBz2 := hidIn (HBY2.out.trans (hb.mono HBY2.out.size))
  clear hb HAl2 HY2 HBY2
  have HAl3 := hidIn (all_any (l := []) (v := nilS) (w := z2) ⟨slAt_of_row (cs := rcc) (fun _ => rfl) (World.ownsRow_nil z2 0 39 6) rfl, fun x hx => absurd hx List.not_mem_nil⟩ (by decide))
  go_wp2_with fail
  refine HAl3.out.mono ?_
  rintro e z3 ⟨h, hb⟩
  rcases h with ⟨_, u, rfl, hu⟩ | ⟨h, _⟩
  rotate_left
  · rw [show rcs [] = [] from rfl, kn_all.2.2] at h
    cases h
  rw [show rcs [] = [] from rfl, kn_none] at hu
  obtain ⟨ua, uc, rfl⟩ := TAt.shape (T := []) hu.at
  have HBz3 := hidIn (HBz2.out.trans (hb.mono HBz2.out.size))
  have HFr := hidIn (free_T (nilT z3) (by decide))
  simp only [List.length_nil]
  clear hb hu HAl3 HBz2
  go_wp2_with fail
  refine HFr.out.mono ?_
  rintro e z4 ⟨⟨fa, fc, rfl, _⟩, hb⟩
  have HBz4 := hidIn (HBz3.out.trans (hb.mono HBz3.out.size))
  rw [show (freeT []).length = 0 from rfl]
  clear hb HFr HBz3
  go_wp2_with fail
  refine (cworks_any _).mono ?_
  rintro e z5 ⟨rfl, hb⟩
  have HBz5 := hidIn (HBz4.out.trans (hb.mono HBz4.out.size))
  clear hb HBz4
  go_wp2_with fail
  go_ret
  exact ⟨rfl, HBz5.out⟩
end Go.Proofs.Ytnhlonapbohaeab
