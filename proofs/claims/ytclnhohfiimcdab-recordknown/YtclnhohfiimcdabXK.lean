/- RecordKnown. -/
import Derived.Test.YtclnhohfiimcdabXK0
import Derived.Deep.RegionHeld3
namespace Go.Proofs.Ytclnhohfiimcdab
open Go.RowKit

theorem known_es1 : esA 3 1 1 = (⟨#[3, 0, 0, 0, 1, 0, 0, 0, 1]⟩, 0) := by decide
theorem known_es01 : esA 0 1 1 = (⟨#[]⟩, 2) := by decide
theorem known_ds01 : dsA ⟨#[3, 0, 0, 0, 0, 0, 0, 0, 1]⟩ = ((0, 0, 0), 4) := by decide
def z17 : List Value := fl ac (List.replicate 17 (0, 0))
theorem make_17 (w : World) : (Instr.makeSlice 28 (.int .i64 17) (.int .i64 17)).run Try.prog w = .ok (.slice (some ⟨w.heap.size, 0, none⟩) 17 17) (w.alloc (.cells z17.toArray 35)) := by kernel_rfl
set_option maxRecDepth 100000 in
set_option maxHeartbeats 4000000 in
theorem recordKnown_walk (w : World) : Calls Try.prog 4 #[] w fun e w' => e = .returned (.bool true) ∧ Below w.heap.size w w' := by
  have HBw : Hid (Below w.heap.size w w) := hidIn (Below.refl _ w)
  go_enter Try.func4, Try.ntmps4
  go_wp2_with fail
  refine (decode_no _ (by decide) (by decide) _).mono ?_
  rintro e w2 ⟨⟨aw2, pw2, rfl⟩, hb⟩
  have HBw2 := hidIn (HBw.out.trans (hb.mono HBw.out.size))
  clear hb HBw
  go_upto_region 2 with fail
  generalize hG : World.alloc w2 _ = V2
  have HBV2 : Hid (Below w.heap.size w V2) := hidIn (by rw [← hG]; exact HBw2.out.trans (((Below.refl _ w2).alloc (Nat.le_refl _) _).mono HBw2.out.size))
  clear hG HBw2
  go_wp2_with fail
  refine (decode_no _ (by decide) (by decide) _).mono ?_
  rintro e w3 ⟨⟨aw3, pw3, rfl⟩, hb⟩
  have HBw3 := hidIn (HBV2.out.trans (hb.mono HBV2.out.size))
  clear hb HBV2
  go_upto_region 3 with fail
  generalize hG : World.alloc w3 _ = V3
  have HBV3 : Hid (Below w.heap.size w V3) := hidIn (by rw [← hG]; exact HBw3.out.trans (((Below.refl _ w3).alloc (Nat.le_refl _) _).mono HBw3.out.size))
  clear hG HBw3
  go_cut [6] (fun x wx => x = .int .i64 4 ∧ Hid (Below w.heap.size w wx))
  case first =>
    refine wp_region_held_drew (S := fun _ => True) (by kernel_rfl) trivial (fun hHeld => ?_)
    have HBD := hidIn HBV3.out.drew
    generalize V3.drew = WD at HBD ⊢
    refine wpAnyH_take (i := 0) (v := ?_) rfl (by kernel_rfl) (by kernel_rfl) (by kernel_rfl) (fun _ _ _ h => h) (Or.inl ⟨by rfl, ?_⟩) (by assumption) ?_
    rotate_left
    · intro wq hSw
      clear hSw
      go_simp
      try rfl
    refine wpAnyH_take (i := 1) (v := ?_) rfl (by kernel_rfl) (by kernel_rfl) (by kernel_rfl) (fun _ _ _ h => h) (Or.inl ⟨by rfl, ?_⟩) (by assumption) ?_
    rotate_left
    · intro wq hSw
      clear hSw
      go_simp
      try rfl
    refine wpAnyH_take (i := 2) (v := ?_) rfl (by kernel_rfl) (by kernel_rfl) (by kernel_rfl) (fun _ _ _ h => h) (Or.inl ⟨by rfl, ?_⟩) (by assumption) ?_
    rotate_left
    · intro wq hSw
      clear hSw
      go_simp
      try rfl
    refine wpAnyH_take (i := 3) (v := ?_) rfl (by kernel_rfl) (by kernel_rfl) (by kernel_rfl) (fun _ _ _ h => h) (Or.inl ⟨by rfl, ?_⟩) (by assumption) ?_
    rotate_left
    · intro wq hSw
      clear hSw
      go_simp
      try rfl
    refine wpAnyH_ready (rs := [4, 8]) (by kernel_rfl) (by simp) ?_
    refine AllReadyH.cons rfl (fun K hK => ?_) (AllReadyH.cons rfl (fun K hK => ?_) AllReadyH.nil)
    · go_simp
      refine (decode_no _ (by decide) (by decide) _).mono ?_
      rintro e w5 ⟨⟨a5, p5, rfl⟩, hb⟩
      have HB5 := hidIn (HBD.out.trans (hb.mono HBD.out.size))
      clear hb
      refine hK.out _ _ trivial (fun _ => ?_)
      clear hK K
      refine wpAnyH_take (i := 5) (v := ?_) rfl (by kernel_rfl) (by kernel_rfl) (by kernel_rfl) (fun _ _ _ h => h) (Or.inl ⟨by rfl, ?_⟩) (by assumption) ?_
      rotate_left
      · intro wq hSw
        clear hSw
        go_simp
        try rfl
      refine wpAnyH_take (i := 6) (v := ?_) rfl (by kernel_rfl) (by kernel_rfl) (by kernel_rfl) (fun _ _ _ h => h) (Or.inl ⟨by rfl, ?_⟩) (by assumption) ?_
      rotate_left
      · intro wq hSw
        clear hSw
        go_simp
        try rfl
      refine wpAnyH_take (i := 7) (v := ?_) rfl (by kernel_rfl) (by kernel_rfl) (by kernel_rfl) (fun _ _ _ h => h) (Or.inl ⟨by rfl, ?_⟩) (by assumption) ?_
      rotate_left
      · intro wq hSw
        clear hSw
        go_simp
        try rfl
      refine wpAnyH_ready (rs := [8]) (by kernel_rfl) (by simp) ?_
      refine AllReadyH.cons rfl (fun K hK => ?_) AllReadyH.nil
      go_simp
      refine hK.out _ _ trivial (fun _ => ?_)
      clear hK K
      refine wpAnyH_ready (rs := [9]) (by kernel_rfl) (by simp) ?_
      refine AllReadyH.cons rfl (fun K hK => ?_) AllReadyH.nil
      go_simp
      refine hK.out _ _ trivial (fun _ => ?_)
      clear hK K
      refine wpAnyH_ready (rs := [10]) (by kernel_rfl) (by simp) ?_
      refine AllReadyH.cons rfl (fun K hK => ?_) AllReadyH.nil
      go_simp
      refine hK.out _ _ trivial (fun _ => ?_)
      clear hK K
      refine wpAnyH_done (by kernel_rfl) ?_ _
      go_wp2_with fail
      go_meet
      exact ⟨rfl, hidIn (HB5.out.alloc HB5.out.size _)⟩
    · go_simp
      obtain ⟨V, hV⟩ : ∃ V, WD.alloc zeroO = V := ⟨_, rfl⟩
      rw [show World.alloc _ _ = V from hV]
      have hX : V.heap[WD.heap.size]? = some zeroO := by rw [← hV]; exact heap_alloc_last WD _
      have bV : Below w.heap.size w V := by rw [← hV]; exact HBD.out.alloc HBD.out.size _
      clear hV
      refine hK.out _ _ trivial (fun _ => ?_)
      clear hK K
      refine wpAnyH_ready (rs := [4]) (by kernel_rfl) (by simp) ?_
      refine AllReadyH.cons rfl (fun K hK => ?_) AllReadyH.nil
      go_simp
      refine (decode_no _ (by decide) (by decide) _).mono ?_
      rintro e w5 ⟨⟨a5, p5, rfl⟩, hb⟩
      have hX5 := (hb.block _ (block_lt hX)).trans hX
      have HB5 := hidIn (bV.trans (hb.mono bV.size))
      clear hb hX
      refine hK.out _ _ trivial (fun _ => ?_)
      clear hK K
      refine wpAnyH_take (i := 5) (v := ?_) rfl (by kernel_rfl) (by kernel_rfl) (by kernel_rfl) (fun _ _ _ h => h) (Or.inl ⟨by rfl, ?_⟩) (by assumption) ?_
      rotate_left
      · intro wq hSw
        clear hSw
        go_simp
        try rfl
      refine wpAnyH_take (i := 6) (v := ?_) rfl (by kernel_rfl) (by kernel_rfl) (by kernel_rfl) (fun _ _ _ h => h) (Or.inl ⟨by rfl, ?_⟩) (by assumption) ?_
      rotate_left
      · intro wq hSw
        clear hSw
        go_simp
        try rfl
      refine wpAnyH_take (i := 7) (v := ?_) rfl (by kernel_rfl) (by kernel_rfl) (by kernel_rfl) (fun _ _ _ h => h) (Or.inl ⟨by rfl, ?_⟩) (by assumption) ?_
      rotate_left
      · intro wq hSw
        clear hSw
        go_simp
        try rfl
      have hle := HBD.out.size
      have y0 := cell_of_row _ _ 0 _ _ _ hX5
      have g0 := frozen_new hX5 0
      have y1 := cell_of_row _ _ 1 _ _ _ hX5
      have g1 := frozen_new hX5 1
      have y2 := cell_of_row _ _ 2 _ _ _ hX5
      have g2 := frozen_new hX5 2
      have y3 := cell_of_row _ _ 3 _ _ _ hX5
      have g3 := frozen_new hX5 3
      have y4 := cell_of_row _ _ 4 _ _ _ hX5
      have g4 := frozen_new hX5 4
      have y5 := cell_of_row _ _ 5 _ _ _ hX5
      have g5 := frozen_new hX5 5
      simp at y0 y1 y2 y3 y4 y5
      clear hX5
      refine wpAnyH_ready (rs := [9]) (by kernel_rfl) (by simp) ?_
      refine AllReadyH.cons rfl (fun K hK => ?_) AllReadyH.nil
      go_simp
      refine hK.out _ _ trivial (fun _ => ?_)
      clear hK K
      refine wpAnyH_ready (rs := [10]) (by kernel_rfl) (by simp) ?_
      refine AllReadyH.cons rfl (fun K hK => ?_) AllReadyH.nil
      go_simp
      refine hK.out _ _ trivial (fun _ => ?_)
      clear hK K
      refine wpAnyH_done (by kernel_rfl) ?_ _
      go_wp2_with fail
      go_meet
      exact ⟨rfl, hidIn ((((((HB5.out.setCell (p := ⟨WD.heap.size, 0, none⟩) hle _).setCell (p := ⟨WD.heap.size, 1, none⟩) hle _).setCell (p := ⟨WD.heap.size, 2, none⟩) hle _).setCell (p := ⟨WD.heap.size, 3, none⟩) hle _).setCell (p := ⟨WD.heap.size, 4, none⟩) hle _).setCell (p := ⟨WD.heap.size, 5, none⟩) hle _)⟩
  case rest =>
    obtain ⟨rfl, HBc⟩ := hcut
    go_wp2_with fail
    refine (decode_no _ (by decide) (by decide) _).mono ?_
    rintro e w6 ⟨⟨aw6, pw6, rfl⟩, hb⟩
    have HBw6 := hidIn (HBc.out.trans (hb.mono HBc.out.size))
    clear hb HBc
    go_upto_region 5 with fail
    generalize hG : World.alloc w6 _ = V6
    have HBV6 : Hid (Below w.heap.size w V6) := hidIn (by rw [← hG]; exact HBw6.out.trans (((Below.refl _ w6).alloc (Nat.le_refl _) _).mono HBw6.out.size))
    clear hG HBw6
    have hmk := make_17
    obtain ⟨V7, hV7⟩ : ∃ V7, V6.alloc (recO ⟨1, 1, 1, 0, false, []⟩ (.slice none 0 0)) = V7 := ⟨_, rfl⟩
    have h7 : V7.heap[V6.heap.size]? = some (recO ⟨1, 1, 1, 0, false, []⟩ (.slice none 0 0)) := by rw [← hV7]; exact heap_alloc_last V6 _
    have b7 : Below V6.heap.size V6 V7 := by rw [← hV7]; exact (Below.refl _ V6).alloc (Nat.le_refl _) _
    obtain ⟨A1, hA1⟩ : ∃ A1, V7.alloc (.cells #[.int .i64 3, .int .i64 1, .int .i64 2, .int .i64 1] 35) = A1 := ⟨_, rfl⟩
    have s1 : SlAt ac 2 A1 (.slice (some ⟨V7.heap.size, 0, none⟩) 2 2) [(3, 1), (2, 1)] := by rw [← hA1]; exact slAt_block (cs := ac) (sz := 2) (l := [(3, 1), (2, 1)]) (fun _ => rfl) (T := 35) (heap_alloc_last V7 _) (by decide)
    have b8 : Below V7.heap.size V7 A1 := by rw [← hA1]; exact (Below.refl _ V7).alloc (Nat.le_refl _) _
    obtain ⟨A2, hA2⟩ : ∃ A2, A1.alloc (.cells #[.int .i64 1, .int .i64 1] 35) = A2 := ⟨_, rfl⟩
    have s2 : SlAt ac 2 A2 (.slice (some ⟨A1.heap.size, 0, none⟩) 1 1) [(1, 1)] := by rw [← hA2]; exact slAt_block (cs := ac) (sz := 2) (l := [(1, 1)]) (fun _ => rfl) (T := 35) (heap_alloc_last A1 _) (by decide)
    have b9 : Below A1.heap.size A1 A2 := by rw [← hA2]; exact (Below.refl _ A1).alloc (Nat.le_refl _) _
    obtain ⟨A3, hA3⟩ : ∃ A3, A2.alloc (.cells z17.toArray 35) = A3 := ⟨_, rfl⟩
    have s3 : SlAt ac 2 A3 (.slice (some ⟨A2.heap.size, 0, none⟩) 17 17) (List.replicate 17 (0, 0)) := by rw [← hA3]; exact slAt_block (cs := ac) (sz := 2) (l := List.replicate 17 (0, 0)) (fun _ => rfl) (T := 35) (heap_alloc_last A2 _) (by decide)
    have b10 : Below A2.heap.size A2 A3 := by rw [← hA3]; exact (Below.refl _ A2).alloc (Nat.le_refl _) _
    obtain ⟨ob, hob⟩ : ∃ ob, V6.heap.size = ob := ⟨_, rfl⟩
    obtain ⟨ba, hba⟩ : ∃ ba, V7.heap.size = ba := ⟨_, rfl⟩
    have hbb : A1.heap.size = ba + 1 := by rw [← hA1, World.size_alloc, hba]
    have hbc : A2.heap.size = ba + 1 + 1 := by rw [← hA2, World.size_alloc, hbb]
    have hbd : A3.heap.size = ba + 1 + 1 + 1 := by rw [← hA3, World.size_alloc, hbc]
    obtain ⟨A4, hA4⟩ : ∃ A4, A3.alloc (.cells #[.int .i64 0, .int .u32 0, .int .u32 0, .int .i64 0, .bool false, .slice none 0 0, .int .i64 1, .int .u32 0, .int .u32 1, .int .i64 0, .bool false, .slice none 0 0, .int .i64 1, .int .u32 1, .int .u32 0, .int .i64 0, .bool false, .slice none 0 0, .int .i64 25, .int .u32 1, .int .u32 1, .int .i64 0, .bool false, .slice none 0 0, .int .i64 1, .int .u32 1, .int .u32 1, .int .i64 1025, .bool false, .slice none 0 0, .int .i64 1, .int .u32 1, .int .u32 1, .int .i64 (-1), .bool false, .slice none 0 0, .int .i64 1, .int .u32 1, .int .u32 1, .int .i64 0, .bool false, .slice (some ⟨ba, 0, none⟩) 2 2, .int .i64 1, .int .u32 1, .int .u32 1, .int .i64 0, .bool false, .slice (some ⟨ba + 1, 0, none⟩) 1 1, .int .i64 1, .int .u32 1, .int .u32 1, .int .i64 0, .bool false, .slice (some ⟨ba + 1 + 1, 0, none⟩) 17 17] 30) = A4 := ⟨_, rfl⟩
    have hQ : A4.heap[A3.heap.size]? = some (.cells #[.int .i64 0, .int .u32 0, .int .u32 0, .int .i64 0, .bool false, .slice none 0 0, .int .i64 1, .int .u32 0, .int .u32 1, .int .i64 0, .bool false, .slice none 0 0, .int .i64 1, .int .u32 1, .int .u32 0, .int .i64 0, .bool false, .slice none 0 0, .int .i64 25, .int .u32 1, .int .u32 1, .int .i64 0, .bool false, .slice none 0 0, .int .i64 1, .int .u32 1, .int .u32 1, .int .i64 1025, .bool false, .slice none 0 0, .int .i64 1, .int .u32 1, .int .u32 1, .int .i64 (-1), .bool false, .slice none 0 0, .int .i64 1, .int .u32 1, .int .u32 1, .int .i64 0, .bool false, .slice (some ⟨ba, 0, none⟩) 2 2, .int .i64 1, .int .u32 1, .int .u32 1, .int .i64 0, .bool false, .slice (some ⟨ba + 1, 0, none⟩) 1 1, .int .i64 1, .int .u32 1, .int .u32 1, .int .i64 0, .bool false, .slice (some ⟨ba + 1 + 1, 0, none⟩) 17 17] 30) := by rw [← hA4]; exact heap_alloc_last A3 _
    have b11 : Below A3.heap.size A3 A4 := by rw [← hA4]; exact (Below.refl _ A3).alloc (Nat.le_refl _) _
    have c10 := b10.trans (b11.mono b10.size)
    have c9 := b9.trans (c10.mono b9.size)
    have c8 := b8.trans (c9.mono b8.size)
    have c7 := b7.trans (c8.mono b7.size)
    have HBA := hidIn (HBV6.out.trans (c7.mono HBV6.out.size))
    rw [hob] at h7
    rw [hba] at s1
    rw [hbb] at s2
    rw [hbc] at s3
    rw [hbd] at hQ
    have HQ := hidIn (fun wq (h : Below A4.heap.size A4 wq) => (h.block _ (block_lt hQ)).trans hQ)
    have HO := hidIn (fun wq (h : Below A4.heap.size A4 wq) => (h.block _ (block_lt ((c8.block _ (block_lt h7)).trans h7))).trans ((c8.block _ (block_lt h7)).trans h7))
    have HSN : Hid (∀ wq, Below A4.heap.size A4 wq → SlAt ac 2 wq (.slice none 0 0) []) := hidIn fun wq _ => slAt_of_row (cs := ac) (sz := 2) (fun _ => rfl) (World.ownsRow_nil wq 0 35 2) rfl
    have HSA := hidIn (fun wq (h : Below A4.heap.size A4 wq) => (s1.keep c9 (Nat.le_refl _)).keep h (Nat.le_refl _))
    have HSB := hidIn (fun wq (h : Below A4.heap.size A4 wq) => (s2.keep c10 (Nat.le_refl _)).keep h (Nat.le_refl _))
    have HSC := hidIn (fun wq (h : Below A4.heap.size A4 wq) => (s3.keep b11 (Nat.le_refl _)).keep h (Nat.le_refl _))
    have HW := hidIn (And.intro (And.intro hV7 (And.intro hA1 hA2)) (And.intro hA3 hA4))
    have HN := hidIn (And.intro hob hba)
    clear hV7 hA1 hA2 hA3 hA4 hob hba hbb hbc hbd h7 s1 s2 s3 hQ b7 b8 b9 b10 b11 c7 c8 c9 c10 HBV6
    go_upto_region 6 with fail
    rw [show V6.alloc _ = V7 from HW.out.1.1, HN.out.1]
    go_upto_region 7 with fail
    rw [show V7.alloc _ = A1 from HW.out.1.2.1]
    rw [show A1.alloc _ = A2 from HW.out.1.2.2]
    rw [show A2.alloc _ = A3 from HW.out.2.1]
    rw [HN.out.2]
    rw [show A3.alloc _ = A4 from HW.out.2.2]
    clear HW HN hmk
    go_wp2_with fail
    go_loopw [11] (fun i wr => ∃ k : Nat, k ≤ 9 ∧ i = .int .i64 k ∧ Hid (Below A4.heap.size A4 wr)) (fun i _ => 9 - (intOf i).toNat)
    case atStart => exact ⟨0, by omega, rfl, hidIn (Below.refl _ _)⟩
    case round =>
      obtain ⟨k, hk, rfl, HR⟩ := hrel
      by_cases hlt : k < 9
      · have hq := HQ.out wr HR.out
        have hcs : k = 0 ∨ k = 1 ∨ k = 2 ∨ k = 3 ∨ k = 4 ∨ k = 5 ∨ k = 6 ∨ k = 7 ∨ k = 8 := by omega
        clear hk hlt
        rcases hcs with rfl | rfl | rfl | rfl | rfl | rfl | rfl | rfl | rfl
        · have z0 := cell_of_row _ _ 0 _ _ _ hq
          have z1 := cell_of_row _ _ 1 _ _ _ hq
          have z2 := cell_of_row _ _ 2 _ _ _ hq
          have z3 := cell_of_row _ _ 3 _ _ _ hq
          have z4 := cell_of_row _ _ 4 _ _ _ hq
          have z5 := cell_of_row _ _ 5 _ _ _ hq
          simp at z0 z1 z2 z3 z4 z5
          clear hq
          have HC := hidIn (rcheck_any (r := ⟨0, 0, 0, 0, false, []⟩) (va := .slice none 0 0) (w := wr) (HSN.out wr HR.out))
          rw [show ckN ⟨0, 0, 0, 0, false, []⟩ = 2 by decide] at HC
          go_wp2_with fail
          refine HC.out.mono ?_
          rintro e w9 ⟨rfl, hb9⟩
          have HR9 := hidIn (HR.out.trans (hb9.mono HR.out.size))
          clear hb9 z0 z1 z2 z3 z4 z5 HC
          go_wp2_with fail
          go_roundw
          case rel => exact ⟨1, by omega, by go_num, HR9⟩
          case measure => simp [intOf]
        · have z0 := cell_of_row _ _ 6 _ _ _ hq
          have z1 := cell_of_row _ _ 7 _ _ _ hq
          have z2 := cell_of_row _ _ 8 _ _ _ hq
          have z3 := cell_of_row _ _ 9 _ _ _ hq
          have z4 := cell_of_row _ _ 10 _ _ _ hq
          have z5 := cell_of_row _ _ 11 _ _ _ hq
          simp at z0 z1 z2 z3 z4 z5
          clear hq
          have HC := hidIn (rcheck_any (r := ⟨1, 0, 1, 0, false, []⟩) (va := .slice none 0 0) (w := wr) (HSN.out wr HR.out))
          rw [show ckN ⟨1, 0, 1, 0, false, []⟩ = 2 by decide] at HC
          go_wp2_with fail
          refine HC.out.mono ?_
          rintro e w9 ⟨rfl, hb9⟩
          have HR9 := hidIn (HR.out.trans (hb9.mono HR.out.size))
          clear hb9 z0 z1 z2 z3 z4 z5 HC
          go_wp2_with fail
          go_roundw
          case rel => exact ⟨2, by omega, by go_num, HR9⟩
          case measure => simp [intOf]
        · have z0 := cell_of_row _ _ 12 _ _ _ hq
          have z1 := cell_of_row _ _ 13 _ _ _ hq
          have z2 := cell_of_row _ _ 14 _ _ _ hq
          have z3 := cell_of_row _ _ 15 _ _ _ hq
          have z4 := cell_of_row _ _ 16 _ _ _ hq
          have z5 := cell_of_row _ _ 17 _ _ _ hq
          simp at z0 z1 z2 z3 z4 z5
          clear hq
          have HC := hidIn (rcheck_any (r := ⟨1, 1, 0, 0, false, []⟩) (va := .slice none 0 0) (w := wr) (HSN.out wr HR.out))
          rw [show ckN ⟨1, 1, 0, 0, false, []⟩ = 2 by decide] at HC
          go_wp2_with fail
          refine HC.out.mono ?_
          rintro e w9 ⟨rfl, hb9⟩
          have HR9 := hidIn (HR.out.trans (hb9.mono HR.out.size))
          clear hb9 z0 z1 z2 z3 z4 z5 HC
          go_wp2_with fail
          go_roundw
          case rel => exact ⟨3, by omega, by go_num, HR9⟩
          case measure => simp [intOf]
        · have z0 := cell_of_row _ _ 18 _ _ _ hq
          have z1 := cell_of_row _ _ 19 _ _ _ hq
          have z2 := cell_of_row _ _ 20 _ _ _ hq
          have z3 := cell_of_row _ _ 21 _ _ _ hq
          have z4 := cell_of_row _ _ 22 _ _ _ hq
          have z5 := cell_of_row _ _ 23 _ _ _ hq
          simp at z0 z1 z2 z3 z4 z5
          clear hq
          have HC := hidIn (rcheck_any (r := ⟨25, 1, 1, 0, false, []⟩) (va := .slice none 0 0) (w := wr) (HSN.out wr HR.out))
          rw [show ckN ⟨25, 1, 1, 0, false, []⟩ = 2 by decide] at HC
          go_wp2_with fail
          refine HC.out.mono ?_
          rintro e w9 ⟨rfl, hb9⟩
          have HR9 := hidIn (HR.out.trans (hb9.mono HR.out.size))
          clear hb9 z0 z1 z2 z3 z4 z5 HC
          go_wp2_with fail
          go_roundw
          case rel => exact ⟨4, by omega, by go_num, HR9⟩
          case measure => simp [intOf]
        · have z0 := cell_of_row _ _ 24 _ _ _ hq
          have z1 := cell_of_row _ _ 25 _ _ _ hq
          have z2 := cell_of_row _ _ 26 _ _ _ hq
          have z3 := cell_of_row _ _ 27 _ _ _ hq
          have z4 := cell_of_row _ _ 28 _ _ _ hq
          have z5 := cell_of_row _ _ 29 _ _ _ hq
          simp at z0 z1 z2 z3 z4 z5
          clear hq
          have HC := hidIn (rcheck_any (r := ⟨1, 1, 1, 1025, false, []⟩) (va := .slice none 0 0) (w := wr) (HSN.out wr HR.out))
          rw [show ckN ⟨1, 1, 1, 1025, false, []⟩ = 2 by decide] at HC
          go_wp2_with fail
          refine HC.out.mono ?_
          rintro e w9 ⟨rfl, hb9⟩
          have HR9 := hidIn (HR.out.trans (hb9.mono HR.out.size))
          clear hb9 z0 z1 z2 z3 z4 z5 HC
          go_wp2_with fail
          go_roundw
          case rel => exact ⟨5, by omega, by go_num, HR9⟩
          case measure => simp [intOf]
        · have z0 := cell_of_row _ _ 30 _ _ _ hq
          have z1 := cell_of_row _ _ 31 _ _ _ hq
          have z2 := cell_of_row _ _ 32 _ _ _ hq
          have z3 := cell_of_row _ _ 33 _ _ _ hq
          have z4 := cell_of_row _ _ 34 _ _ _ hq
          have z5 := cell_of_row _ _ 35 _ _ _ hq
          simp at z0 z1 z2 z3 z4 z5
          clear hq
          have HC := hidIn (rcheck_any (r := ⟨1, 1, 1, (-1), false, []⟩) (va := .slice none 0 0) (w := wr) (HSN.out wr HR.out))
          rw [show ckN ⟨1, 1, 1, (-1), false, []⟩ = 2 by decide] at HC
          go_wp2_with fail
          refine HC.out.mono ?_
          rintro e w9 ⟨rfl, hb9⟩
          have HR9 := hidIn (HR.out.trans (hb9.mono HR.out.size))
          clear hb9 z0 z1 z2 z3 z4 z5 HC
          go_wp2_with fail
          go_roundw
          case rel => exact ⟨6, by omega, by go_num, HR9⟩
          case measure => simp [intOf]
        · have z0 := cell_of_row _ _ 36 _ _ _ hq
          have z1 := cell_of_row _ _ 37 _ _ _ hq
          have z2 := cell_of_row _ _ 38 _ _ _ hq
          have z3 := cell_of_row _ _ 39 _ _ _ hq
          have z4 := cell_of_row _ _ 40 _ _ _ hq
          have z5 := cell_of_row _ _ 41 _ _ _ hq
          simp at z0 z1 z2 z3 z4 z5
          clear hq
          have HC := hidIn (rcheck_any (r := ⟨1, 1, 1, 0, false, [(3, 1), (2, 1)]⟩) (va := .slice (some ⟨ba, 0, none⟩) 2 2) (w := wr) (HSA.out wr HR.out))
          rw [show ckN ⟨1, 1, 1, 0, false, [(3, 1), (2, 1)]⟩ = 2 by decide] at HC
          go_wp2_with fail
          refine HC.out.mono ?_
          rintro e w9 ⟨rfl, hb9⟩
          have HR9 := hidIn (HR.out.trans (hb9.mono HR.out.size))
          clear hb9 z0 z1 z2 z3 z4 z5 HC
          go_wp2_with fail
          go_roundw
          case rel => exact ⟨7, by omega, by go_num, HR9⟩
          case measure => simp [intOf]
        · have z0 := cell_of_row _ _ 42 _ _ _ hq
          have z1 := cell_of_row _ _ 43 _ _ _ hq
          have z2 := cell_of_row _ _ 44 _ _ _ hq
          have z3 := cell_of_row _ _ 45 _ _ _ hq
          have z4 := cell_of_row _ _ 46 _ _ _ hq
          have z5 := cell_of_row _ _ 47 _ _ _ hq
          simp at z0 z1 z2 z3 z4 z5
          clear hq
          have HC := hidIn (rcheck_any (r := ⟨1, 1, 1, 0, false, [(1, 1)]⟩) (va := .slice (some ⟨ba + 1, 0, none⟩) 1 1) (w := wr) (HSB.out wr HR.out))
          rw [show ckN ⟨1, 1, 1, 0, false, [(1, 1)]⟩ = 2 by decide] at HC
          go_wp2_with fail
          refine HC.out.mono ?_
          rintro e w9 ⟨rfl, hb9⟩
          have HR9 := hidIn (HR.out.trans (hb9.mono HR.out.size))
          clear hb9 z0 z1 z2 z3 z4 z5 HC
          go_wp2_with fail
          go_roundw
          case rel => exact ⟨8, by omega, by go_num, HR9⟩
          case measure => simp [intOf]
        · have z0 := cell_of_row _ _ 48 _ _ _ hq
          have z1 := cell_of_row _ _ 49 _ _ _ hq
          have z2 := cell_of_row _ _ 50 _ _ _ hq
          have z3 := cell_of_row _ _ 51 _ _ _ hq
          have z4 := cell_of_row _ _ 52 _ _ _ hq
          have z5 := cell_of_row _ _ 53 _ _ _ hq
          simp at z0 z1 z2 z3 z4 z5
          clear hq
          have HC := hidIn (rcheck_any (r := ⟨1, 1, 1, 0, false, List.replicate 17 (0, 0)⟩) (va := .slice (some ⟨ba + 1 + 1, 0, none⟩) 17 17) (w := wr) (HSC.out wr HR.out))
          rw [show ckN ⟨1, 1, 1, 0, false, List.replicate 17 (0, 0)⟩ = 2 by decide] at HC
          go_wp2_with fail
          refine HC.out.mono ?_
          rintro e w9 ⟨rfl, hb9⟩
          have HR9 := hidIn (HR.out.trans (hb9.mono HR.out.size))
          clear hb9 z0 z1 z2 z3 z4 z5 HC
          go_wp2_with fail
          go_roundw
          case rel => exact ⟨9, by omega, by go_num, HR9⟩
          case measure => simp [intOf]
      · obtain rfl : k = 9 := by omega
        clear hk hlt
        have HRw9 := HR
        go_wp2_with fail
        refine (encSt_any 3 1 1 ⟨by decide, by decide⟩ ⟨by decide, by decide⟩ _).mono ?_
        rintro e x1 ⟨rfl, hb⟩
        have HRx1 := hidIn (HRw9.out.trans (hb.mono HRw9.out.size))
        clear hb
        rw [known_es1]
        simp only
        go_wp2_with fail
        refine (decSt_any _ (by decide) _).mono ?_
        rintro e x2 ⟨rfl, hb⟩
        have HRx2 := hidIn (HRx1.out.trans (hb.mono HRx1.out.size))
        clear hb
        rw [known_ds]
        simp only
        obtain ⟨Y2, hV⟩ : ∃ V, x2.alloc (stO 3 1 1) = V := ⟨_, rfl⟩
        have bV : Below x2.heap.size x2 Y2 := by rw [← hV]; exact (Below.refl _ x2).alloc (Nat.le_refl _) _
        have hNY2 : Y2.heap[x2.heap.size]? = some ((stO 3 1 1)) := by rw [← hV]; exact heap_alloc_last x2 _
        have HRY2 := hidIn (HRx2.out.trans (bV.mono HRx2.out.size))
        have HWY2 := hidIn hV
        clear hV bV
        have HSt := hidIn (fun wq (h : Below Y2.heap.size Y2 wq) => (h.block _ (block_lt hNY2)).trans hNY2)
        obtain ⟨sb, hsb⟩ : ∃ sb, x2.heap.size = sb := ⟨_, rfl⟩
        rw [hsb] at HSt
        have Hsb := hidIn hsb
        clear hsb hNY2
        go_upto_region 14 with fail
        rw [show x2.alloc _ = Y2 from HWY2.out, Hsb.out]
        clear HWY2 Hsb
        have HTY2 : Hid (Below Y2.heap.size Y2 Y2) := hidIn (Below.refl _ _)
        go_wp2_with fail
        refine (encSt_any 0 1 1 ⟨by decide, by decide⟩ ⟨by decide, by decide⟩ _).mono ?_
        rintro e x3 ⟨rfl, hb⟩
        have HRx3 := hidIn (HRY2.out.trans (hb.mono HRY2.out.size))
        have HTx3 := hidIn (HTY2.out.trans (hb.mono HTY2.out.size))
        clear hb
        rw [known_es01]
        simp only
        go_wp2_with fail
        refine (decSt_any _ (by decide) _).mono ?_
        rintro e x4 ⟨rfl, hb⟩
        have HRx4 := hidIn (HRx3.out.trans (hb.mono HRx3.out.size))
        have HTx4 := hidIn (HTx3.out.trans (hb.mono HTx3.out.size))
        clear hb
        rw [known_ds01]
        simp only
        obtain ⟨Y4, hV⟩ : ∃ V, x4.alloc (stO 0 0 0) = V := ⟨_, rfl⟩
        have bV : Below x4.heap.size x4 Y4 := by rw [← hV]; exact (Below.refl _ x4).alloc (Nat.le_refl _) _
        have hNY4 : Y4.heap[x4.heap.size]? = some ((stO 0 0 0)) := by rw [← hV]; exact heap_alloc_last x4 _
        have HRY4 := hidIn (HRx4.out.trans (bV.mono HRx4.out.size))
        have HWY4 := hidIn hV
        clear hV bV
        clear hNY4
        have HTY4 : Hid (Below Y2.heap.size Y2 Y4) := hidIn (by rw [← HWY4.out]; exact HTx4.out.alloc HTx4.out.size _)
        go_wp2_with fail
        rw [show x4.alloc _ = Y4 from HWY4.out]
        clear HWY4
        refine (rworks_any _).mono ?_
        rintro e x5 ⟨rfl, hb⟩
        have HRx5 := hidIn (HRY4.out.trans (hb.mono HRY4.out.size))
        have HTx5 := hidIn (HTY4.out.trans (hb.mono HTY4.out.size))
        clear hb
        have o0 := cell_of_row _ _ 0 _ _ _ (HO.out _ HRx5.out)
        have o1 := cell_of_row _ _ 1 _ _ _ (HO.out _ HRx5.out)
        have o2 := cell_of_row _ _ 2 _ _ _ (HO.out _ HRx5.out)
        have o3 := cell_of_row _ _ 3 _ _ _ (HO.out _ HRx5.out)
        have o4 := cell_of_row _ _ 4 _ _ _ (HO.out _ HRx5.out)
        have o5 := cell_of_row _ _ 5 _ _ _ (HO.out _ HRx5.out)
        simp at o0 o1 o2 o3 o4 o5
        have HC := hidIn (rcheck_any (r := ⟨1, 1, 1, 0, false, []⟩) (va := .slice none 0 0) (w := x5) (HSN.out x5 HRx5.out))
        rw [one_ck] at HC
        go_wp2_with fail
        refine (HC.out).mono ?_
        rintro e x6 ⟨rfl, hb⟩
        have HRx6 := hidIn (HRx5.out.trans (hb.mono HRx5.out.size))
        have HTx6 := hidIn (HTx5.out.trans (hb.mono HTx5.out.size))
        clear hb
        clear HC o0 o1 o2 o3 o4 o5
        go_wp2_with fail
        refine (newer_any 0 1 9 0 2 1 _).mono ?_
        rintro e x7 ⟨rfl, hb⟩
        have HRx7 := hidIn (HRx6.out.trans (hb.mono HRx6.out.size))
        have HTx7 := hidIn (HTx6.out.trans (hb.mono HTx6.out.size))
        clear hb
        rw [known_n.1]
        go_wp2_with fail
        refine (newer_any 5 0 0 0 0 0 _).mono ?_
        rintro e x8 ⟨rfl, hb⟩
        have HRx8 := hidIn (HRx7.out.trans (hb.mono HRx7.out.size))
        have HTx8 := hidIn (HTx7.out.trans (hb.mono HTx7.out.size))
        clear hb
        rw [known_n.2.1]
        go_wp2_with fail
        refine (newer_any 0 2 3 0 2 2 _).mono ?_
        rintro e x10 ⟨rfl, hb⟩
        have HRx10 := hidIn (HRx8.out.trans (hb.mono HRx8.out.size))
        have HTx10 := hidIn (HTx8.out.trans (hb.mono HTx8.out.size))
        clear hb
        rw [known_n.2.2]
        have q0 := cell_of_row _ _ 0 _ _ _ (HSt.out _ HTx10.out)
        have q1 := cell_of_row _ _ 1 _ _ _ (HSt.out _ HTx10.out)
        have q2 := cell_of_row _ _ 2 _ _ _ (HSt.out _ HTx10.out)
        simp at q0 q1 q2
        have hqs : ∀ w, (Op.equalIn 10000 24 (.agg #[.int .i64 3, .int .u32 1, .int .u32 1]) (.agg #[.int .i64 3, .int .u32 1, .int .u32 1])).run Try.prog w = Result.ok true w := fun w => by rw [eq_stamp]; simp
        go_wp2_with fail
        go_ret
        exact ⟨rfl, HBA.out.trans (HRx10.out.mono HBA.out.size)⟩
end Go.Proofs.Ytclnhohfiimcdab
