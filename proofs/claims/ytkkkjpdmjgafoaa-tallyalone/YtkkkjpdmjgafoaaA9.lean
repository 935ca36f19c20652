/- TallyAlone: the walk. -/
import Derived.Test.YtkkkjpdmjgafoaaA8
namespace Go.Proofs.Ytkkkjpdmjgafoaa
open Go.RowKit

set_option maxRecDepth 100000 in
set_option maxHeartbeats 4000000 in
theorem tallyAlone_walk {L : List Mk} {v : Value} {w : World} (h : SlAt mkL 11 w v L) (hL : ∀ y ∈ L, y.1 < 256 ∧ y.2.1 < 256) (hlen : (L.length + 1) * 72 ≤ 140737488355328) {X Y : Int} (hX : 0 ≤ X ∧ X ≤ 255) (hY : 0 ≤ Y ∧ Y ≤ 255) :
    Calls Try.prog 5 #[v, .int .u8 X, .int .u8 Y] w fun e w' => e = .returned (.bool true) ∧ Below w.heap.size w w' := by
  obtain ⟨va, vc, rfl, hvl, _, hcell⟩ := h.mrk
  have HCell := hidIn hcell
  have HL := hidIn hL
  have Hwk := hidIn (fun wx => tworks_any wx)
  obtain ⟨X, rfl⟩ := Int.eq_ofNat_of_zero_le hX.1
  obtain ⟨Y, rfl⟩ := Int.eq_ofNat_of_zero_le hY.1
  obtain ⟨x, hx⟩ : ∃ x, X % 24 = x := ⟨_, rfl⟩
  obtain ⟨y, hy⟩ : ∃ y, Y % 24 = y := ⟨_, rfl⟩
  have hx24 : x < 24 := by omega
  have hy24 : y < 24 := by omega
  have mX : (X : Int).tmod 24 = (x : Int) := by rw [← hx, Int.tmod_eq_emod_of_nonneg (by omega)]; rfl
  have mY : (Y : Int).tmod 24 = (y : Int) := by rw [← hy, Int.tmod_eq_emod_of_nonneg (by omega)]; rfl
  have wx8 : IntKind.u8.wrap (x : Int) = (x : Int) := by rw [IntKind.wrap_u8]; omega
  have wy8 : IntKind.u8.wrap (y : Int) = (y : Int) := by rw [IntKind.wrap_u8]; omega
  have wx : IntKind.i64.wrap (x : Int) = (x : Int) := by rw [IntKind.wrap_i64]; omega
  have wy : IntKind.i64.wrap (y : Int) = (y : Int) := by rw [IntKind.wrap_i64]; omega
  have wx1 : IntKind.i64.wrap (1 + (x : Int)) = 1 + (x : Int) := by rw [IntKind.wrap_i64]; omega
  have wy1 : IntKind.i64.wrap (1 + (y : Int)) = 1 + (y : Int) := by rw [IntKind.wrap_i64]; omega
  have hX255 : (X : Int) ≤ 255 := hX.2
  have hY255 : (Y : Int) ≤ 255 := hY.2
  obtain ⟨n, hn⟩ : ∃ n, L.length = n := ⟨_, rfl⟩
  rw [hn] at hvl hlen HCell ⊢
  have Hn := hidIn hn
  clear h hL hcell hx hy hX hY hn
  go_enter Try.func5, Try.ntmps5
  go_wp2_with fail
  refine (tnew_any _).mono ?_
  rintro e w1 ⟨rfl, hw1⟩
  have HT1 : Hid (TaAt w1 w.heap.size noT) := hidIn (by rw [hw1]; exact taAt_new w noT)
  have HF1 : Hid (Below w.heap.size w w1) := hidIn (by rw [hw1]; exact (Below.refl _ w).alloc (Nat.le_refl _) _)
  obtain ⟨q, hq⟩ : ∃ q, w.heap.size = q := ⟨_, rfl⟩
  rw [hq] at HT1 HCell ⊢
  have Hq := hidIn hq
  clear hw1
  go_wp2_with fail
  go_loopw [8] (fun i wr => ∃ k : Nat, k ≤ 30 ∧ k ≤ n ∧ i = .int .i64 k ∧ Hid (TaAt wr q (runT (L.take k)) ∧ Below w.heap.size w wr)) (fun i _ => 30 - (intOf i).toNat)
  case atStart => exact ⟨0, by omega, Nat.zero_le _, rfl, hidIn ⟨HT1.out, HF1.out⟩⟩
  case round =>
    clear HT1 HF1
    clear hq
    obtain ⟨k, hk30, hkn, rfl, HR⟩ := hrel
    by_cases hlt : k < n ∧ k < 30
    · obtain ⟨hlt, hlt30⟩ := hlt
      have hki : (k : Int) < (n : Int) := by omega
      have hki30 : (k : Int) < 30 := by omega
      obtain ⟨bk, o, rfl, hbk, hce⟩ := HCell.out (by omega)
      obtain ⟨⟨R, C, B, N, M⟩, hm⟩ : ∃ z, L[k]? = some z := ⟨L[k]'(by have := Hn.out; omega), List.getElem?_eq_getElem _⟩
      have hT : Hid (runT (L.take (k + 1)) = noteT (runT (L.take k)) (R, C, B, N, M)) := hidIn (by rw [take_snoc hm, runT_snoc])
      obtain ⟨hR, hC⟩ := HL.out _ (List.mem_of_getElem? hm)
      simp only at hR hC
      have hcs := hce k _ hm
      obtain ⟨T, hTT⟩ : ∃ T, runT (L.take k) = T := ⟨_, rfl⟩
      have HOk : Hid (OkT T) := hidIn (by rw [← hTT]; exact runT_ok _)
      rw [hTT] at HR hT
      have hne : bk ≠ q := by omega
      have HCl : Hid (∀ wq, Fr (fun j => j = q) wr wq → wq.cell? ⟨bk, o + k * 11, none⟩ = some (.int .u8 R) ∧ wq.cell? ⟨bk, o + k * 11 + 1, none⟩ = some (.int .u8 C) ∧ wq.cell? ⟨bk, o + k * 11 + 2, none⟩ = some (.bool B) ∧ wq.cell? ⟨bk, o + k * 11 + 3, none⟩ = some (.int .u64 (Bi.wd N 0)) ∧ wq.cell? ⟨bk, o + k * 11 + 4, none⟩ = some (.int .u64 (Bi.wd N 1)) ∧ wq.cell? ⟨bk, o + k * 11 + 5, none⟩ = some (.int .u64 (Bi.wd N 2)) ∧ wq.cell? ⟨bk, o + k * 11 + 6, none⟩ = some (.int .u64 (Bi.wd N 3)) ∧ wq.cell? ⟨bk, o + k * 11 + 7, none⟩ = some (.int .u64 (Bi.wd M 0)) ∧ wq.cell? ⟨bk, o + k * 11 + 8, none⟩ = some (.int .u64 (Bi.wd M 1)) ∧ wq.cell? ⟨bk, o + k * 11 + 9, none⟩ = some (.int .u64 (Bi.wd M 2)) ∧ wq.cell? ⟨bk, o + k * 11 + 10, none⟩ = some (.int .u64 (Bi.wd M 3))) := hidIn fun wq hF => by
        have key : ∀ j u, (mkL (R, C, B, N, M))[j]? = some u → wq.cell? ⟨bk, o + k * 11 + j, none⟩ = some u := fun j u hu => by
          have h1 := hcs j u hu
          have h2 : wr.cell? ⟨bk, o + k * 11 + j, none⟩ = some u := (HR.out.2.cell (p := ⟨bk, o + k * 11 + j, none⟩) (by show bk < w.heap.size; have := Hq.out; omega)).trans h1
          have hbw : bk < wr.heap.size := block_lt_of_cell h2
          have h3 := hF.block bk hbw hne
          rw [← h2]
          simp only [World.cell?, h3]
        exact ⟨key 0 _ rfl, key 1 _ rfl, key 2 _ rfl, key 3 _ rfl, key 4 _ rfl, key 5 _ rfl, key 6 _ rfl, key 7 _ rfl, key 8 _ rfl, key 9 _ rfl, key 10 _ rfl⟩
      obtain ⟨r, hr⟩ : ∃ r, R % 24 = r := ⟨_, rfl⟩
      have hr24 : r < 24 := by omega
      have mR : (R : Int).tmod 24 = (r : Int) := by rw [← hr, Int.tmod_eq_emod_of_nonneg (by omega)]; rfl
      have wr8 : IntKind.u8.wrap (r : Int) = (r : Int) := by rw [IntKind.wrap_u8]; omega
      have wr0 : IntKind.i64.wrap (r : Int) = (r : Int) := by rw [IntKind.wrap_i64]; omega
      have wr1 : IntKind.i64.wrap (1 + (r : Int)) = 1 + (r : Int) := by rw [IntKind.wrap_i64]; omega
      have hRi : (R : Int) ≤ 255 := by omega
      have HN : Hid (∀ (wx : World), TaAt wx q T → ∀ a c, Calls Try.prog 11 #[tp q, .int .i64 (1 + (r : Int)), dnV B (.slice a (C % 5) c) N M] wx fun e w' => e = .returned (.int .i64 0) ∧ TaAt w' q (runT (L.take (k + 1))) ∧ Fr (fun j => j = q) wx w') := hidIn fun wx h a c => by
        have := tnote_yes h HOk.out (r := 1 + r) (by omega) (by omega) B a (C % 5) c (by omega) N M
        rw [show ((1 + r : Nat) : Int) = 1 + (r : Int) from by omega] at this
        rw [hT.out]
        unfold noteT rtM mC
        simp only
        rw [hr]
        exact this
      have HD := hidIn (fun wx => done_any R C B N M hC wx)
      have HRk := hidIn (And.intro HR.out.1 HR.out.2)
      clear HR hm hcs hce hTT hr mX mY wx8 wy8 wx wy wx1 wy1
      go_upto_region 7 with fail
      refine wp_region_held_drew (S := fun wx => Fr (fun j => j = q) wr wx) (by kernel_rfl) ((Fr.refl _ wr).drew) (fun hHeld => ?_)
      have hd0 : Fr (fun j => j = q) wr wr.drew := hHeld
      have HB0 : Hid (TaAt wr.drew q T) := hidIn (HRk.out.1.keep ((Below.refl _ wr).drew) HRk.out.1.lt)
      obtain ⟨wd, hwd⟩ : ∃ wd, wr.drew = wd := ⟨_, rfl⟩
      rw [hwd] at hd0 HB0 ⊢
      clear hwd hHeld
      refine wpAnyH_take (i := 0) (v := tp q) rfl (by kernel_rfl) (by kernel_rfl) (by kernel_rfl) (fun _ _ _ h => h) (Or.inl ⟨by kernel_rfl, fun _ _ => by kernel_rfl⟩) (by assumption) ?_
      refine wpAnyH_take (i := 1) (v := .slice (some ⟨bk, o, none⟩) n vc) rfl (by kernel_rfl) (by kernel_rfl) (by kernel_rfl) (fun _ _ _ h => h) (Or.inl ⟨by kernel_rfl, fun _ _ => by kernel_rfl⟩) (by assumption) ?_
      refine wpAnyH_take (i := 2) (v := .int .i64 k) rfl (by kernel_rfl) (by kernel_rfl) (by kernel_rfl) (fun _ _ _ h => h) (Or.inl ⟨by kernel_rfl, fun _ _ => by kernel_rfl⟩) (by assumption) ?_
      refine wpAnyH_take (i := 3) (v := .pointer (some ⟨bk, o + k * 11, none⟩)) rfl (by kernel_rfl) (by kernel_rfl) (by kernel_rfl) (fun _ _ _ h => h) (Or.inl ⟨by kernel_rfl, fun _ _ => by go_simp⟩) (by assumption) ?_
      refine wpAnyH_take (i := 4) (v := .pointer (some ⟨bk, o + k * 11, none⟩)) rfl (by kernel_rfl) (by kernel_rfl) (by kernel_rfl) (fun _ _ _ h => h) (Or.inl ⟨by kernel_rfl, fun _ _ => by go_simp⟩) (by assumption) ?_
      refine wpAnyH_take (i := 5) (v := .int .u8 R) rfl (by kernel_rfl) (by kernel_rfl) (by kernel_rfl) (fun _ _ _ h => h) (Or.inl ⟨by kernel_rfl, fun wq hSw => by
        obtain ⟨u0, u1, u2, u3, u4, u5, u6, u7, u8, u9, ua⟩ := HCl.out wq hSw
        go_simp⟩) (by assumption) ?_
      refine wpAnyH_take (i := 6) (v := .int .u8 r) rfl (by kernel_rfl) (by kernel_rfl) (by kernel_rfl) (fun _ _ _ h => h) (Or.inl ⟨by kernel_rfl, fun _ _ => by go_simp⟩) (by assumption) ?_
      refine wpAnyH_take (i := 7) (v := .int .i64 r) rfl (by kernel_rfl) (by kernel_rfl) (by kernel_rfl) (fun _ _ _ h => h) (Or.inl ⟨by kernel_rfl, fun _ _ => by go_simp⟩) (by assumption) ?_
      refine wpAnyH_take (i := 8) (v := .int .i64 (1 + (r : Int))) rfl (by kernel_rfl) (by kernel_rfl) (by kernel_rfl) (fun _ _ _ h => h) (Or.inl ⟨by kernel_rfl, fun _ _ => by go_simp⟩) (by assumption) ?_
      refine wpAnyH_take (i := 9) (v := .slice (some ⟨bk, o, none⟩) n vc) rfl (by kernel_rfl) (by kernel_rfl) (by kernel_rfl) (fun _ _ _ h => h) (Or.inl ⟨by kernel_rfl, fun _ _ => by kernel_rfl⟩) (by assumption) ?_
      refine wpAnyH_take (i := 10) (v := .int .i64 k) rfl (by kernel_rfl) (by kernel_rfl) (by kernel_rfl) (fun _ _ _ h => h) (Or.inl ⟨by kernel_rfl, fun _ _ => by kernel_rfl⟩) (by assumption) ?_
      refine wpAnyH_take (i := 11) (v := .pointer (some ⟨bk, o + k * 11, none⟩)) rfl (by kernel_rfl) (by kernel_rfl) (by kernel_rfl) (fun _ _ _ h => h) (Or.inl ⟨by kernel_rfl, fun _ _ => by go_simp⟩) (by assumption) ?_
      refine wpAnyH_take (i := 12) (v := mkV R C B N M) rfl (by kernel_rfl) (by kernel_rfl) (by kernel_rfl) (fun _ _ _ h => h) (Or.inl ⟨by kernel_rfl, fun wq hSw => by
        obtain ⟨u0, u1, u2, u3, u4, u5, u6, u7, u8, u9, ua⟩ := HCl.out wq hSw
        go_simp⟩) (by assumption) ?_
      refine wpAnyH_ready (rs := [13]) (by kernel_rfl) (by simp) ?_
      refine AllReadyH.cons (i := 13) rfl ?_ AllReadyH.nil
      go_simp
      intro K hK
      refine (HD.out wd).mono ?_
      rintro e wk1 ⟨⟨da, dc, rfl⟩, hx1⟩
      have hk1 := hd0.trans (Fr.of_below (S := fun j => j = q) hx1)
      refine hK.out _ _ hk1 (fun _ => ?_)
      clear hK K
      refine wpAnyH_ready (rs := [14]) (by kernel_rfl) (by simp) ?_
      refine AllReadyH.cons (i := 14) rfl ?_ AllReadyH.nil
      go_simp
      intro K hK
      refine (HN.out wk1 (HB0.out.keep hx1 HB0.out.lt) da dc).mono ?_
      rintro e wk2 ⟨rfl, hA, hF⟩
      have hk2 := hk1.trans hF
      refine hK.out _ _ hk2 (fun _ => ?_)
      clear hK K hx1
      refine wpAnyH_take (i := 15) (v := .bool false) rfl (by kernel_rfl) (by kernel_rfl) (by kernel_rfl) (fun _ _ _ h => h) (Or.inl ⟨by kernel_rfl, fun _ _ => by kernel_rfl⟩) (by assumption) ?_
      refine wpAnyH_done (by kernel_rfl) ?_ _
      have HE : Hid (TaAt wk2 q (runT (L.take (k + 1))) ∧ Below w.heap.size w wk2) := hidIn ⟨hA, HRk.out.2.trans (hk2.below HRk.out.2.size (fun j hj => by have := Hq.out; omega))⟩
      clear hA hF hk2 hk1 hd0 HB0 HN HD HCl HRk
      go_wp2_with fail
      go_roundw
      case rel => exact ⟨k + 1, by omega, by omega, by go_num, HE⟩
      case measure => simp [intOf]; omega
    · clear HCell HL
      have HTk : Hid (TaAt wr q (runT (L.take k)) ∧ OkT (runT (L.take k)) ∧ Below w.heap.size w wr) := hidIn ⟨HR.out.1, runT_ok _, HR.out.2⟩
      obtain ⟨T, hTT⟩ : ∃ T, runT (L.take k) = T := ⟨_, rfl⟩
      rw [hTT] at HTk
      clear HR hTT
      go_upto_region 5 with fail
      go_cut [26] (fun c wx => c = .bool false ∧ wx = wr)
      case first =>
        by_cases h1 : k < n
        · have h1i : (k : Int) < (n : Int) := by omega
          have h2i : ¬ (k : Int) < 30 := by omega
          clear hlt
          go_wp2_with fail
          go_meet
          exact ⟨rfl, rfl⟩
        · have h1i : ¬ (k : Int) < (n : Int) := by omega
          clear hlt
          go_wp2_with fail
          go_meet
          exact ⟨rfl, rfl⟩
      case rest =>
        obtain ⟨rfl, hwc⟩ := hcut
        rw [hwc]
        clear hwc wc hlt
        have HAt : Hid (∀ (wx : World) (S : Nat → Cn), TaAt wx q S → Calls Try.prog 16 #[tp q, .int .i64 (1 + (y : Int))] wx fun e w' => e = .returned (.tuple #[cV (S (1 + y)), .int .i64 0]) ∧ Below wx.heap.size wx w') := hidIn fun wx S h => by
          have := tat_yes h (r := 1 + y) (by omega) (by omega)
          rwa [show ((1 + y : Nat) : Int) = 1 + (y : Int) from by omega] at this
        have HAx : Hid (∀ (wx : World) (S : Nat → Cn), TaAt wx q S → Calls Try.prog 16 #[tp q, .int .i64 (1 + (x : Int))] wx fun e w' => e = .returned (.tuple #[cV (S (1 + x)), .int .i64 0]) ∧ Below wx.heap.size wx w') := hidIn fun wx S h => by
          have := tat_yes h (r := 1 + x) (by omega) (by omega)
          rwa [show ((1 + x : Nat) : Int) = 1 + (x : Int) from by omega] at this
        have HN : Hid (∀ (wx : World), TaAt wx q T → ∀ a c, Calls Try.prog 11 #[tp q, .int .i64 (1 + (x : Int)), dnV true (.slice a 2 c) 257 0] wx fun e w' => e = .returned (.int .i64 0) ∧ (∃ c, TaAt w' q (putC T (1 + x) c)) ∧ Fr (fun j => j = q) wx w') := hidIn fun wx h a c => by
          have := tnote_yes h HTk.out.2.1 (r := 1 + x) (by omega) (by omega) true a 2 c (by omega) 257 0
          rw [show ((1 + x : Nat) : Int) = 1 + (x : Int) from by omega] at this
          exact this.mono fun e w' ⟨h1, h2, h3⟩ => ⟨h1, ⟨_, h2⟩, h3⟩
        have HCr : Hid (∀ (wx : World) (S : Nat → Cn), TaAt wx q S → Calls Try.prog 14 #[tp q, .int .i64 (1 + (x : Int))] wx fun e w' => e = .returned (.int .i64 0) ∧ TaAt w' q (putC S (1 + x) noC) ∧ Fr (fun j => j = q) wx w') := hidIn fun wx S h => by
          have := tclear_yes h (r := 1 + x) (by omega) (by omega)
          rwa [show ((1 + x : Nat) : Int) = 1 + (x : Int) from by omega] at this
        go_wp2_with fail
        refine (HAt.out _ T HTk.out.1).mono ?_
        rintro e w2 ⟨rfl, hb2⟩
        obtain ⟨c, hc⟩ : ∃ c, T (1 + y) = c := ⟨_, rfl⟩
        rw [hc]
        have HT2 := hidIn (HTk.out.1.keep hb2 HTk.out.1.lt)
        have HF2 := hidIn (HTk.out.2.2.trans (hb2.mono HTk.out.2.2.size))
        have Hc := hidIn hc
        clear hb2 hc
        go_upto_region 11 with fail
        have hz := heap_alloc_last w2 (cO c)
        have HT3 := hidIn (HT2.out.keep ((Below.refl _ w2).alloc (Nat.le_refl _) (cO c)) HT2.out.lt)
        have HF3 := hidIn (HF2.out.alloc HF2.out.size (cO c))
        have hg1 : q < w2.heap.size := HT2.out.lt
        obtain ⟨g1, hgg⟩ : ∃ g, w2.heap.size = g := ⟨_, rfl⟩
        rw [hgg] at hz hg1 ⊢
        generalize World.alloc _ _ = w3 at hz HT3 HF3 ⊢
        have HZ := hidIn hz
        clear hz HT2 HF2 hgg
        go_wp2_with fail
        refine (exampleD_any _).mono ?_
        rintro e w4 ⟨⟨a4, c4, rfl⟩, hb4⟩
        have HT4 := hidIn (HT3.out.keep hb4 HT3.out.lt)
        have HF4 := hidIn (HF3.out.trans (hb4.mono HF3.out.size))
        have HZ4 := hidIn ((hb4.block _ (block_lt HZ.out)).trans HZ.out)
        clear hb4 HT3 HF3 HZ
        go_wp2_with fail
        refine (HN.out _ HT4.out a4 c4).mono ?_
        rintro e w5 ⟨rfl, ⟨c5, hA⟩, hF⟩
        have HT5 := hidIn hA
        have HF5 := hidIn (HF4.out.trans (hF.below HF4.out.size (fun j hj => by have := Hq.out; omega)))
        have HZ5 := hidIn ((hF.block _ (block_lt HZ4.out) (by omega)).trans HZ4.out)
        clear hA hF HT4 HF4 HZ4
        go_wp2_with fail
        refine (HCr.out _ _ HT5.out).mono ?_
        rintro e w6 ⟨rfl, hA, hF⟩
        have HT6 := hidIn hA
        have HF6 := hidIn (HF5.out.trans (hF.below HF5.out.size (fun j hj => by have := Hq.out; omega)))
        have HZ6 := hidIn ((hF.block _ (block_lt HZ5.out) (by omega)).trans HZ5.out)
        clear hA hF HT5 HF5 HZ5
        go_wp2_with fail
        refine (HAt.out _ _ HT6.out).mono ?_
        rintro e w7 ⟨rfl, hb7⟩
        obtain ⟨d, hd⟩ : ∃ d, putC (putC T (1 + x) c5) (1 + x) noC (1 + y) = d := ⟨_, rfl⟩
        have Hd : Hid (x ≠ y → d = c) := hidIn fun hne => by rw [← hd, putC_other _ _ (by omega), putC_other _ _ (by omega), Hc.out]
        rw [hd]
        clear hd
        have HT7 := hidIn (HT6.out.keep hb7 HT6.out.lt)
        have HF7 := hidIn (HF6.out.trans (hb7.mono HF6.out.size))
        have HZ7 := hidIn ((hb7.block _ (block_lt HZ6.out)).trans HZ6.out)
        clear hb7 HT6 HF6 HZ6
        go_upto_region 14 with fail
        have hz := heap_alloc_last w7 (cO d)
        have hb8 : Below w7.heap.size w7 (w7.alloc (cO d)) := (Below.refl _ w7).alloc (Nat.le_refl _) (cO d)
        have HT8 := hidIn (HT7.out.keep hb8 HT7.out.lt)
        have HF8 := hidIn (HF7.out.alloc HF7.out.size (cO d))
        have HZ8 := hidIn ((hb8.block _ (block_lt HZ7.out)).trans HZ7.out)
        obtain ⟨g2, hgg⟩ : ∃ g, w7.heap.size = g := ⟨_, rfl⟩
        rw [hgg] at hz ⊢
        clear hb8
        generalize World.alloc _ _ = w8 at hz HT8 HF8 HZ8 ⊢
        have HY := hidIn hz
        clear hz HT7 HF7 HZ7 hgg
        go_wp2_with fail
        refine (HAx.out _ _ HT8.out).mono ?_
        rintro e w9 ⟨rfl, hb9⟩
        rw [putC_same]
        have HF9 := hidIn (HF8.out.trans (hb9.mono HF8.out.size))
        have HZ9 := hidIn ((hb9.block _ (block_lt HZ8.out)).trans HZ8.out)
        have HY9 := hidIn ((hb9.block _ (block_lt HY.out)).trans HY.out)
        clear hb9 HT8 HF8 HZ8 HY
        go_upto_region 15 with fail
        have hz := heap_alloc_last w9 (cO noC)
        have hb10 : Below w9.heap.size w9 (w9.alloc (cO noC)) := (Below.refl _ w9).alloc (Nat.le_refl _) (cO noC)
        have HF10 := hidIn (HF9.out.alloc HF9.out.size (cO noC))
        have hZ := (hb10.block _ (block_lt HZ9.out)).trans HZ9.out
        have hY := (hb10.block _ (block_lt HY9.out)).trans HY9.out
        obtain ⟨g3, hgg⟩ : ∃ g, w9.heap.size = g := ⟨_, rfl⟩
        rw [hgg] at hz ⊢
        clear hb10
        generalize World.alloc _ _ = w10 at hz hZ hY HF10 ⊢
        clear hgg HF9 HZ9 HY9
        have z0 := cell_of_row _ _ 0 _ _ _ hz
        have z1 := cell_of_row _ _ 1 _ _ _ hz
        have z2 := cell_of_row _ _ 2 _ _ _ hz
        have z3 := cell_of_row _ _ 3 _ _ _ hz
        have z4 := cell_of_row _ _ 4 _ _ _ hz
        have z5 := cell_of_row _ _ 5 _ _ _ hz
        have p0 := cell_of_row _ _ 0 _ _ _ hZ
        have p1 := cell_of_row _ _ 1 _ _ _ hZ
        have p2 := cell_of_row _ _ 2 _ _ _ hZ
        have p3 := cell_of_row _ _ 3 _ _ _ hZ
        have p4 := cell_of_row _ _ 4 _ _ _ hZ
        have p5 := cell_of_row _ _ 5 _ _ _ hZ
        have s0 := cell_of_row _ _ 0 _ _ _ hY
        have s1 := cell_of_row _ _ 1 _ _ _ hY
        have s2 := cell_of_row _ _ 2 _ _ _ hY
        have s3 := cell_of_row _ _ 3 _ _ _ hY
        have s4 := cell_of_row _ _ 4 _ _ _ hY
        have s5 := cell_of_row _ _ 5 _ _ _ hY
        simp [noC] at z0 z1 z2 z3 z4 z5 p0 p1 p2 p3 p4 p5 s0 s1 s2 s3 s4 s5
        have hq0 := fun w => eq_refl6 0 0 0 0 0 0 w
        clear hz hZ hY
        by_cases hxy : x = y
        · subst hxy
          clear p0 p1 p2 p3 p4 p5 s0 s1 s2 s3 s4 s5
          go_wp2_with fail
          refine (Hwk.out _).mono ?_
          rintro e w11 ⟨rfl, hb11⟩
          have HF11 := hidIn (HF10.out.trans (hb11.mono HF10.out.size))
          clear hb11
          go_wp2_with fail
          go_ret
          exact ⟨rfl, HF11.out⟩
        · have hd2 := Hd.out hxy
          subst hd2
          have hxi : (1 + (x : Int) == 1 + (y : Int)) = false := by simp; omega
          have hq1 := fun w => eq_refl6 (d 0) (d 1) (d 2) (d 3) (d 4) (d 5) w
          go_wp2_with fail
          refine (Hwk.out _).mono ?_
          rintro e w11 ⟨rfl, hb11⟩
          have HF11 := hidIn (HF10.out.trans (hb11.mono HF10.out.size))
          clear hb11
          go_wp2_with fail
          go_ret
          exact ⟨rfl, HF11.out⟩
end Go.Proofs.Ytkkkjpdmjgafoaa
