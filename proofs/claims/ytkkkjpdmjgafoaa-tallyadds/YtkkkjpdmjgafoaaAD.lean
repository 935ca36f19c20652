/- TallyAdds: the walk. -/
import Derived.Test.YtkkkjpdmjgafoaaAE
namespace Go.Proofs.Ytkkkjpdmjgafoaa
open Go.RowKit

set_option maxRecDepth 100000 in
set_option maxHeartbeats 8000000 in
theorem tallyAdds_walk {L : List Mk} {v : Value} {w : World} (h : SlAt mkL 11 w v L) (hL : ∀ y ∈ L, y.1 < 256 ∧ y.2.1 < 256) (hlen : (L.length + 1) * 72 ≤ 140737488355328) :
    Calls Try.prog 4 #[v] w fun e w' => e = .returned (.bool true) ∧ Below w.heap.size w w' := by
  obtain ⟨va, vc, rfl, hvl, _, hcell⟩ := h.mrk
  have HCell := hidIn hcell
  have HL := hidIn hL
  have Hwk := hidIn (fun wx => tworks_any wx)
  obtain ⟨n, hn⟩ : ∃ n, L.length = n := ⟨_, rfl⟩
  rw [hn] at hvl hlen HCell ⊢
  obtain ⟨m, hmm⟩ : ∃ m, min n 50 = m := ⟨_, rfl⟩
  have hm50 : m ≤ 50 := by omega
  have hmn : m ≤ n := by omega
  have Hmin : Hid ((if (50 : Int) < (n : Int) then (50 : Int) else (n : Int)) = (m : Int)) := hidIn (by rw [← hmm]; split <;> omega)
  obtain ⟨P, hP⟩ : ∃ P, L.take m = P := ⟨_, rfl⟩
  have HPl : Hid (P.length = m) := hidIn (by rw [← hP, List.length_take]; omega)
  have HPg : Hid (∀ j, j < m → P[j]? = L[j]?) := hidIn fun j hj => by rw [← hP, List.getElem?_take, if_pos hj]
  have Hn := hidIn hn
  have Hmm := hidIn hmm
  clear h hL hcell hn hP hmm
  go_enter Try.func4, Try.ntmps4
  go_wp2_with fail
  refine (tnew_any _).mono ?_
  rintro e w1 ⟨rfl, hw1⟩
  have HT1 : Hid (TaAt w1 w.heap.size noT) := hidIn (by rw [hw1]; exact taAt_new w noT)
  have HF1 : Hid (Below w.heap.size w w1) := hidIn (by rw [hw1]; exact (Below.refl _ w).alloc (Nat.le_refl _) _)
  obtain ⟨qa, hq⟩ : ∃ q, w.heap.size = q := ⟨_, rfl⟩
  rw [hq] at HT1 ⊢
  have Hq := hidIn hq
  clear hw1 hq
  go_wp2_with fail
  refine (tnew_any _).mono ?_
  rintro e w2 ⟨rfl, hw2⟩
  have HU1 : Hid (TaAt w2 w1.heap.size noT) := hidIn (by rw [hw2]; exact taAt_new w1 noT)
  have hb2 : Below w1.heap.size w1 w2 := by rw [hw2]; exact (Below.refl _ w1).alloc (Nat.le_refl _) _
  have HT2 := hidIn (HT1.out.keep hb2 HT1.out.lt)
  have HF2 := hidIn (HF1.out.trans (hb2.mono HF1.out.size))
  have hqab : qa < w1.heap.size := HT1.out.lt
  obtain ⟨qb, hqq⟩ : ∃ q, w1.heap.size = q := ⟨_, rfl⟩
  rw [hqq] at HU1 hqab ⊢
  clear hw2 hb2 hqq HT1 HF1
  go_upto_region 5 with fail
  rw [Hmin.out]
  go_wp2_with fail
  go_loopw [6] (fun i wr => ∃ k : Nat, k ≤ m ∧ i = .int .i64 k ∧ Hid (TaAt wr qa (runT (P.take k)) ∧ TaAt wr qb (runT (P.reverse.take k)) ∧ Below w.heap.size w wr)) (fun i _ => m - (intOf i).toNat)
  case atStart => exact ⟨0, by omega, rfl, hidIn ⟨HT2.out, HU1.out, HF2.out⟩⟩
  case round =>
    clear HT2 HU1 HF2
    obtain ⟨k, hkm, rfl, HR⟩ := hrel
    by_cases hlt : k < m
    · have hki : (k : Int) < (m : Int) := by omega
      obtain ⟨d, hd⟩ : ∃ d, m - 1 - k = d := ⟨_, rfl⟩
      have hdm : d < m := by omega
      have hdi : (m : Int) - 1 - (k : Int) = (d : Int) := by omega
      have hdw : IntKind.i64.wrap (d : Int) = (d : Int) := by rw [IntKind.wrap_i64]; omega
      have hmw : IntKind.i64.wrap ((m : Int) - 1) = (m : Int) - 1 := by rw [IntKind.wrap_i64]; omega
      have hdn : (d : Int) < (n : Int) := by omega
      have hkn : (k : Int) < (n : Int) := by omega
      obtain ⟨bk, o, rfl, hbk, hce⟩ := HCell.out (by omega)
      obtain ⟨⟨R, C, B, N, M⟩, hm⟩ : ∃ z, L[k]? = some z := ⟨L[k]'(by have := Hn.out; omega), List.getElem?_eq_getElem _⟩
      obtain ⟨⟨Rx, Cx, Bx, Nx, Mx⟩, hmx⟩ : ∃ z, L[d]? = some z := ⟨L[d]'(by have := Hn.out; omega), List.getElem?_eq_getElem _⟩
      have hT : Hid (runT (P.take (k + 1)) = noteT (runT (P.take k)) (R, C, B, N, M)) := hidIn (by rw [take_snoc ((HPg.out k hlt).trans hm), runT_snoc])
      have hTx : Hid (runT (P.reverse.take (k + 1)) = noteT (runT (P.reverse.take k)) (Rx, Cx, Bx, Nx, Mx)) := hidIn (by
        have e : P.reverse[k]? = some (Rx, Cx, Bx, Nx, Mx) := by
          rw [List.getElem?_reverse (by rw [HPl.out]; exact hlt), HPl.out, hd, HPg.out d hdm, hmx]
        rw [take_snoc e, runT_snoc])
      obtain ⟨hR, hC⟩ := HL.out _ (List.mem_of_getElem? hm)
      obtain ⟨hRx, hCx⟩ := HL.out _ (List.mem_of_getElem? hmx)
      simp only at hR hC hRx hCx
      obtain ⟨T, hTT⟩ : ∃ T, runT (P.take k) = T := ⟨_, rfl⟩
      obtain ⟨U, hUU⟩ : ∃ U, runT (P.reverse.take k) = U := ⟨_, rfl⟩
      have HOk : Hid (OkT T) := hidIn (by rw [← hTT]; exact runT_ok _)
      have HOkx : Hid (OkT U) := hidIn (by rw [← hUU]; exact runT_ok _)
      rw [hTT, hUU] at HR
      rw [hTT] at hT
      rw [hUU] at hTx
      have hne : ¬ (bk = qa ∨ bk = qb) := by have := Hq.out; omega
      have hcs := hce k _ hm
      have HCl : Hid (∀ wq, Fr (fun j => j = qa ∨ j = qb) wr wq → wq.cell? ⟨bk, o + k * 11, none⟩ = some (.int .u8 R) ∧ wq.cell? ⟨bk, o + k * 11 + 1, none⟩ = some (.int .u8 C) ∧ wq.cell? ⟨bk, o + k * 11 + 2, none⟩ = some (.bool B) ∧ wq.cell? ⟨bk, o + k * 11 + 3, none⟩ = some (.int .u64 (Bi.wd N 0)) ∧ wq.cell? ⟨bk, o + k * 11 + 4, none⟩ = some (.int .u64 (Bi.wd N 1)) ∧ wq.cell? ⟨bk, o + k * 11 + 5, none⟩ = some (.int .u64 (Bi.wd N 2)) ∧ wq.cell? ⟨bk, o + k * 11 + 6, none⟩ = some (.int .u64 (Bi.wd N 3)) ∧ wq.cell? ⟨bk, o + k * 11 + 7, none⟩ = some (.int .u64 (Bi.wd M 0)) ∧ wq.cell? ⟨bk, o + k * 11 + 8, none⟩ = some (.int .u64 (Bi.wd M 1)) ∧ wq.cell? ⟨bk, o + k * 11 + 9, none⟩ = some (.int .u64 (Bi.wd M 2)) ∧ wq.cell? ⟨bk, o + k * 11 + 10, none⟩ = some (.int .u64 (Bi.wd M 3))) := hidIn fun wq hF => by
        have key : ∀ j u, (mkL (R, C, B, N, M))[j]? = some u → wq.cell? ⟨bk, o + k * 11 + j, none⟩ = some u := fun j u hu => by
          have h1 := hcs j u hu
          have h2 : wr.cell? ⟨bk, o + k * 11 + j, none⟩ = some u := (HR.out.2.2.cell (p := ⟨bk, o + k * 11 + j, none⟩) hbk).trans h1
          have hbw : bk < wr.heap.size := block_lt_of_cell h2
          have h3 := hF.block bk hbw hne
          rw [← h2]
          simp only [World.cell?, h3]
        exact ⟨key 0 _ rfl, key 1 _ rfl, key 2 _ rfl, key 3 _ rfl, key 4 _ rfl, key 5 _ rfl, key 6 _ rfl, key 7 _ rfl, key 8 _ rfl, key 9 _ rfl, key 10 _ rfl⟩
      have hcsx := hce d _ hmx
      have HClx : Hid (∀ wq, Fr (fun j => j = qa ∨ j = qb) wr wq → wq.cell? ⟨bk, o + d * 11, none⟩ = some (.int .u8 Rx) ∧ wq.cell? ⟨bk, o + d * 11 + 1, none⟩ = some (.int .u8 Cx) ∧ wq.cell? ⟨bk, o + d * 11 + 2, none⟩ = some (.bool Bx) ∧ wq.cell? ⟨bk, o + d * 11 + 3, none⟩ = some (.int .u64 (Bi.wd Nx 0)) ∧ wq.cell? ⟨bk, o + d * 11 + 4, none⟩ = some (.int .u64 (Bi.wd Nx 1)) ∧ wq.cell? ⟨bk, o + d * 11 + 5, none⟩ = some (.int .u64 (Bi.wd Nx 2)) ∧ wq.cell? ⟨bk, o + d * 11 + 6, none⟩ = some (.int .u64 (Bi.wd Nx 3)) ∧ wq.cell? ⟨bk, o + d * 11 + 7, none⟩ = some (.int .u64 (Bi.wd Mx 0)) ∧ wq.cell? ⟨bk, o + d * 11 + 8, none⟩ = some (.int .u64 (Bi.wd Mx 1)) ∧ wq.cell? ⟨bk, o + d * 11 + 9, none⟩ = some (.int .u64 (Bi.wd Mx 2)) ∧ wq.cell? ⟨bk, o + d * 11 + 10, none⟩ = some (.int .u64 (Bi.wd Mx 3))) := hidIn fun wq hF => by
        have key : ∀ j u, (mkL (Rx, Cx, Bx, Nx, Mx))[j]? = some u → wq.cell? ⟨bk, o + d * 11 + j, none⟩ = some u := fun j u hu => by
          have h1 := hcsx j u hu
          have h2 : wr.cell? ⟨bk, o + d * 11 + j, none⟩ = some u := (HR.out.2.2.cell (p := ⟨bk, o + d * 11 + j, none⟩) hbk).trans h1
          have hbw : bk < wr.heap.size := block_lt_of_cell h2
          have h3 := hF.block bk hbw hne
          rw [← h2]
          simp only [World.cell?, h3]
        exact ⟨key 0 _ rfl, key 1 _ rfl, key 2 _ rfl, key 3 _ rfl, key 4 _ rfl, key 5 _ rfl, key 6 _ rfl, key 7 _ rfl, key 8 _ rfl, key 9 _ rfl, key 10 _ rfl⟩
      obtain ⟨r, hr⟩ : ∃ r, R % 24 = r := ⟨_, rfl⟩
      have hr24 : r < 24 := by omega
      have mR : (R : Int).tmod 24 = (r : Int) := by rw [← hr, Int.tmod_eq_emod_of_nonneg (by omega)]; rfl
      have wr8 : IntKind.u8.wrap (r : Int) = (r : Int) := by rw [IntKind.wrap_u8]; omega
      have wr0 : IntKind.i64.wrap (r : Int) = (r : Int) := by rw [IntKind.wrap_i64]; omega
      have wr1 : IntKind.i64.wrap (1 + (r : Int)) = 1 + (r : Int) := by rw [IntKind.wrap_i64]; omega
      have hRi : (R : Int) ≤ 255 := by omega
      obtain ⟨rx, hrx⟩ : ∃ r, Rx % 24 = r := ⟨_, rfl⟩
      have hr24x : rx < 24 := by omega
      have mRx : (Rx : Int).tmod 24 = (rx : Int) := by rw [← hrx, Int.tmod_eq_emod_of_nonneg (by omega)]; rfl
      have wr8x : IntKind.u8.wrap (rx : Int) = (rx : Int) := by rw [IntKind.wrap_u8]; omega
      have wr0x : IntKind.i64.wrap (rx : Int) = (rx : Int) := by rw [IntKind.wrap_i64]; omega
      have wr1x : IntKind.i64.wrap (1 + (rx : Int)) = 1 + (rx : Int) := by rw [IntKind.wrap_i64]; omega
      have hRix : (Rx : Int) ≤ 255 := by omega
      have HN : Hid (∀ (wx : World), TaAt wx qa T → ∀ a c, Calls Try.prog 11 #[tp qa, .int .i64 (1 + (r : Int)), dnV B (.slice a (C % 5) c) N M] wx fun e w' => e = .returned (.int .i64 0) ∧ TaAt w' qa (runT (P.take (k + 1))) ∧ Fr (fun j => j = qa) wx w') := hidIn fun wx h a c => by
        have := tnote_yes h HOk.out (r := 1 + r) (by omega) (by omega) B a (C % 5) c (by omega) N M
        rw [show ((1 + r : Nat) : Int) = 1 + (r : Int) from by omega] at this
        rw [hT.out]
        unfold noteT rtM mC
        simp only
        rw [hr]
        exact this
      have HNx : Hid (∀ (wx : World), TaAt wx qb U → ∀ a c, Calls Try.prog 11 #[tp qb, .int .i64 (1 + (rx : Int)), dnV Bx (.slice a (Cx % 5) c) Nx Mx] wx fun e w' => e = .returned (.int .i64 0) ∧ TaAt w' qb (runT (P.reverse.take (k + 1))) ∧ Fr (fun j => j = qb) wx w') := hidIn fun wx h a c => by
        have := tnote_yes h HOkx.out (r := 1 + rx) (by omega) (by omega) Bx a (Cx % 5) c (by omega) Nx Mx
        rw [show ((1 + rx : Nat) : Int) = 1 + (rx : Int) from by omega] at this
        rw [hTx.out]
        unfold noteT rtM mC
        simp only
        rw [hrx]
        exact this
      have HD := hidIn (fun wx => done_any R C B N M hC wx)
      have HDx := hidIn (fun wx => done_any Rx Cx Bx Nx Mx hCx wx)
      have HRk := hidIn HR.out
      clear HR hm hmx hcs hcsx hce hTT hUU hr hrx hd
      go_upto_region 8 with fail
      refine wp_region_held_drew (S := fun wx => Fr (fun j => j = qa ∨ j = qb) wr wx) (by kernel_rfl) ((Fr.refl _ wr).drew) (fun hHeld => ?_)
      have hd0 : Fr (fun j => j = qa ∨ j = qb) wr wr.drew := hHeld
      have HB0 : Hid (TaAt wr.drew qa T ∧ TaAt wr.drew qb U) := hidIn ⟨HRk.out.1.keep ((Below.refl _ wr).drew) HRk.out.1.lt, HRk.out.2.1.keep ((Below.refl _ wr).drew) HRk.out.2.1.lt⟩
      obtain ⟨wd, hwd⟩ : ∃ wd, wr.drew = wd := ⟨_, rfl⟩
      rw [hwd] at hd0 HB0 ⊢
      clear hwd hHeld
      refine wpAnyH_take (i := 0) (v := tp qa) rfl (by kernel_rfl) (by kernel_rfl) (by kernel_rfl) (fun _ _ _ h => h) (Or.inl ⟨by kernel_rfl, fun _ _ => by kernel_rfl⟩) (by assumption) ?_
      refine wpAnyH_take (i := 1) (v := .slice (some ⟨bk, o, none⟩) n vc) rfl (by kernel_rfl) (by kernel_rfl) (by kernel_rfl) (fun _ _ _ h => h) (Or.inl ⟨by kernel_rfl, fun _ _ => by kernel_rfl⟩) (by assumption) ?_
      refine wpAnyH_take (i := 2) (v := .int .i64 k) rfl (by kernel_rfl) (by kernel_rfl) (by kernel_rfl) (fun _ _ _ h => h) (Or.inl ⟨by kernel_rfl, fun _ _ => by kernel_rfl⟩) (by assumption) ?_
      refine wpAnyH_take (i := 3) (v := .pointer (some ⟨bk, o + k * 11, none⟩)) rfl (by kernel_rfl) (by kernel_rfl) (by kernel_rfl) (fun _ _ _ h => h) (Or.inl ⟨by kernel_rfl, fun _ _ => by go_simp⟩) (by assumption) ?_
      refine wpAnyH_take (i := 4) (v := .pointer (some ⟨bk, o + k * 11, none⟩)) rfl (by kernel_rfl) (by kernel_rfl) (by kernel_rfl) (fun _ _ _ h => h) (Or.inl ⟨by kernel_rfl, fun _ _ => by go_simp⟩) (by assumption) ?_
      refine wpAnyH_take (i := 5) (v := .int .u8 R) rfl (by kernel_rfl) (by kernel_rfl) (by kernel_rfl) (fun _ _ _ h => h) (Or.inl ⟨by kernel_rfl, fun wq hSw => by
        obtain ⟨u0, u1, u2, u3, u4, u5, u6, u7, u8, u9, ua⟩ := HCl.out wq hSw
        go_simp⟩) (by assumption) ?_
      refine wpAnyH_take (i := 6) (v := .int .u8 r) rfl (by kernel_rfl) (by kernel_rfl) (by kernel_rfl) (fun _ _ _ h => h) (Or.inl ⟨by kernel_rfl, fun _ _ => by go_simp⟩) (by assumption) ?_
      refine wpAnyH_take (i := 7) (v := .int .i64 r) rfl (by kernel_rfl) (by kernel_rfl) (by kernel_rfl) (fun _ _ _ h => h) (Or.inl ⟨by kernel_rfl, fun _ _ => by go_simp⟩) (by assumption) ?_
      refine wpAnyH_take (i := 8) (v := .int .i64 (1 + (r : Int))) rfl (by kernel_rfl) (by kernel_rfl) (by kernel_rfl) (fun _ _ _ h => h) (Or.inl ⟨by kernel_rfl, fun _ _ => by go_simp⟩) (by assumption) ?_
      refine wpAnyH_take (i := 9) (v := .slice (some ⟨bk, o, none⟩) n vc) rfl (by kernel_rfl) (by kernel_rfl) (by kernel_rfl) (fun _ _ _ h => h) (Or.inl ⟨by kernel_rfl, fun _ _ => by kernel_rfl⟩) (by assumption) ?_
      refine wpAnyH_take (i := 10) (v := .int .i64 k) rfl (by kernel_rfl) (by kernel_rfl) (by kernel_rfl) (fun _ _ _ h => h) (Or.inl ⟨by kernel_rfl, fun _ _ => by kernel_rfl⟩) (by assumption) ?_
      refine wpAnyH_take (i := 11) (v := .pointer (some ⟨bk, o + k * 11, none⟩)) rfl (by kernel_rfl) (by kernel_rfl) (by kernel_rfl) (fun _ _ _ h => h) (Or.inl ⟨by kernel_rfl, fun _ _ => by go_simp⟩) (by assumption) ?_
      refine wpAnyH_take (i := 12) (v := mkV R C B N M) rfl (by kernel_rfl) (by kernel_rfl) (by kernel_rfl) (fun _ _ _ h => h) (Or.inl ⟨by kernel_rfl, fun wq hSw => by
        obtain ⟨u0, u1, u2, u3, u4, u5, u6, u7, u8, u9, ua⟩ := HCl.out wq hSw
        go_simp⟩) (by assumption) ?_
      refine wpAnyH_ready (rs := [13]) (by kernel_rfl) (by simp) ?_
      refine AllReadyH.cons (i := 13) rfl ?_ AllReadyH.nil
      go_simp
      intro K hK
      refine (HD.out wd).mono ?_
      rintro e wk1 ⟨⟨da1, dc1, rfl⟩, hx1⟩
      have hk1 := hd0.trans (Fr.of_below (S := fun j => j = qa ∨ j = qb) hx1)
      refine hK.out _ _ hk1 (fun _ => ?_)
      clear hK K
      refine wpAnyH_ready (rs := [14]) (by kernel_rfl) (by simp) ?_
      refine AllReadyH.cons (i := 14) rfl ?_ AllReadyH.nil
      go_simp
      intro K hK
      refine (HN.out wk1 (HB0.out.1.keep hx1 HB0.out.1.lt) da1 dc1).mono ?_
      rintro e wn1 ⟨rfl, hA1, hF1⟩
      have hn1 := hk1.trans (hF1.mono (T := fun j => j = qa ∨ j = qb) (fun j _ hj => by omega))
      refine hK.out _ _ hn1 (fun _ => ?_)
      clear hK K
      have HU1 : Hid (TaAt wn1 qb U) := hidIn ((hF1.block qb (by have := (HB0.out.2.keep hx1 HB0.out.2.lt).lt; exact this) (by omega)).trans (HB0.out.2.keep hx1 HB0.out.2.lt))
      refine wpAnyH_take (i := 15) (v := .bool false) rfl (by kernel_rfl) (by kernel_rfl) (by kernel_rfl) (fun _ _ _ h => h) (Or.inl ⟨by kernel_rfl, fun _ _ => by kernel_rfl⟩) (by assumption) ?_
      refine wpAnyH_take (i := 16) (v := .bool false) rfl (by kernel_rfl) (by kernel_rfl) (by kernel_rfl) (fun _ _ _ h => h) (Or.inl ⟨by kernel_rfl, fun _ _ => by kernel_rfl⟩) (by assumption) ?_
      refine wpAnyH_take (i := 17) (v := tp qb) rfl (by kernel_rfl) (by kernel_rfl) (by kernel_rfl) (fun _ _ _ h => h) (Or.inl ⟨by kernel_rfl, fun _ _ => by kernel_rfl⟩) (by assumption) ?_
      refine wpAnyH_take (i := 18) (v := .slice (some ⟨bk, o, none⟩) n vc) rfl (by kernel_rfl) (by kernel_rfl) (by kernel_rfl) (fun _ _ _ h => h) (Or.inl ⟨by kernel_rfl, fun _ _ => by kernel_rfl⟩) (by assumption) ?_
      refine wpAnyH_take (i := 19) (v := .int .i64 m) rfl (by kernel_rfl) (by kernel_rfl) (by kernel_rfl) (fun _ _ _ h => h) (Or.inl ⟨by kernel_rfl, fun _ _ => by kernel_rfl⟩) (by assumption) ?_
      refine wpAnyH_take (i := 20) (v := .int .i64 ((m : Int) - 1)) rfl (by kernel_rfl) (by kernel_rfl) (by kernel_rfl) (fun _ _ _ h => h) (Or.inl ⟨by kernel_rfl, fun _ _ => by go_simp⟩) (by assumption) ?_
      refine wpAnyH_take (i := 21) (v := .int .i64 k) rfl (by kernel_rfl) (by kernel_rfl) (by kernel_rfl) (fun _ _ _ h => h) (Or.inl ⟨by kernel_rfl, fun _ _ => by kernel_rfl⟩) (by assumption) ?_
      refine wpAnyH_take (i := 22) (v := .int .i64 d) rfl (by kernel_rfl) (by kernel_rfl) (by kernel_rfl) (fun _ _ _ h => h) (Or.inl ⟨by kernel_rfl, fun _ _ => by go_simp⟩) (by assumption) ?_
      refine wpAnyH_take (i := 23) (v := .pointer (some ⟨bk, o + d * 11, none⟩)) rfl (by kernel_rfl) (by kernel_rfl) (by kernel_rfl) (fun _ _ _ h => h) (Or.inl ⟨by kernel_rfl, fun _ _ => by go_simp⟩) (by assumption) ?_
      refine wpAnyH_take (i := 24) (v := .pointer (some ⟨bk, o + d * 11, none⟩)) rfl (by kernel_rfl) (by kernel_rfl) (by kernel_rfl) (fun _ _ _ h => h) (Or.inl ⟨by kernel_rfl, fun _ _ => by go_simp⟩) (by assumption) ?_
      refine wpAnyH_take (i := 25) (v := .int .u8 Rx) rfl (by kernel_rfl) (by kernel_rfl) (by kernel_rfl) (fun _ _ _ h => h) (Or.inl ⟨by kernel_rfl, fun wq hSw => by
        obtain ⟨u0, u1, u2, u3, u4, u5, u6, u7, u8, u9, ua⟩ := HClx.out wq hSw
        go_simp⟩) (by assumption) ?_
      refine wpAnyH_take (i := 26) (v := .int .u8 rx) rfl (by kernel_rfl) (by kernel_rfl) (by kernel_rfl) (fun _ _ _ h => h) (Or.inl ⟨by kernel_rfl, fun _ _ => by go_simp⟩) (by assumption) ?_
      refine wpAnyH_take (i := 27) (v := .int .i64 rx) rfl (by kernel_rfl) (by kernel_rfl) (by kernel_rfl) (fun _ _ _ h => h) (Or.inl ⟨by kernel_rfl, fun _ _ => by go_simp⟩) (by assumption) ?_
      refine wpAnyH_take (i := 28) (v := .int .i64 (1 + (rx : Int))) rfl (by kernel_rfl) (by kernel_rfl) (by kernel_rfl) (fun _ _ _ h => h) (Or.inl ⟨by kernel_rfl, fun _ _ => by go_simp⟩) (by assumption) ?_
      refine wpAnyH_take (i := 29) (v := .slice (some ⟨bk, o, none⟩) n vc) rfl (by kernel_rfl) (by kernel_rfl) (by kernel_rfl) (fun _ _ _ h => h) (Or.inl ⟨by kernel_rfl, fun _ _ => by kernel_rfl⟩) (by assumption) ?_
      refine wpAnyH_take (i := 30) (v := .int .i64 m) rfl (by kernel_rfl) (by kernel_rfl) (by kernel_rfl) (fun _ _ _ h => h) (Or.inl ⟨by kernel_rfl, fun _ _ => by kernel_rfl⟩) (by assumption) ?_
      refine wpAnyH_take (i := 31) (v := .int .i64 ((m : Int) - 1)) rfl (by kernel_rfl) (by kernel_rfl) (by kernel_rfl) (fun _ _ _ h => h) (Or.inl ⟨by kernel_rfl, fun _ _ => by go_simp⟩) (by assumption) ?_
      refine wpAnyH_take (i := 32) (v := .int .i64 k) rfl (by kernel_rfl) (by kernel_rfl) (by kernel_rfl) (fun _ _ _ h => h) (Or.inl ⟨by kernel_rfl, fun _ _ => by kernel_rfl⟩) (by assumption) ?_
      refine wpAnyH_take (i := 33) (v := .int .i64 d) rfl (by kernel_rfl) (by kernel_rfl) (by kernel_rfl) (fun _ _ _ h => h) (Or.inl ⟨by kernel_rfl, fun _ _ => by go_simp⟩) (by assumption) ?_
      refine wpAnyH_take (i := 34) (v := .pointer (some ⟨bk, o + d * 11, none⟩)) rfl (by kernel_rfl) (by kernel_rfl) (by kernel_rfl) (fun _ _ _ h => h) (Or.inl ⟨by kernel_rfl, fun _ _ => by go_simp⟩) (by assumption) ?_
      refine wpAnyH_take (i := 35) (v := mkV Rx Cx Bx Nx Mx) rfl (by kernel_rfl) (by kernel_rfl) (by kernel_rfl) (fun _ _ _ h => h) (Or.inl ⟨by kernel_rfl, fun wq hSw => by
        obtain ⟨u0, u1, u2, u3, u4, u5, u6, u7, u8, u9, ua⟩ := HClx.out wq hSw
        go_simp⟩) (by assumption) ?_
      refine wpAnyH_ready (rs := [36]) (by kernel_rfl) (by simp) ?_
      refine AllReadyH.cons (i := 36) rfl ?_ AllReadyH.nil
      go_simp
      intro K hK
      refine (HDx.out wn1).mono ?_
      rintro e wk2 ⟨⟨da2, dc2, rfl⟩, hx2⟩
      have hk2 := hn1.trans (Fr.of_below (S := fun j => j = qa ∨ j = qb) hx2)
      refine hK.out _ _ hk2 (fun _ => ?_)
      clear hK K
      refine wpAnyH_ready (rs := [37]) (by kernel_rfl) (by simp) ?_
      refine AllReadyH.cons (i := 37) rfl ?_ AllReadyH.nil
      go_simp
      intro K hK
      refine (HNx.out wk2 (HU1.out.keep hx2 HU1.out.lt) da2 dc2).mono ?_
      rintro e wn2 ⟨rfl, hA2, hF2⟩
      have hn2 := hk2.trans (hF2.mono (T := fun j => j = qa ∨ j = qb) (fun j _ hj => by omega))
      refine hK.out _ _ hn2 (fun _ => ?_)
      clear hK K
      refine wpAnyH_take (i := 38) (v := .bool false) rfl (by kernel_rfl) (by kernel_rfl) (by kernel_rfl) (fun _ _ _ h => h) (Or.inl ⟨by kernel_rfl, fun _ _ => by kernel_rfl⟩) (by assumption) ?_
      refine wpAnyH_take (i := 39) (v := .bool false) rfl (by kernel_rfl) (by kernel_rfl) (by kernel_rfl) (fun _ _ _ h => h) (Or.inl ⟨by kernel_rfl, fun _ _ => by kernel_rfl⟩) (by assumption) ?_
      refine wpAnyH_done (by kernel_rfl) ?_ _
      have HE : Hid (TaAt wn2 qa (runT (P.take (k + 1))) ∧ TaAt wn2 qb (runT (P.reverse.take (k + 1))) ∧ Below w.heap.size w wn2) := hidIn ⟨(hF2.block qa (hA1.keep hx2 hA1.lt).lt (by omega)).trans (hA1.keep hx2 hA1.lt), hA2, HRk.out.2.2.trans (hn2.below HRk.out.2.2.size (fun j hj => by have := Hq.out; omega))⟩
      clear hA1 hF1 hk1 hn1 hA2 hF2 hk2 hn2 hd0 HB0 HN HD HCl HNx HDx HClx HRk HU1 hx1 hx2
      go_wp2_with fail
      go_roundw
      case rel => exact ⟨k + 1, by omega, by go_num, HE⟩
      case measure => simp [intOf]; omega
    · have hki : ¬ (k : Int) < (m : Int) := by omega
      obtain rfl : k = m := by omega
      have HR2 : Hid (TaAt wr qa (runT P) ∧ TaAt wr qb (runT P) ∧ Below w.heap.size w wr) := hidIn (by
        have := HR.out
        rw [List.take_of_length_le (by rw [HPl.out]; exact Nat.le_refl _), List.take_of_length_le (by rw [List.length_reverse, HPl.out]; exact Nat.le_refl _), runT_reverse (by rw [HPl.out]; exact hm50)] at this
        exact this)
      have HP50 : Hid (P.length ≤ 50) := hidIn (by rw [HPl.out]; exact hm50)
      have HOk : Hid (OkT (runT P)) := hidIn (runT_ok P)
      clear HR HCell HL HPg
      obtain ⟨T, hTT⟩ : ∃ T, runT P = T := ⟨_, rfl⟩
      obtain ⟨Sf, hSf⟩ : ∃ Sf, (fun n => sumC P n) = Sf := ⟨_, rfl⟩
      have HS1 : Hid (Sf 1 = noC) := hidIn (by rw [← hSf]; exact sumC_one P)
      have HSn : Hid (∀ n k, Sf (n + 1) k = Sf n k + T n k) := hidIn fun n k => by rw [← hSf, ← hTT]; exact sumC_next HP50.out n k
      have HSl : Hid (∀ n k, n ≤ 25 → Sf n k < 18446744073709551616) := hidIn fun n k hn => by rw [← hSf]; exact sumC_ok HP50.out hn k
      have HSa : Hid (Sf 25 = allC T 25) := hidIn (by rw [← hSf, ← hTT]; exact sumC_all HP50.out)
      have HSg : Hid (Sf 25 0 = k) := hidIn (by rw [← hSf, ← HPl.out]; exact sumC_got)
      rw [hTT] at HR2 HOk
      clear hTT hSf
      go_upto_region 11 with fail
      have hz := heap_alloc_last wr cO0
      have hb3 : Below wr.heap.size wr (wr.alloc cO0) := (Below.refl _ wr).alloc (Nat.le_refl _) _
      have HA3 := hidIn (HR2.out.1.keep hb3 HR2.out.1.lt)
      have HU3 := hidIn (HR2.out.2.1.keep hb3 HR2.out.2.1.lt)
      have HF3 := hidIn (HR2.out.2.2.trans (hb3.mono HR2.out.2.2.size))
      have hqs : qb < wr.heap.size := HR2.out.2.1.lt
      have HZ : Hid ((wr.alloc cO0).heap[wr.heap.size]? = some (cO (Sf 1))) := hidIn (by rw [HS1.out]; exact hz)
      obtain ⟨sg, hsg⟩ : ∃ g, wr.heap.size = g := ⟨_, rfl⟩
      rw [hsg] at hqs HZ ⊢
      clear hz hb3 HR2 hsg HS1
      generalize World.alloc _ _ = w3 at HA3 HU3 HF3 HZ ⊢
      go_wp2_with fail
      go_loopw [8] (fun i wy => ∃ n : Nat, 1 ≤ n ∧ n ≤ 25 ∧ i = .int .i64 n ∧ Hid (TaAt wy qa T ∧ TaAt wy qb T ∧ wy.heap[sg]? = some (cO (Sf n)) ∧ Below w.heap.size w wy)) (fun i _ => 25 - (intOf i).toNat)
      case atStart => exact ⟨1, by omega, by omega, rfl, hidIn ⟨HA3.out, HU3.out, HZ.out, HF3.out⟩⟩
      case round =>
        clear HA3 HU3 HZ HF3
        obtain ⟨rn, hr1, hr25, rfl, HR⟩ := hrel
        by_cases hlr : rn < 25
        · have hri : (rn : Int) ≤ 24 := by omega
          have HAt : Hid (∀ (wx : World) (b : Nat), TaAt wx b T → Calls Try.prog 16 #[tp b, .int .i64 rn] wx fun e w' => e = .returned (.tuple #[cV (T rn), .int .i64 0]) ∧ Below wx.heap.size wx w') := hidIn fun wx b h => tat_yes h (by omega) (by omega)
          have HSx := hidIn (fun k => HSn.out rn k)
          have HSy := hidIn (fun k => HSl.out (rn + 1) k (by omega))
          obtain ⟨c, hc⟩ : ∃ c, T rn = c := ⟨_, rfl⟩
          rw [hc] at HAt HSx
          obtain ⟨S0, hS0⟩ : ∃ S0, Sf rn = S0 := ⟨_, rfl⟩
          obtain ⟨S1, hS1⟩ : ∃ S1, Sf (rn + 1) = S1 := ⟨_, rfl⟩
          rw [hS0] at HR HSx
          rw [hS1] at HSx HSy
          have HS1 := hidIn hS1
          clear hc hS0 hS1
          go_wp2_with fail
          refine (HAt.out _ qa HR.out.1).mono ?_
          rintro e w4 ⟨rfl, hb4⟩
          have HA4 := hidIn (HR.out.1.keep hb4 HR.out.1.lt)
          have HU4 := hidIn (HR.out.2.1.keep hb4 HR.out.2.1.lt)
          have HZ4 := hidIn ((hb4.block _ (block_lt HR.out.2.2.1)).trans HR.out.2.2.1)
          have HF4 := hidIn (HR.out.2.2.2.trans (hb4.mono HR.out.2.2.2.size))
          clear hb4 HR
          go_upto_region 15 with fail
          have hx := heap_alloc_last w4 (cO c)
          have hb5 : Below w4.heap.size w4 (w4.alloc (cO c)) := (Below.refl _ w4).alloc (Nat.le_refl _) _
          have HA5 := hidIn (HA4.out.keep hb5 HA4.out.lt)
          have HU5 := hidIn (HU4.out.keep hb5 HU4.out.lt)
          have HZ5 := hidIn ((hb5.block _ (block_lt HZ4.out)).trans HZ4.out)
          have HF5 := hidIn (HF4.out.trans (hb5.mono HF4.out.size))
          have hs4 : sg < w4.heap.size := block_lt HZ4.out
          obtain ⟨g1, hg1⟩ : ∃ g, w4.heap.size = g := ⟨_, rfl⟩
          rw [hg1] at hx hs4 ⊢
          have HX5 := hidIn hx
          clear hx hb5 HA4 HU4 HZ4 HF4 hg1
          generalize World.alloc _ _ = w5 at HA5 HU5 HZ5 HF5 HX5 ⊢
          go_wp2_with fail
          refine (HAt.out _ qb HU5.out).mono ?_
          rintro e w6 ⟨rfl, hb6⟩
          have HA6 := hidIn (HA5.out.keep hb6 HA5.out.lt)
          have HU6 := hidIn (HU5.out.keep hb6 HU5.out.lt)
          have HZ6 := hidIn ((hb6.block _ (block_lt HZ5.out)).trans HZ5.out)
          have HX6 := hidIn ((hb6.block _ (block_lt HX5.out)).trans HX5.out)
          have HF6 := hidIn (HF5.out.trans (hb6.mono HF5.out.size))
          clear hb6 HA5 HU5 HZ5 HF5 HX5
          go_upto_region 16 with fail
          have hy := heap_alloc_last w6 (cO c)
          have hb7 : Below w6.heap.size w6 (w6.alloc (cO c)) := (Below.refl _ w6).alloc (Nat.le_refl _) _
          have HA7 := hidIn (HA6.out.keep hb7 HA6.out.lt)
          have HU7 := hidIn (HU6.out.keep hb7 HU6.out.lt)
          have HF7 := hidIn (HF6.out.trans (hb7.mono HF6.out.size))
          have hz := (hb7.block _ (block_lt HZ6.out)).trans HZ6.out
          have hx := (hb7.block _ (block_lt HX6.out)).trans HX6.out
          obtain ⟨g2, hg2⟩ : ∃ g, w6.heap.size = g := ⟨_, rfl⟩
          rw [hg2] at hy ⊢
          clear hb7 HA6 HU6 HZ6 HF6 HX6 hg2
          generalize World.alloc _ _ = w7 at HA7 HU7 HF7 hz hx hy ⊢
          have x0 := cell_of_row _ _ 0 _ _ _ hx
          have x1 := cell_of_row _ _ 1 _ _ _ hx
          have x2 := cell_of_row _ _ 2 _ _ _ hx
          have x3 := cell_of_row _ _ 3 _ _ _ hx
          have x4 := cell_of_row _ _ 4 _ _ _ hx
          have x5 := cell_of_row _ _ 5 _ _ _ hx
          have y0 := cell_of_row _ _ 0 _ _ _ hy
          have y1 := cell_of_row _ _ 1 _ _ _ hy
          have y2 := cell_of_row _ _ 2 _ _ _ hy
          have y3 := cell_of_row _ _ 3 _ _ _ hy
          have y4 := cell_of_row _ _ 4 _ _ _ hy
          have y5 := cell_of_row _ _ 5 _ _ _ hy
          have z0 := cell_of_row _ _ 0 _ _ _ hz
          have z1 := cell_of_row _ _ 1 _ _ _ hz
          have z2 := cell_of_row _ _ 2 _ _ _ hz
          have z3 := cell_of_row _ _ 3 _ _ _ hz
          have z4 := cell_of_row _ _ 4 _ _ _ hz
          have z5 := cell_of_row _ _ 5 _ _ _ hz
          simp at x0 x1 x2 x3 x4 x5 y0 y1 y2 y3 y4 y5 z0 z1 z2 z3 z4 z5
          have fz0 := frozen_new hz 0
          have fz1 := frozen_new hz 1
          have fz2 := frozen_new hz 2
          have fz3 := frozen_new hz 3
          have fz4 := frozen_new hz 4
          have fz5 := frozen_new hz 5
          have hq1 := fun w => eq_refl6 (c 0) (c 1) (c 2) (c 3) (c 4) (c 5) w
          have hw0 : IntKind.u64.wrap ((S0 0 : Int) + (c 0 : Int)) = (S1 0 : Int) := by
            rw [wrap_in (by have := HSx.out 0; have := HSy.out 0; omega)]
            have := HSx.out 0
            omega
          have hw1 : IntKind.u64.wrap ((S0 1 : Int) + (c 1 : Int)) = (S1 1 : Int) := by
            rw [wrap_in (by have := HSx.out 1; have := HSy.out 1; omega)]
            have := HSx.out 1
            omega
          have hw2 : IntKind.u64.wrap ((S0 2 : Int) + (c 2 : Int)) = (S1 2 : Int) := by
            rw [wrap_in (by have := HSx.out 2; have := HSy.out 2; omega)]
            have := HSx.out 2
            omega
          have hw3 : IntKind.u64.wrap ((S0 3 : Int) + (c 3 : Int)) = (S1 3 : Int) := by
            rw [wrap_in (by have := HSx.out 3; have := HSy.out 3; omega)]
            have := HSx.out 3
            omega
          have hw4 : IntKind.u64.wrap ((S0 4 : Int) + (c 4 : Int)) = (S1 4 : Int) := by
            rw [wrap_in (by have := HSx.out 4; have := HSy.out 4; omega)]
            have := HSx.out 4
            omega
          have hw5 : IntKind.u64.wrap ((S0 5 : Int) + (c 5 : Int)) = (S1 5 : Int) := by
            rw [wrap_in (by have := HSx.out 5; have := HSy.out 5; omega)]
            have := HSx.out 5
            omega
          have HE : Hid (TaAt (setK w7 sg S1) qa T ∧ TaAt (setK w7 sg S1) qb T ∧ (setK w7 sg S1).heap[sg]? = some (cO S1) ∧ Below w.heap.size w (setK w7 sg S1)) := hidIn (by
            have hk := below_setK (Below.refl sg w7) (Nat.le_refl _) S1
            refine ⟨(hk.block qa (by omega)).trans HA7.out, (hk.block qb hqs).trans HU7.out, setK_block hz S1, below_setK HF7.out (by have := Hq.out; omega) S1⟩)
          unfold setK at HE
          clear hz hx hy HA7 HU7 HF7
          go_wp2_with fail
          go_roundw
          case rel => exact ⟨rn + 1, by omega, by omega, by go_num, by rw [HS1.out]; exact HE⟩
          case measure => simp [intOf]; omega
        · have hri : ¬ (rn : Int) ≤ 24 := by omega
          obtain rfl : rn = 25 := by omega
          have HAl : Hid (∀ (wx : World) (b : Nat), TaAt wx b T → Calls Try.prog 18 #[tp b] wx fun e w' => e = .returned (cV (Sf 25)) ∧ Below wx.heap.size wx w') := hidIn fun wx b h => by
            rw [HSa.out]
            exact tall_any h HOk.out
          have HSk := hidIn HSg.out
          obtain ⟨S, hS⟩ : ∃ S, Sf 25 = S := ⟨_, rfl⟩
          rw [hS] at HR HAl HSk
          have HRk := hidIn HR.out
          have hwk : IntKind.u64.wrap (k : Int) = (k : Int) := by rw [IntKind.wrap_u64]; omega
          have hgk : ((S 0 : Nat) : Int) = (k : Int) := by have := HSk.out; omega
          have HCl : Hid (∀ wq, Below wr.heap.size wr wq → wq.cell? ⟨sg, 0, none⟩ = some (.int .u64 (S 0)) ∧ wq.cell? ⟨sg, 1, none⟩ = some (.int .u64 (S 1)) ∧ wq.cell? ⟨sg, 2, none⟩ = some (.int .u64 (S 2)) ∧ wq.cell? ⟨sg, 3, none⟩ = some (.int .u64 (S 3)) ∧ wq.cell? ⟨sg, 4, none⟩ = some (.int .u64 (S 4)) ∧ wq.cell? ⟨sg, 5, none⟩ = some (.int .u64 (S 5)) ∧ TaAt wq qa T ∧ TaAt wq qb T) := hidIn fun wq h => by
            have j := (h.block _ (block_lt HRk.out.2.2.1)).trans HRk.out.2.2.1
            exact ⟨cell_of_row _ _ 0 _ _ _ j, cell_of_row _ _ 1 _ _ _ j, cell_of_row _ _ 2 _ _ _ j, cell_of_row _ _ 3 _ _ _ j, cell_of_row _ _ 4 _ _ _ j, cell_of_row _ _ 5 _ _ _ j, HRk.out.1.keep h HRk.out.1.lt, HRk.out.2.1.keep h HRk.out.2.1.lt⟩
          have hq1 := fun w => eq_refl6 (S 0) (S 1) (S 2) (S 3) (S 4) (S 5) w
          clear HR hS HSn HSl HSa HSg HSk
          go_upto_region 19 with fail
          refine wp_region_held_drew (S := fun wx => Below wr.heap.size wr wx) (by kernel_rfl) ((Below.refl _ wr).drew) (fun hHeld => ?_)
          have hd0 : Below wr.heap.size wr wr.drew := hHeld
          obtain ⟨wd, hwd⟩ : ∃ wd, wr.drew = wd := ⟨_, rfl⟩
          rw [hwd] at hd0 ⊢
          clear hwd hHeld

          refine wpAnyH_take (i := 0) (v := .agg #[.int .u64 (S 0), .int .u64 (S 1), .int .u64 (S 2), .int .u64 (S 3), .int .u64 (S 4), .int .u64 (S 5)]) rfl (by kernel_rfl) (by kernel_rfl) (by kernel_rfl) (fun _ _ _ h => h) (Or.inl ⟨by kernel_rfl, fun wq hSw => by
            obtain ⟨u0, u1, u2, u3, u4, u5, _, _⟩ := HCl.out wq hSw
            go_simp⟩) (by assumption) ?_
          refine wpAnyH_take (i := 1) (v := tp qa) rfl (by kernel_rfl) (by kernel_rfl) (by kernel_rfl) (fun _ _ _ h => h) (Or.inl ⟨by kernel_rfl, fun _ _ => by kernel_rfl⟩) (by assumption) ?_
          refine wpAnyH_ready (rs := [2]) (by kernel_rfl) (by simp) ?_
          refine AllReadyH.cons (i := 2) rfl ?_ AllReadyH.nil
          go_simp
          intro K hK
          obtain ⟨_, _, _, _, _, _, hTa, hTb⟩ := HCl.out _ hd0
          refine (HAl.out wd qa hTa).mono ?_
          rintro e wk1 ⟨rfl, hx1⟩
          have hk1 := hd0.trans (hx1.mono hd0.size)
          refine hK.out _ _ hk1 (fun _ => ?_)
          clear hK K hTa hTb
          refine wpAnyH_take (i := 3) (v := .bool true) rfl (by kernel_rfl) (by kernel_rfl) (by kernel_rfl) (fun _ _ _ h => h) (Or.inl ⟨by kernel_rfl, fun _ _ => by go_simp⟩) (by assumption) ?_
          refine wpAnyH_take (i := 4) (v := .bool true) rfl (by kernel_rfl) (by kernel_rfl) (by kernel_rfl) (fun _ _ _ h => h) (Or.inl ⟨by kernel_rfl, fun _ _ => by kernel_rfl⟩) (by assumption) ?_
          refine wpAnyH_take (i := 5) (v := .agg #[.int .u64 (S 0), .int .u64 (S 1), .int .u64 (S 2), .int .u64 (S 3), .int .u64 (S 4), .int .u64 (S 5)]) rfl (by kernel_rfl) (by kernel_rfl) (by kernel_rfl) (fun _ _ _ h => h) (Or.inl ⟨by kernel_rfl, fun wq hSw => by
            obtain ⟨u0, u1, u2, u3, u4, u5, _, _⟩ := HCl.out wq hSw
            go_simp⟩) (by assumption) ?_
          refine wpAnyH_take (i := 6) (v := tp qb) rfl (by kernel_rfl) (by kernel_rfl) (by kernel_rfl) (fun _ _ _ h => h) (Or.inl ⟨by kernel_rfl, fun _ _ => by kernel_rfl⟩) (by assumption) ?_
          refine wpAnyH_ready (rs := [7]) (by kernel_rfl) (by simp) ?_
          refine AllReadyH.cons (i := 7) rfl ?_ AllReadyH.nil
          go_simp
          intro K hK
          obtain ⟨_, _, _, _, _, _, hTa, hTb⟩ := HCl.out _ hk1
          refine (HAl.out wk1 qb hTb).mono ?_
          rintro e wk2 ⟨rfl, hx2⟩
          have hk2 := hk1.trans (hx2.mono hk1.size)
          refine hK.out _ _ hk2 (fun _ => ?_)
          clear hK K hTa hTb
          refine wpAnyH_take (i := 8) (v := .bool true) rfl (by kernel_rfl) (by kernel_rfl) (by kernel_rfl) (fun _ _ _ h => h) (Or.inl ⟨by kernel_rfl, fun _ _ => by go_simp⟩) (by assumption) ?_
          refine wpAnyH_take (i := 9) (v := .bool true) rfl (by kernel_rfl) (by kernel_rfl) (by kernel_rfl) (fun _ _ _ h => h) (Or.inl ⟨by kernel_rfl, fun _ _ => by kernel_rfl⟩) (by assumption) ?_
          refine wpAnyH_take (i := 10) (v := .bool true) rfl (by kernel_rfl) (by kernel_rfl) (by kernel_rfl) (fun _ _ _ h => h) (Or.inl ⟨by kernel_rfl, fun _ _ => by kernel_rfl⟩) (by assumption) ?_
          refine wpAnyH_take (i := 11) (v := .pointer (some ⟨sg, 0, none⟩)) rfl (by kernel_rfl) (by kernel_rfl) (by kernel_rfl) (fun _ _ _ h => h) (Or.inl ⟨by kernel_rfl, fun _ _ => by kernel_rfl⟩) (by assumption) ?_
          refine wpAnyH_take (i := 12) (v := .int .u64 (S 0)) rfl (by kernel_rfl) (by kernel_rfl) (by kernel_rfl) (fun _ _ _ h => h) (Or.inl ⟨by kernel_rfl, fun wq hSw => by
            obtain ⟨u0, u1, u2, u3, u4, u5, _, _⟩ := HCl.out wq hSw
            go_simp⟩) (by assumption) ?_
          refine wpAnyH_take (i := 13) (v := .int .i64 k) rfl (by kernel_rfl) (by kernel_rfl) (by kernel_rfl) (fun _ _ _ h => h) (Or.inl ⟨by kernel_rfl, fun _ _ => by kernel_rfl⟩) (by assumption) ?_
          refine wpAnyH_take (i := 14) (v := .int .u64 k) rfl (by kernel_rfl) (by kernel_rfl) (by kernel_rfl) (fun _ _ _ h => h) (Or.inl ⟨by kernel_rfl, fun _ _ => by go_simp⟩) (by assumption) ?_
          refine wpAnyH_take (i := 15) (v := .bool true) rfl (by kernel_rfl) (by kernel_rfl) (by kernel_rfl) (fun _ _ _ h => h) (Or.inl ⟨by kernel_rfl, fun _ _ => by go_simp⟩) (by assumption) ?_
          refine wpAnyH_take (i := 16) (v := .bool true) rfl (by kernel_rfl) (by kernel_rfl) (by kernel_rfl) (fun _ _ _ h => h) (Or.inl ⟨by kernel_rfl, fun _ _ => by kernel_rfl⟩) (by assumption) ?_
          refine wpAnyH_take (i := 17) (v := .bool true) rfl (by kernel_rfl) (by kernel_rfl) (by kernel_rfl) (fun _ _ _ h => h) (Or.inl ⟨by kernel_rfl, fun _ _ => by kernel_rfl⟩) (by assumption) ?_
          refine wpAnyH_ready (rs := [18]) (by kernel_rfl) (by simp) ?_
          refine AllReadyH.cons (i := 18) rfl ?_ AllReadyH.nil
          go_simp
          intro K hK
          refine (Hwk.out wk2).mono ?_
          rintro e wk3 ⟨rfl, hx3⟩
          have hk3 := hk2.trans (hx3.mono hk2.size)
          refine hK.out _ _ hk3 (fun _ => ?_)
          clear hK K
          refine wpAnyH_take (i := 19) (v := .bool true) rfl (by kernel_rfl) (by kernel_rfl) (by kernel_rfl) (fun _ _ _ h => h) (Or.inl ⟨by kernel_rfl, fun _ _ => by kernel_rfl⟩) (by assumption) ?_
          refine wpAnyH_take (i := 20) (v := .bool true) rfl (by kernel_rfl) (by kernel_rfl) (by kernel_rfl) (fun _ _ _ h => h) (Or.inl ⟨by kernel_rfl, fun _ _ => by kernel_rfl⟩) (by assumption) ?_
          refine wpAnyH_done (by kernel_rfl) ?_ _
          go_wp2_with fail
          go_ret
          exact ⟨rfl, HRk.out.2.2.2.trans (hk3.mono HRk.out.2.2.2.size)⟩
end Go.Proofs.Ytkkkjpdmjgafoaa
