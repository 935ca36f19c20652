/- The document's Encode. -/
import Derived.Test.YtclnhohfiimcdaaXC
import Derived.Deep.RegionHeld3
namespace Go.Proofs.Ytclnhohfiimcdaa
open Go.RowKit

theorem putS_two (S : ByteArray) (x y : Nat) : (S ++ ly x 1) ++ ly y 2 = S ++ putS [(x, 1), (y, 2)] := by
  apply ext_data
  simp [putS]
set_option maxRecDepth 100000 in
set_option maxHeartbeats 4000000 in
theorem dencode_any {r : Rc} {va : Value} {w : World} (hv : SlAt ac 2 w va r.adjs) (hrb : RcB r) :
    Calls Try.prog 11 #[recV r va] w fun e w' => e = .returned (.tuple #[.string (enA r).1, .int .i64 (enA r).2]) ∧ Below w.heap.size w w' := by
  have HV := hidIn hv
  obtain ⟨aa, acap, rfl, hal, _, hat⟩ := hv.ads
  have Ha := hidIn hat
  obtain ⟨V1, hV1⟩ : ∃ V1, w.alloc (recO r (.slice aa r.adjs.length acap)) = V1 := ⟨_, rfl⟩
  have b1 : Below w.heap.size w V1 := by rw [← hV1]; exact (Below.refl _ w).alloc (Nat.le_refl _) _
  have hX : V1.heap[w.heap.size]? = some (recO r (.slice aa r.adjs.length acap)) := by rw [← hV1]; exact heap_alloc_last w _
  have HC := hidIn (dcheck_any (hv.keep b1 (Nat.le_refl _)) hrb.e0 hrb.s0)
  obtain ⟨m, hm⟩ : ∃ m, recOk r = m := ⟨_, rfl⟩
  have Hm := hidIn hm
  have hck : ckN r = if m then 0 else 2 := by unfold ckN; rw [hm]
  rw [hck] at HC
  have HW := hidIn hV1
  have HX := hidIn hX
  have HB := hidIn b1
  have HRb := hidIn hrb
  obtain ⟨res, hres⟩ : ∃ res, enA r = res := ⟨_, rfl⟩
  rw [hres]
  have Hres : Hid (enA r = res) := hidIn hres
  obtain ⟨orig, epo, sq, cl, ig, as'⟩ := r
  have x0 := cell_of_row _ _ 0 _ _ _ hX
  have x1 := cell_of_row _ _ 1 _ _ _ hX
  have x2 := cell_of_row _ _ 2 _ _ _ hX
  have x3 := cell_of_row _ _ 3 _ _ _ hX
  have x4 := cell_of_row _ _ 4 _ _ _ hX
  have x5 := cell_of_row _ _ 5 _ _ _ hX
  simp at x0 x1 x2 x3 x4 x5
  clear hV1 b1 hX hv hat hm hck hrb hres
  simp only at Ha hal ⊢
  go_enter Try.func11, Try.ntmps11
  go_upto_region 1 with fail
  rw [HW.out]
  clear HW
  go_wp2_with fail
  refine HC.out.mono ?_
  rintro e w2 ⟨rfl, hb2⟩
  have HX2 := hidIn ((hb2.block _ (block_lt HX.out)).trans HX.out)
  have HB2 := hidIn (HB.out.trans (hb2.mono HB.out.size))
  clear hb2 HC x0 x1 x2 x3 x4 x5 HX HB
  cases m
  · simp only [Bool.false_eq_true, if_false]
    go_wp2_with fail
    go_ret2
    exact ⟨by rw [← Hres.out]; unfold enA; rw [Hm.out]; rfl, HB2.out⟩
  simp only [if_true]
  obtain ⟨⟨ho1, ho2⟩, hl16, hadj⟩ := recOk_parts Hm.out
  have hcl : 0 ≤ cl ∧ cl ≤ 1024 := by
    have h := Hm.out
    simp only [recOk, Bool.and_eq_true, decide_eq_true_eq] at h
    exact ⟨h.2.2.2.1, h.2.2.2.2.1⟩
  obtain ⟨he0, he1, hq0, hq1⟩ := HRb.out
  simp only at ho1 ho2 hl16 hadj he0 he1 hq0 hq1
  have HAdj := hidIn hadj
  obtain ⟨hc0, hc1⟩ := hcl
  obtain ⟨O, rfl⟩ : ∃ O : Nat, orig = (O : Int) := ⟨orig.toNat, by omega⟩
  obtain ⟨E, rfl⟩ : ∃ E : Nat, epo = (E : Int) := ⟨epo.toNat, by omega⟩
  obtain ⟨Q, rfl⟩ : ∃ Q : Nat, sq = (Q : Int) := ⟨sq.toNat, by omega⟩
  obtain ⟨C, rfl⟩ : ∃ C : Nat, cl = (C : Int) := ⟨cl.toNat, by omega⟩
  have hO : O < 256 := by omega
  have hE : E < 4294967296 := by omega
  have hQ : Q < 4294967296 := by omega
  have hC : C < 65536 := by omega
  clear ho1 ho2 hadj he0 he1 hq0 hq1 hc0 hc1
  obtain ⟨R, hR⟩ : ∃ R : Rc, (⟨(O : Int), (E : Int), (Q : Int), (C : Int), ig, as'⟩ : Rc) = R := ⟨_, rfl⟩
  have HR := hidIn hR
  have hx := HX2.out
  have x0 := cell_of_row _ _ 0 _ _ _ hx
  have x1 := cell_of_row _ _ 1 _ _ _ hx
  have x2 := cell_of_row _ _ 2 _ _ _ hx
  have x3 := cell_of_row _ _ 3 _ _ _ hx
  have x4 := cell_of_row _ _ 4 _ _ _ hx
  have x5 := cell_of_row _ _ 5 _ _ _ hx
  simp at x0 x1 x2 x3 x4 x5
  clear hx
  have hig : ingN ig < 256 := by unfold ingN; split <;> omega
  have hn256 : as'.length < 256 := by omega
  go_upto_if 11 with fail
  go_cut [4] (fun x wx => x = .int .u64 ((ingN ig : Nat) : Int) ∧ wx = w2)
  case first =>
    cases ig
    · go_wp2_with fail
      go_meet
      exact ⟨rfl, rfl⟩
    · go_wp2_with fail
      go_meet
      exact ⟨rfl, rfl⟩
  case rest =>
    obtain ⟨rfl, rfl⟩ := hcut
    obtain ⟨IG, hIG⟩ : ∃ IG, ingN ig = IG := ⟨_, rfl⟩
    have HIG := hidIn hIG
    rw [hIG] at hig ⊢
    clear hIG
    obtain ⟨LN, hLN⟩ : ∃ LN, as'.length = LN := ⟨_, rfl⟩
    have HLN := hidIn hLN
    rw [hLN] at x5 HX2 Ha hal hl16 hn256
    try rw [hLN]
    clear hLN
    obtain ⟨V3, hV3⟩ : ∃ V3, wc.alloc (.cells #[.int .u64 (O : Int), .int .u64 1, .int .u64 (E : Int), .int .u64 4, .int .u64 (Q : Int), .int .u64 4, .int .u64 (C : Int), .int .u64 2, .int .u64 (IG : Int), .int .u64 1, .int .u64 (LN : Int), .int .u64 1] 53) = V3 := ⟨_, rfl⟩
    have hS3 : SlAt uc 1 V3 (.slice (some ⟨wc.heap.size, 0, none⟩) 12 12) (flP [(O, 1), (E, 4), (Q, 4), (C, 2), (IG, 1), (LN, 1)]) := by
      rw [← hV3]
      exact slAt_block (cs := uc) (sz := 1) (l := flP [(O, 1), (E, 4), (Q, 4), (C, 2), (IG, 1), (LN, 1)]) (fun _ => rfl) (T := 53) (heap_alloc_last wc _) (by rw [flP_len]; simp)
    have b3 : Below wc.heap.size wc V3 := by rw [← hV3]; exact (Below.refl _ wc).alloc (Nat.le_refl _) _
    have HPt := hidIn (dput_any hS3 (by intro p hp; simp at hp; rcases hp with rfl | rfl | rfl | rfl | rfl | rfl; exact .inl ⟨rfl, hO⟩; exact .inr (.inr ⟨rfl, hE⟩); exact .inr (.inr ⟨rfl, hQ⟩); exact .inr (.inl ⟨rfl, hC⟩); exact .inl ⟨rfl, hig⟩; exact .inl ⟨rfl, hn256⟩) (by simp))
    have HB3 := hidIn b3
    have HW := hidIn hV3
    clear hV3 hS3 b3
    go_wp2_with fail
    rw [HW.out]
    clear HW
    refine HPt.out.mono ?_
    rintro e w4 ⟨rfl, hb4⟩
    have b4 := HB3.out.trans (hb4.mono HB3.out.size)
    have HX4 := hidIn ((b4.block _ (block_lt HX2.out)).trans HX2.out)
    have HB4 := hidIn (HB2.out.trans (b4.mono HB2.out.size))
    have hP : putS [(O, 1), (E, 4), (Q, 4), (C, 2), (IG, 1), (LN, 1)] = adS (hdS R) (as'.take 0) := by
      rw [← HR.out, ← HIG.out, ← HLN.out]
      rfl
    rw [hP]
    clear hb4 b4 HPt HB3 hP x0 x1 x2 x3 x4 x5 HX2 HB2
    have hx := HX4.out
    have x5 := cell_of_row _ _ 5 _ _ _ hx
    simp at x5
    clear hx
    go_wp2_with fail
    go_loopw [5, 6] (fun s i wr => ∃ k : Nat, k ≤ LN ∧ i = .int .i64 k ∧ s = .string (adS (hdS R) (as'.take k)) ∧ Hid (wr.heap[w.heap.size]? = some (recO ⟨(O : Int), (E : Int), (Q : Int), (C : Int), ig, as'⟩ (.slice aa LN acap))) ∧ Hid (Below w.heap.size w wr)) (fun _ i _ => LN - (intOf i).toNat)
    case atStart => exact ⟨0, Nat.zero_le _, rfl, rfl, HX4, HB4⟩
    case round =>
      clear x5 HX4 HB4
      obtain ⟨k, hk, rfl, rfl, HX, HB⟩ := hrel
      have hsz := adS_size (hdS R) (as'.take k)
      rw [hdS_size, List.length_take] at hsz
      have hx := HX.out
      have x5 := cell_of_row _ _ 5 _ _ _ hx
      simp at x5
      clear hx
      by_cases hlt : k < LN
      · obtain ⟨bk, o, rfl, hbk, hcell⟩ := Ha.out (by omega)
        obtain ⟨⟨x, y⟩, hz⟩ : ∃ z, as'[k]? = some z := ⟨as'[k]'(by rw [HLN.out]; exact hlt), List.getElem?_eq_getElem _⟩
        obtain ⟨q0, q1⟩ := hcell k _ hz
        have hab := adjsOk_all _ _ _ HAdj.out _ (List.mem_of_getElem? hz)
        simp only at hab q0 q1
        obtain ⟨X, rfl⟩ : ∃ X : Nat, x = (X : Int) := ⟨x.toNat, by omega⟩
        obtain ⟨Y, rfl⟩ : ∃ Y : Nat, y = (Y : Int) := ⟨y.toNat, by omega⟩
        have hX : X < 256 := by omega
        have hY : Y < 65536 := by omega
        have HT : Hid (adS (hdS R) (as'.take (k + 1)) = adS (hdS R) (as'.take k) ++ putS [(X, 1), (Y, 2)]) := hidIn (by rw [take_snoc hz, adS_snoc, ← putS_two]; rfl)
        have hps : (putS [(X, 1), (Y, 2)]).size = 3 := by simp [putS, ly_size]; rfl
        have hki : (k : Int) < (LN : Int) := by omega
        have hwX : IntKind.u64.wrap (X : Int) = (X : Int) := by rw [IntKind.wrap_u64]; omega
        have hwY : IntKind.u64.wrap (Y : Int) = (Y : Int) := by rw [IntKind.wrap_u64]; omega
        generalize adS (hdS R) (as'.take k) = S at *
        have HKc : Hid (∀ wq, Below wr.heap.size wr wq → wq.cell? ⟨w.heap.size, 5, none⟩ = some (.slice (some ⟨bk, o, none⟩) LN acap) ∧ wq.cell? ⟨bk, o + k * 2, none⟩ = some (.int .i64 (X : Int)) ∧ wq.cell? ⟨bk, o + k * 2 + 1, none⟩ = some (.int .i64 (Y : Int))) := hidIn fun wq h => by
          have hB := HB.out.trans (h.mono HB.out.size)
          have hx := (h.block _ (block_lt HX.out)).trans HX.out
          have x5 := cell_of_row _ _ 5 _ _ _ hx
          simp at x5
          exact ⟨x5, (hB.cell (p := ⟨bk, o + k * 2, none⟩) hbk).trans q0, (hB.cell (p := ⟨bk, o + k * 2 + 1, none⟩) hbk).trans q1⟩
        obtain ⟨P, hP⟩ : ∃ P, putS [(X, 1), (Y, 2)] = P := ⟨_, rfl⟩
        rw [hP] at HT hps
        have HP := hidIn hP
        have hadd : ¬ 9223372036854775807 < S.size + P.size := by omega
        clear hsz hps hcell q0 q1 hz hab hP
        go_upto_region 10 with fail
        refine wp_region_held_drew (S := fun wx => Below wr.heap.size wr wx) (by kernel_rfl) ((Below.refl _ wr).drew) (fun hHeld => ?_)
        refine wpAnyH_take (i := 0) (v := ?_) rfl (by kernel_rfl) (by kernel_rfl) (by kernel_rfl) (fun _ _ _ h => h) (Or.inl ⟨by rfl, ?_⟩) (by assumption) ?_
        rotate_left
        · intro wq hSw
          clear hSw
          go_simp
          try (with_reducible rfl)
        refine wpAnyH_take (i := 1) (v := ?_) rfl (by kernel_rfl) (by kernel_rfl) (by kernel_rfl) (fun _ _ _ h => h) (Or.inl ⟨by rfl, ?_⟩) (by assumption) ?_
        rotate_left
        · intro wq hSw
          clear hSw
          go_simp
          try (with_reducible rfl)
        refine wpAnyH_take (i := 2) (v := ?_) rfl (by kernel_rfl) (by kernel_rfl) (by kernel_rfl) (fun _ _ _ h => h) (Or.inl ⟨by rfl, ?_⟩) (by assumption) ?_
        rotate_left
        · intro wq hSw
          have z5 := (HKc.out wq hSw).1
          clear hSw
          go_simp
          try (with_reducible rfl)
        refine wpAnyH_take (i := 3) (v := ?_) rfl (by kernel_rfl) (by kernel_rfl) (by kernel_rfl) (fun _ _ _ h => h) (Or.inl ⟨by rfl, ?_⟩) (by assumption) ?_
        rotate_left
        · intro wq hSw
          clear hSw
          go_simp
          try (with_reducible rfl)
        refine wpAnyH_take (i := 4) (v := ?_) rfl (by kernel_rfl) (by kernel_rfl) (by kernel_rfl) (fun _ _ _ h => h) (Or.inl ⟨by rfl, ?_⟩) (by assumption) ?_
        rotate_left
        · intro wq hSw
          clear hSw
          go_simp
          try (with_reducible rfl)
        refine wpAnyH_take (i := 5) (v := ?_) rfl (by kernel_rfl) (by kernel_rfl) (by kernel_rfl) (fun _ _ _ h => h) (Or.inl ⟨by rfl, ?_⟩) (by assumption) ?_
        rotate_left
        · intro wq hSw
          clear hSw
          go_simp
          try (with_reducible rfl)
        refine wpAnyH_take (i := 6) (v := ?_) rfl (by kernel_rfl) (by kernel_rfl) (by kernel_rfl) (fun _ _ _ h => h) (Or.inl ⟨by rfl, ?_⟩) (by assumption) ?_
        rotate_left
        · intro wq hSw
          obtain ⟨z5, z0, z1⟩ := HKc.out wq hSw
          clear hSw
          go_simp
          try (with_reducible rfl)
        refine wpAnyH_take (i := 7) (v := ?_) rfl (by kernel_rfl) (by kernel_rfl) (by kernel_rfl) (fun _ _ _ h => h) (Or.inl ⟨by rfl, ?_⟩) (by assumption) ?_
        rotate_left
        · intro wq hSw
          clear hSw
          go_simp
          try (with_reducible rfl)
        refine wpAnyH_take (i := 8) (v := ?_) rfl (by kernel_rfl) (by kernel_rfl) (by kernel_rfl) (fun _ _ _ h => h) (Or.inl ⟨by rfl, ?_⟩) (by assumption) ?_
        rotate_left
        · intro wq hSw
          clear hSw
          go_simp
          try (with_reducible rfl)
        refine wpAnyH_take (i := 9) (v := ?_) rfl (by kernel_rfl) (by kernel_rfl) (by kernel_rfl) (fun _ _ _ h => h) (Or.inl ⟨by rfl, ?_⟩) (by assumption) ?_
        rotate_left
        · intro wq hSw
          have z5 := (HKc.out wq hSw).1
          clear hSw
          go_simp
          try (with_reducible rfl)
        refine wpAnyH_take (i := 10) (v := ?_) rfl (by kernel_rfl) (by kernel_rfl) (by kernel_rfl) (fun _ _ _ h => h) (Or.inl ⟨by rfl, ?_⟩) (by assumption) ?_
        rotate_left
        · intro wq hSw
          clear hSw
          go_simp
          try (with_reducible rfl)
        refine wpAnyH_take (i := 11) (v := ?_) rfl (by kernel_rfl) (by kernel_rfl) (by kernel_rfl) (fun _ _ _ h => h) (Or.inl ⟨by rfl, ?_⟩) (by assumption) ?_
        rotate_left
        · intro wq hSw
          clear hSw
          go_simp
          try (with_reducible rfl)
        refine wpAnyH_take (i := 12) (v := ?_) rfl (by kernel_rfl) (by kernel_rfl) (by kernel_rfl) (fun _ _ _ h => h) (Or.inl ⟨by rfl, ?_⟩) (by assumption) ?_
        rotate_left
        · intro wq hSw
          clear hSw
          go_simp
          try (with_reducible rfl)
        refine wpAnyH_take (i := 13) (v := ?_) rfl (by kernel_rfl) (by kernel_rfl) (by kernel_rfl) (fun _ _ _ h => h) (Or.inl ⟨by rfl, ?_⟩) (by assumption) ?_
        rotate_left
        · intro wq hSw
          obtain ⟨z5, z0, z1⟩ := HKc.out wq hSw
          clear hSw
          go_simp
          try (with_reducible rfl)
        refine wpAnyH_take (i := 14) (v := ?_) rfl (by kernel_rfl) (by kernel_rfl) (by kernel_rfl) (fun _ _ _ h => h) (Or.inl ⟨by rfl, ?_⟩) (by assumption) ?_
        rotate_left
        · intro wq hSw
          clear hSw
          go_simp
          try (with_reducible rfl)
        obtain ⟨V, hV⟩ : ∃ V, (wr.alloc (.cells #[.int .u64 (X : Int), .int .u64 1, .int .u64 (Y : Int), .int .u64 2] 53)).drew = V := ⟨_, rfl⟩
        have bV : Below wr.heap.size wr V := by rw [← hV]; exact ((Below.refl _ wr).alloc (Nat.le_refl _) _).drew
        have hS3 : SlAt uc 1 V (.slice (some ⟨wr.heap.size, 0, none⟩) 4 4) (flP [(X, 1), (Y, 2)]) := by
          rw [← hV]
          exact slAt_block (cs := uc) (sz := 1) (l := flP [(X, 1), (Y, 2)]) (fun _ => rfl) (T := 53) (heap_alloc_last wr _) (by rw [flP_len]; simp)
        have HPt := hidIn (dput_any hS3 (by intro p hp; simp at hp; rcases hp with rfl | rfl; exact .inl ⟨rfl, hX⟩; exact .inr (.inl ⟨rfl, hY⟩)) (by simp))
        rw [HP.out] at HPt
        have HW := hidIn hV
        clear hV hS3
        refine wpAnyH_ready (rs := [15]) (by kernel_rfl) (by simp) ?_
        refine AllReadyH.cons rfl (fun K hK => ?_) AllReadyH.nil
        go_simp
        rw [show (World.alloc _ _).drew = V from HW.out]
        refine hK.out _ _ bV (fun _ => ?_)
        clear hK K HW
        refine wpAnyH_ready (rs := [16]) (by kernel_rfl) (by simp) ?_
        refine AllReadyH.cons rfl (fun K hK => ?_) AllReadyH.nil
        go_simp
        refine HPt.out.mono ?_
        rintro e w5 ⟨rfl, hb5⟩
        have S5 := bV.trans (hb5.mono bV.size)
        refine hK.out _ _ S5 (fun _ => ?_)
        clear hK K HPt
        refine wpAnyH_take (i := 17) (v := ?_) rfl (by kernel_rfl) (by kernel_rfl) (by kernel_rfl) (fun _ _ _ h => h) (Or.inl ⟨by rfl, ?_⟩) (by assumption) ?_
        rotate_left
        · intro wq hSw
          clear hSw
          go_simp
          rfl
        refine wpAnyH_ready (rs := [18]) (by kernel_rfl) (by simp) ?_
        refine AllReadyH.cons rfl (fun K hK => ?_) AllReadyH.nil
        go_simp
        refine hK.out _ _ S5 (fun _ => ?_)
        clear hK K
        refine wpAnyH_done (by kernel_rfl) ?_ _
        have HX5 := hidIn ((S5.block _ (block_lt HX.out)).trans HX.out)
        have HB5 := hidIn (HB.out.trans (S5.mono HB.out.size))
        clear S5 hb5 bV HKc hHeld
        go_wp2_with fail
        go_roundw
        case rel => exact ⟨k + 1, by omega, by go_num, by rw [HT.out], HX5, HB5⟩
        case measure => simp [intOf]; omega
      · have hki : ¬ ((k : Int) < (LN : Int)) := by omega
        have HTk : Hid (as'.take k = as') := hidIn (List.take_of_length_le (by rw [HLN.out]; omega))
        go_wp2_with fail
        go_ret2
        refine ⟨?_, HB.out⟩
        rw [← Hres.out]
        unfold enA
        rw [Hm.out, HTk.out, ← HR.out]
        rfl
end Go.Proofs.Ytclnhohfiimcdaa
