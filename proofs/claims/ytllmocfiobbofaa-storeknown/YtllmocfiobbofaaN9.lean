/- StoreNewest. -/
import Derived.Test.YtllmocfiobbofaaN8
import Derived.Test.YtllmocfiobbofaaXE
namespace Go.Proofs.Ytllmocfiobbofaa
open Go.RowKit Go.Maps

theorem nwst_of {O : List Rc} {i : Nat} {r : Rc} (hr : O[i]? = some r) (hok : recOk r = true) : ∃ g, runR O r.origin = some g ∧ Nwst O r.origin g := by
  cases h : runR O r.origin with
  | none => exact absurd rfl ((runR_is O r.origin).2 h r (List.mem_of_getElem? hr) hok)
  | some g => exact ⟨g, rfl, (runR_is O r.origin).1 g h⟩
theorem fR_some {f : Sf} {k : Int} {g : Rc} (h : fR f k = some g) : rOf (f k) = g ∧ (f k).isSome = true := by
  unfold fR at h
  cases h1 : f k with
  | none => rw [h1] at h; cases h
  | some p => rw [h1] at h; exact ⟨by simpa [rOf] using h, rfl⟩
theorem SlAt.sts {w : World} {a : Option Addr} {n cap : Nat} {l : List Ed} (h : SlAt sc3 3 w (.slice a n cap) l) : 0 < n → ∃ bk o, a = some ⟨bk, o, none⟩ ∧ bk < w.heap.size ∧ ∀ j x, l[j]? = some x → w.cell? ⟨bk, o + j * 3, none⟩ = some (.int .i64 x.1) ∧ w.cell? ⟨bk, o + j * 3 + 1, none⟩ = some (.int .u32 x.2.1) ∧ w.cell? ⟨bk, o + j * 3 + 2, none⟩ = some (.int .u32 x.2.2) := by
  obtain ⟨a', cap', he, h0, h1, h2⟩ := h
  simp only [Value.slice.injEq] at he
  obtain ⟨rfl, rfl, rfl⟩ := he
  intro hp
  obtain ⟨bk, o, rfl, h3, h4⟩ := h2 hp
  exact ⟨bk, o, rfl, h3, fun j z hz => ⟨h4 j z hz 0 _ rfl, h4 j z hz 1 _ rfl, h4 j z hz 2 _ rfl⟩⟩
theorem eqSt (a b : Ed) (w : World) : (Op.equalIn 10000 72 (.agg #[.int .i64 a.1, .int .u32 a.2.1, .int .u32 a.2.2]) (.agg #[.int .i64 b.1, .int .u32 b.2.1, .int .u32 b.2.2])).run Try.prog w = Result.ok (decide (a = b)) w := by
  rw [eq_stamp]
  obtain ⟨a0, a1, a2⟩ := a
  obtain ⟨b0, b1, b2⟩ := b
  congr 1
  by_cases h : ((a0, a1, a2) : Ed) = (b0, b1, b2)
  · rw [decide_eq_true h]
    simp only [Prod.mk.injEq] at h
    simp [h]
  · rw [decide_eq_false h]
    simp only [Prod.mk.injEq] at h
    simp only [Bool.and_eq_false_iff, beq_eq_false_iff_ne]
    omega
set_option maxRecDepth 100000 in
set_option maxHeartbeats 4000000 in
theorem storeNewest_walk {L : List Te} {v : Value} {w : World} (h : SlAt te4 4 w v L) (hB : TeB L) :
    Calls Try.prog 5 #[v] w fun e w' => e = .returned (.bool true) ∧ Below w.heap.size w w' := by
  have HF1 := hidIn (fun t wq (hq : Below w.heap.size w wq) => filled_any (t := t) (h.keep hq (Nat.le_refl _)) hB)
  obtain ⟨aa, cap, rfl, hl, _, hat⟩ := h.tes
  obtain ⟨LL, hLL⟩ : ∃ LL, L.length = LL := ⟨_, rfl⟩
  obtain ⟨n, hn⟩ : ∃ n, min LL 40 = n := ⟨_, rfl⟩
  rw [hLL] at hat hl HF1 ⊢
  have hmin : (if (40 : Int) < (LL : Int) then (40 : Int) else (LL : Int)) = (n : Int) := by split <;> omega
  have hnL : n ≤ LL := by omega
  obtain ⟨O, hO⟩ : ∃ O, (L.take 40).map tellR = O := ⟨_, rfl⟩
  have HOl : Hid (O.length = n) := hidIn (by rw [← hO, List.length_map, List.length_take, hLL]; omega)
  have HO0 : Hid (ordT false (L.take 40) = O) := hidIn hO
  have HO1 : Hid (∀ r, r ∈ O ↔ r ∈ ordT true (L.take 40)) := hidIn fun r => by rw [← hO]; simp [ordT]
  have HEl : Hid (∀ k, k < n → ∃ x, L[k]? = some x ∧ O[k]? = some (tellR x)) := hidIn fun k hk => by
    have h1 : k < L.length := by omega
    refine ⟨L[k], List.getElem?_eq_getElem h1, ?_⟩
    rw [← hO, List.getElem?_map, List.getElem?_take, if_pos (by omega), List.getElem?_eq_getElem h1]
    rfl
  have Hat := hidIn hat
  have HBt := hidIn hB
  clear hat h hB hLL hn hO
  go_enter Try.func5, Try.ntmps5
  go_wp2_with fail
  refine (HF1.out false w (Below.refl _ _)).mono ?_
  rintro e w2 ⟨⟨S1, M1, f1, rfl, hs1, hf1, _, hm1⟩, hb2⟩
  have H1 := hidIn hs1
  have HB2 := hidIn hb2
  rw [HO0.out] at hf1
  have Hf1 := hidIn hf1
  clear hs1 hf1 hm1 hb2
  go_wp2_with fail
  refine (HF1.out true w2 HB2.out).mono ?_
  rintro e w3 ⟨⟨S2, M2, f2, rfl, hs2, hf2, _, hm2⟩, hb3⟩
  have HS1 := hidIn (H1.out.keep hb3)
  have HS2 := hidIn hs2
  have HB3 := hidIn (HB2.out.trans (hb3.mono HB2.out.size))
  have HST : Hid ((allL f1 24).map stOf = (allL f2 24).map stOf) := hidIn (by
    rw [allL_fR, allL_fR, Hf1.out, hf2]
    exact allR_stamps (runR_stamps HO1.out) 24)
  clear hs2 hf2 hm2 hb3 H1 HB2 HF1 HO0 HO1
  go_wp2_with fail
  go_loopw [6] (fun i wr => ∃ k : Nat, k ≤ n ∧ i = .int .i64 k ∧ Hid (Below w3.heap.size w3 wr)) (fun i _ => n - (intOf i).toNat)
  case atStart => exact ⟨0, Nat.zero_le _, rfl, hidIn (Below.refl _ _)⟩
  case round =>
    obtain ⟨k, hk, rfl, HR⟩ := hrel
    by_cases hlt : k < n
    · have hki : (k : Int) < (n : Int) := by omega
      have hkL : (k : Int) < (LL : Int) := by omega
      obtain ⟨bk, o, rfl, hbk, hcell⟩ := Hat.out (by omega)
      have HCl : Hid (∀ j x, L[j]? = some x → ∀ wq, Below w3.heap.size w3 wq → wq.cell? ⟨bk, o + j * 4, none⟩ = some (.int .u8 x.1) ∧ wq.cell? ⟨bk, o + j * 4 + 1, none⟩ = some (.int .u8 x.2.1) ∧ wq.cell? ⟨bk, o + j * 4 + 2, none⟩ = some (.int .u8 x.2.2.1) ∧ wq.cell? ⟨bk, o + j * 4 + 3, none⟩ = some (.int .u8 x.2.2.2)) := hidIn fun j x hx wq hq => by
        obtain ⟨q0, q1, q2, q3⟩ := hcell j x hx
        have hb := HB3.out.trans (hq.mono HB3.out.size)
        exact ⟨(hb.cell (p := ⟨bk, o + j * 4, none⟩) hbk).trans q0, (hb.cell (p := ⟨bk, o + j * 4 + 1, none⟩) hbk).trans q1, (hb.cell (p := ⟨bk, o + j * 4 + 2, none⟩) hbk).trans q2, (hb.cell (p := ⟨bk, o + j * 4 + 3, none⟩) hbk).trans q3⟩
      clear hcell hbk
      obtain ⟨x, hx, hOk⟩ := HEl.out k hlt
      obtain ⟨p0, p1, p2, p3⟩ := HCl.out k x hx wr HR.out
      have hxB := HBt.out x (List.mem_of_getElem? hx)
      obtain ⟨xA, xB, xC, xD⟩ := x
      simp only at p0 p1 p2 p3 hxB
      have HOf := hidIn (fun wq => lof_any hxB.1 hxB.2.1 hxB.2.2.1 hxB.2.2.2 wq)
      have hok := tellR_ok (x := (xA, xB, xC, xD)) hxB.2.2.2
      have hr0 : (tellR (xA, xB, xC, xD)).adjs = [] := rfl
      generalize tellR (xA, xB, xC, xD) = r at HOf hok hr0 hOk
      obtain ⟨g, hg, hN⟩ := nwst_of hOk hok
      rw [← Hf1.out] at hg
      obtain ⟨hgr, hgs⟩ := fR_some hg
      have HG : Hid (∀ wq, Below w3.heap.size w3 wq → Calls Try.prog 18 #[ptr S1, .int .i64 r.origin] wq fun e w' => (∃ a c, e = .returned (.tuple #[recV g (.slice a g.adjs.length c), .bool true]) ∧ SlAt ac 2 w' (.slice a g.adjs.length c) g.adjs) ∧ Below wq.heap.size wq w') := hidIn fun wq hq => (sget_any (HS1.out.keep hq) (k := r.origin) (wf9 (by have := recOk_pos hok; omega))).mono fun e w' h => by
        obtain ⟨⟨a, c, h1, h2, _⟩, h3⟩ := h
        rw [hgr, hgs] at h1
        rw [hgr] at h2
        exact ⟨⟨a, c, h1, h2⟩, h3⟩
      have hnn : ¬ newI g.epoch g.seq r.epoch r.seq < 0 := by
        have h1 := hN.top r (List.mem_of_getElem? hOk) rfl hok
        rw [newI_neg] at h1
        have := newI_neg g.epoch g.seq r.epoch r.seq
        omega
      have HN := hidIn hN
      have Hr0 := hidIn hr0
      have HOk := hidIn hOk
      have Hok := hidIn hok
      clear hx hxB hok hr0 hg hgr hgs hN hOk
      go_wp2_with fail
      refine (HOf.out _).mono ?_
      rintro e w4 ⟨rfl, hb4⟩
      have HB4 := hidIn (HR.out.trans (hb4.mono HR.out.size))
      clear hb4 HOf p0 p1 p2 p3 HR
      obtain ⟨W5, hW5⟩ : ∃ W5, w4.alloc (.cells #[.int .i64 r.origin, .int .u32 r.epoch, .int .u32 r.seq, .int .i64 r.claim, .bool r.ing, .slice none 0 0] 28) = W5 := ⟨_, rfl⟩
      have b5 : Below w4.heap.size w4 W5 := by rw [← hW5]; exact (Below.refl _ w4).alloc (Nat.le_refl _) _
      have hX : W5.heap[w4.heap.size]? = some (.cells #[.int .i64 r.origin, .int .u32 r.epoch, .int .u32 r.seq, .int .i64 r.claim, .bool r.ing, .slice none 0 0] 28) := by rw [← hW5]; exact heap_alloc_last w4 _
      have HB5 := hidIn (HB4.out.trans (b5.mono HB4.out.size))
      have HW := hidIn hW5
      have HX := hidIn hX
      have y0 := cell_of_row _ _ 0 _ _ _ hX
      simp at y0
      obtain ⟨b7, hb7⟩ : ∃ b7, w4.heap.size = b7 := ⟨_, rfl⟩
      have Hb7 := hidIn hb7
      rw [hb7] at HX y0
      clear hW5 b5 hX HB4
      go_upto_region 9 with fail
      rw [HW.out]
      clear HW hb7
      go_wp2_with fail
      refine (HG.out _ HB5.out).mono ?_
      rintro e w6 ⟨⟨a, c, rfl, hsl⟩, hb6⟩
      obtain ⟨gl, hgl⟩ : ∃ gl, g.adjs.length = gl := ⟨_, rfl⟩
      rw [hgl] at hsl ⊢
      obtain ⟨W7, hW7⟩ : ∃ W7, w6.alloc (.cells #[.int .i64 g.origin, .int .u32 g.epoch, .int .u32 g.seq, .int .i64 g.claim, .bool g.ing, .slice a gl c] 28) = W7 := ⟨_, rfl⟩
      have b7' : Below w6.heap.size w6 W7 := by rw [← hW7]; exact (Below.refl _ w6).alloc (Nat.le_refl _) _
      have HX7 := hidIn ((b7'.block _ (block_lt ((hb6.block _ (block_lt HX.out)).trans HX.out))).trans ((hb6.block _ (block_lt HX.out)).trans HX.out))
      have HY7 : Hid (W7.heap[w6.heap.size]? = some (.cells #[.int .i64 g.origin, .int .u32 g.epoch, .int .u32 g.seq, .int .i64 g.claim, .bool g.ing, .slice a gl c] 28)) := hidIn (by rw [← hW7]; exact heap_alloc_last w6 _)
      have HB7 := hidIn ((HB5.out.trans (hb6.mono HB5.out.size)).trans (b7'.mono (HB5.out.trans (hb6.mono HB5.out.size)).size))
      have Hsl7 := hidIn (hsl.keep b7' (Nat.le_refl _))
      obtain ⟨b8, hb8⟩ : ∃ b8, w6.heap.size = b8 := ⟨_, rfl⟩
      rw [hb8] at HY7
      have HW := hidIn hW7
      have Hgl := hidIn hgl
      clear hsl hb6 b7' hW7 HX HB5 HG y0 hgl
      go_upto_region 10 with fail
      rw [HW.out]
      clear HW hb8
      have x0 := cell_of_row _ _ 0 _ _ _ HX7.out
      have x1 := cell_of_row _ _ 1 _ _ _ HX7.out
      have x2 := cell_of_row _ _ 2 _ _ _ HX7.out
      have x3 := cell_of_row _ _ 3 _ _ _ HX7.out
      have x4 := cell_of_row _ _ 4 _ _ _ HX7.out
      have x5 := cell_of_row _ _ 5 _ _ _ HX7.out
      have z0 := cell_of_row _ _ 0 _ _ _ HY7.out
      have z1 := cell_of_row _ _ 1 _ _ _ HY7.out
      have z2 := cell_of_row _ _ 2 _ _ _ HY7.out
      have z3 := cell_of_row _ _ 3 _ _ _ HY7.out
      have z4 := cell_of_row _ _ 4 _ _ _ HY7.out
      have z5 := cell_of_row _ _ 5 _ _ _ HY7.out
      simp at x0 x1 x2 x3 x4 x5 z0 z1 z2 z3 z4 z5
      have kx0 := cell_regrown x0
      have kx1 := cell_regrown x1
      have kx2 := cell_regrown x2
      have kx3 := cell_regrown x3
      have kx4 := cell_regrown x4
      have kx5 := cell_regrown x5
      have kz0 := cell_regrown z0
      have kz1 := cell_regrown z1
      have kz2 := cell_regrown z2
      have kz3 := cell_regrown z3
      have kz4 := cell_regrown z4
      have kz5 := cell_regrown z5
      refine wp_region_quiet_below (by kernel_rfl) (by kernel_rfl) ?_
      repeat (go_big_quiet_step (first
        | (go_at_call 34; exact Calls.regrown_of (stamp_lit _ _ _ _ _ _ _ _ _))
        | (go_at_call 33; exact Calls.regrown_of (newer_any _ _ _ _ _ _ _))))
      refine wpQuiet_nil ?_
      rintro _ ⟨⟨dq, osq⟩, rfl⟩
      have hbr := below_regrown W7 dq osq
      generalize Go.Sort.grow (redrawn W7 dq) osq = W8 at hbr ⊢
      have HX8 := hidIn ((hbr.block _ (block_lt HX7.out)).trans HX7.out)
      have HY8 := hidIn ((hbr.block _ (block_lt HY7.out)).trans HY7.out)
      have HB8 := hidIn (HB7.out.trans (hbr.mono HB7.out.size))
      have Hsl8 := hidIn (Hsl7.out.keep hbr (Nat.le_refl _))
      clear hbr HX7 HY7 HB7 Hsl7 x0 x1 x2 x3 x4 x5 z0 z1 z2 z3 z4 z5 kx0 kx1 kx2 kx3 kx4 kx5 kz0 kz1 kz2 kz3 kz4 kz5
      have hne : (decide (newI g.epoch g.seq r.epoch r.seq < 0)) = false := by simpa using hnn
      generalize newI g.epoch g.seq r.epoch r.seq = nn at hne hnn ⊢
      have x0 := cell_of_row _ _ 0 _ _ _ HX8.out
      have x1 := cell_of_row _ _ 1 _ _ _ HX8.out
      have x2 := cell_of_row _ _ 2 _ _ _ HX8.out
      have x3 := cell_of_row _ _ 3 _ _ _ HX8.out
      have x4 := cell_of_row _ _ 4 _ _ _ HX8.out
      have x5 := cell_of_row _ _ 5 _ _ _ HX8.out
      have z0 := cell_of_row _ _ 0 _ _ _ HY8.out
      have z1 := cell_of_row _ _ 1 _ _ _ HY8.out
      have z2 := cell_of_row _ _ 2 _ _ _ HY8.out
      have z3 := cell_of_row _ _ 3 _ _ _ HY8.out
      have z4 := cell_of_row _ _ 4 _ _ _ HY8.out
      have z5 := cell_of_row _ _ 5 _ _ _ HY8.out
      simp at x0 x1 x2 x3 x4 x5 z0 z1 z2 z3 z4 z5
      have kx0 := cell_regrown x0
      have kx1 := cell_regrown x1
      have kx2 := cell_regrown x2
      have kx3 := cell_regrown x3
      have kx4 := cell_regrown x4
      have kx5 := cell_regrown x5
      have kz0 := cell_regrown z0
      have kz1 := cell_regrown z1
      have kz2 := cell_regrown z2
      have kz3 := cell_regrown z3
      have kz4 := cell_regrown z4
      have kz5 := cell_regrown z5
      by_cases hst : stOf g = stOf r
      · have heq : ∀ w, (Op.equalIn 10000 72 (.agg #[.int .i64 g.origin, .int .u32 g.epoch, .int .u32 g.seq]) (.agg #[.int .i64 r.origin, .int .u32 r.epoch, .int .u32 r.seq])).run Try.prog w = Result.ok true w := fun w => (eqSt (stOf g) (stOf r) w).trans (by rw [decide_eq_true hst])
        have Hst := hidIn hst
        clear hst
        go_upto_region 12 with fail
        refine wp_region_quiet_below (by kernel_rfl) (by kernel_rfl) ?_
        repeat (go_big_quiet_step (first
          | (go_at_call 34; exact Calls.regrown_of (stamp_lit _ _ _ _ _ _ _ _ _))))
        refine wpQuiet_nil ?_
        rintro _ ⟨⟨dq, osq⟩, rfl⟩
        have hbr := below_regrown W8 dq osq
        generalize Go.Sort.grow (redrawn W8 dq) osq = W9 at hbr ⊢
        have HX9 := hidIn ((hbr.block _ (block_lt HX8.out)).trans HX8.out)
        have HY9 := hidIn ((hbr.block _ (block_lt HY8.out)).trans HY8.out)
        have HB9 := hidIn (HB8.out.trans (hbr.mono HB8.out.size))
        have Hsl9 := hidIn (Hsl8.out.keep hbr (Nat.le_refl _))
        clear hbr HX8 HY8 HB8 Hsl8 x0 x1 x2 x3 x4 x5 z0 z1 z2 z3 z4 z5 kx0 kx1 kx2 kx3 kx4 kx5 kz0 kz1 kz2 kz3 kz4 kz5 heq
        have HSame : Hid ((∀ i x, O[i]? = some x → i < k → stOf x ≠ stOf r) → ∀ wq, Below W9.heap.size W9 wq → Calls Try.prog 35 #[recV g (.slice a gl c), recV r (.slice none 0 0)] wq fun e w' => e = .returned (.bool true) ∧ Below wq.heap.size wq w') := hidIn fun hfst wq hq => by
          have hgr : r = g := HN.out.fst k r HOk.out Hok.out Hst.out.symm hfst
          have h1 := recSame_any (r := g) (s := r) (w := wq) (Hsl9.out.keep hq (Nat.le_refl _)) (vb := .slice none 0 0) (by rw [Hr0.out]; exact nilAdj wq)
          have h2 : sameB g r = true := by rw [hgr]; simp [sameB]
          rw [h2] at h1
          exact h1
        clear Hsl9
        go_wp2_with fail
        go_loopw [10, 11] (fun b q wr => ∃ (j : Nat) (fb : Bool), j ≤ k ∧ q = .int .i64 j ∧ b = .bool fb ∧ Hid (Below W9.heap.size W9 wr ∧ (fb = true ↔ ∀ i x, O[i]? = some x → i < j → stOf x ≠ stOf r))) (fun _ q _ => k - (intOf q).toNat)
        case atStart => exact ⟨0, true, Nat.zero_le _, rfl, rfl, hidIn ⟨Below.refl _ _, by simp⟩⟩
        case round =>
          obtain ⟨j, fb, hj, rfl, rfl, HI⟩ := hrel
          by_cases hjk : j < k
          · have hji : (j : Int) < (k : Int) := by omega
            have hjL : (j : Int) < (LL : Int) := by omega
            obtain ⟨x', hx', hOj⟩ := HEl.out j (by omega)
            have HStep : Hid (∀ fb' : Bool, (fb' = true ↔ (fb = true ∧ stOf (tellR x') ≠ stOf r)) → (fb' = true ↔ ∀ i x, O[i]? = some x → i < j + 1 → stOf x ≠ stOf r)) := hidIn fun fb' hfb' => by
              rw [hfb', HI.out.2]
              constructor
              · rintro ⟨h1, h2⟩ i y hy hi
                by_cases hij : i = j
                · subst hij; rw [hOj] at hy; cases hy; exact h2
                · exact h1 i y hy (by omega)
              · intro h1
                exact ⟨fun i y hy hi => h1 i y hy (by omega), h1 j _ hOj (by omega)⟩
            cases fb with
            | false =>
              go_upto_region 17 with fail
              go_quiet (fail)
              generalize hV : World.drewN wr _ = V
              have HBV : Hid (Below W9.heap.size W9 V) := hidIn (by rw [← hV]; exact HI.out.1.trans (((Fr.refl (fun _ => False) wr).drewN _).below HI.out.1.size (fun _ h => h.elim)))
              have HS2' := hidIn (HStep.out false (by simp))
              clear hV HI HStep
              go_wp2_with fail
              go_roundw
              case rel => exact ⟨j + 1, false, by omega, by go_num, rfl, hidIn ⟨HBV.out, HS2'.out⟩⟩
              case measure => simp [intOf]; omega
            | true =>
              obtain ⟨p0, p1, p2, p3⟩ := HCl.out j x' hx' wr (HB9.out.trans (HI.out.1.mono HB9.out.size))
              have hxB := HBt.out x' (List.mem_of_getElem? hx')
              have hX10 := (HI.out.1.block _ (block_lt HX9.out)).trans HX9.out
              obtain ⟨yA, yB, yC, yD⟩ := x'
              simp only at p0 p1 p2 p3 hxB
              have HOf := hidIn (fun wq => lof_any hxB.1 hxB.2.1 hxB.2.2.1 hxB.2.2.2 wq)
              generalize tellR (yA, yB, yC, yD) = r' at HOf HStep hOj
              have x0 := cell_of_row _ _ 0 _ _ _ hX10
              have x1 := cell_of_row _ _ 1 _ _ _ hX10
              have x2 := cell_of_row _ _ 2 _ _ _ hX10
              have x3 := cell_of_row _ _ 3 _ _ _ hX10
              have x4 := cell_of_row _ _ 4 _ _ _ hX10
              have x5 := cell_of_row _ _ 5 _ _ _ hX10
              simp at x0 x1 x2 x3 x4 x5
              have kx0 := cell_regrown x0
              have kx1 := cell_regrown x1
              have kx2 := cell_regrown x2
              have kx3 := cell_regrown x3
              have kx4 := cell_regrown x4
              have kx5 := cell_regrown x5
              have kp0 := cell_regrown p0
              have kp1 := cell_regrown p1
              have kp2 := cell_regrown p2
              have kp3 := cell_regrown p3
              generalize hbb : decide (stOf r' = stOf r) = bb
              have heq : ∀ w, (Op.equalIn 10000 72 (.agg #[.int .i64 r'.origin, .int .u32 r'.epoch, .int .u32 r'.seq]) (.agg #[.int .i64 r.origin, .int .u32 r.epoch, .int .u32 r.seq])).run Try.prog w = Result.ok bb w := fun w => (eqSt (stOf r') (stOf r) w).trans (by rw [hbb])
              have HS2' := hidIn (HStep.out (!bb) (by rw [← hbb]; simp))
              clear hX10 hx' hOj hxB HStep hbb
              go_upto_region 17 with fail
              refine wp_region_quiet_below (by kernel_rfl) (by kernel_rfl) ?_
              repeat (go_big_quiet_step (first
                | (go_at_call 32; exact Calls.regrown_of (HOf.out _))
                | (go_at_call 34; exact Calls.regrown_of (stamp_lit _ _ _ _ _ _ _ _ _))))
              refine wpQuiet_nil ?_
              rintro _ ⟨⟨dq, osq⟩, rfl⟩
              have hbr := below_regrown wr dq osq
              generalize Go.Sort.grow (redrawn wr dq) osq = V at hbr ⊢
              have HBV := hidIn (HI.out.1.trans (hbr.mono HI.out.1.size))
              clear hbr HI HOf heq x0 x1 x2 x3 x4 x5 kx0 kx1 kx2 kx3 kx4 kx5 p0 p1 p2 p3 kp0 kp1 kp2 kp3
              go_wp2_with fail
              go_roundw
              case rel => exact ⟨j + 1, !bb, by omega, by go_num, rfl, hidIn ⟨HBV.out, HS2'.out⟩⟩
              case measure => simp [intOf]; omega
          · have hji : ¬ (j : Int) < (k : Int) := by omega
            cases fb with
            | false =>
              have HBo := hidIn (HB9.out.trans (HI.out.1.mono HB9.out.size))
              clear HI
              go_wp2_with fail
              go_roundw
              case rel => exact ⟨k + 1, by omega, by go_num, HBo⟩
              case measure => simp [intOf]; omega
            | true =>
              have HSm := hidIn (HSame.out (fun i x hx hi => (HI.out.2.1 rfl) i x hx (by omega)) wr HI.out.1)
              have hX10 := (HI.out.1.block _ (block_lt HX9.out)).trans HX9.out
              have hY10 := (HI.out.1.block _ (block_lt HY9.out)).trans HY9.out
              have x0 := cell_of_row _ _ 0 _ _ _ hX10
              have x1 := cell_of_row _ _ 1 _ _ _ hX10
              have x2 := cell_of_row _ _ 2 _ _ _ hX10
              have x3 := cell_of_row _ _ 3 _ _ _ hX10
              have x4 := cell_of_row _ _ 4 _ _ _ hX10
              have x5 := cell_of_row _ _ 5 _ _ _ hX10
              have z0 := cell_of_row _ _ 0 _ _ _ hY10
              have z1 := cell_of_row _ _ 1 _ _ _ hY10
              have z2 := cell_of_row _ _ 2 _ _ _ hY10
              have z3 := cell_of_row _ _ 3 _ _ _ hY10
              have z4 := cell_of_row _ _ 4 _ _ _ hY10
              have z5 := cell_of_row _ _ 5 _ _ _ hY10
              simp at x0 x1 x2 x3 x4 x5 z0 z1 z2 z3 z4 z5
              have HBo := hidIn (HB9.out.trans (HI.out.1.mono HB9.out.size))
              clear HI hX10 hY10
              go_wp2_with fail
              refine HSm.out.mono ?_
              rintro e wz ⟨rfl, hbz⟩
              have HBz := hidIn (HBo.out.trans (hbz.mono HBo.out.size))
              clear hbz HSm HBo x0 x1 x2 x3 x4 x5 z0 z1 z2 z3 z4 z5
              go_wp2_with fail
              go_roundw
              case rel => exact ⟨k + 1, by omega, by go_num, HBz⟩
              case measure => simp [intOf]; omega
      · have heq : ∀ w, (Op.equalIn 10000 72 (.agg #[.int .i64 g.origin, .int .u32 g.epoch, .int .u32 g.seq]) (.agg #[.int .i64 r.origin, .int .u32 r.epoch, .int .u32 r.seq])).run Try.prog w = Result.ok false w := fun w => (eqSt (stOf g) (stOf r) w).trans (by rw [decide_eq_false hst])
        clear hst
        go_upto_region 12 with fail
        refine wp_region_quiet_below (by kernel_rfl) (by kernel_rfl) ?_
        repeat (go_big_quiet_step (first
          | (go_at_call 34; exact Calls.regrown_of (stamp_lit _ _ _ _ _ _ _ _ _))))
        refine wpQuiet_nil ?_
        rintro _ ⟨⟨dq, osq⟩, rfl⟩
        have hbr := below_regrown W8 dq osq
        generalize Go.Sort.grow (redrawn W8 dq) osq = W9 at hbr ⊢
        have HB9 := hidIn (HB8.out.trans (hbr.mono HB8.out.size))
        clear hbr HX8 HY8 HB8 Hsl8 x0 x1 x2 x3 x4 x5 z0 z1 z2 z3 z4 z5 kx0 kx1 kx2 kx3 kx4 kx5 kz0 kz1 kz2 kz3 kz4 kz5 heq
        go_wp2_with fail
        go_roundw
        case rel => exact ⟨k + 1, by omega, by go_num, HB9⟩
        case measure => simp [intOf]; omega
    · have hki : ¬ (k : Int) < (n : Int) := by omega
      obtain ⟨T, hT⟩ : ∃ T, (allL f1 24).map stOf = T := ⟨_, rfl⟩
      have HA := hidIn (sstamps_any (HS1.out.keep HR.out))
      rw [hT] at HA
      have HTr : Hid (T.Pairwise (fun a b => a.1 < b.1)) := hidIn (by
        rw [← hT, List.pairwise_map, allL_fR, Hf1.out]
        exact (allR_rise (fun k g hg => ((runR_is O k).1 g hg).org) 24).1)
      have hT24 : T.length ≤ 24 := by rw [← hT, List.length_map]; exact allL_len f1 24
      have HT1 : Hid ((allL f1 24).length = T.length) := hidIn (by rw [← hT, List.length_map])
      have HT2 : Hid ((allL f2 24).map stOf = T) := hidIn (by rw [← HST.out, hT])
      clear hT
      go_wp2_with fail
      refine HA.out.mono ?_
      rintro e w4 ⟨⟨ua, rfl, hra⟩, hb4⟩
      have HB4 := hidIn (HR.out.trans (hb4.mono HR.out.size))
      have HB := hidIn (sstamps_any (HS2.out.keep HB4.out))
      rw [HT2.out] at HB
      have Hra := hidIn (slAt_of_row (cs := sc3) (fun _ => rfl) hra rfl)
      obtain ⟨aa1, ac1, rfl⟩ := row_shape hra
      clear hra hb4 HA
      go_wp2_with fail
      refine HB.out.mono ?_
      rintro e w5 ⟨⟨ub, rfl, hrb⟩, hb5⟩
      have HB5 := hidIn (HB4.out.trans (hb5.mono HB4.out.size))
      have HC := hidIn (sall_any (HS1.out.keep HB5.out))
      have Hra5 := hidIn (Hra.out.keep hb5 (Nat.le_refl _))
      have Hrb := hidIn (slAt_of_row (cs := sc3) (fun _ => rfl) hrb rfl)
      obtain ⟨aa2, ac2, rfl⟩ := row_shape hrb
      clear hrb hb5 HB Hra HB4
      go_wp2_with fail
      refine HC.out.mono ?_
      rintro e w6 ⟨⟨uc, Lc, rfl, hrc, hrs, _⟩, hb6⟩
      have hLc : Lc.length = T.length := by rw [← HT1.out, ← hrs, List.length_map]
      obtain ⟨aa3, ac3, rfl⟩ := row_shape hrc
      have HB6 := hidIn (HB5.out.trans (hb6.mono HB5.out.size))
      have Hra6 := hidIn ((Hra5.out.keep hb6 (Nat.le_refl _)).sts)
      have Hrb6 := hidIn ((Hrb.out.keep hb6 (Nat.le_refl _)).sts)
      rw [hLc]
      obtain ⟨TL, hTL⟩ : ∃ TL, T.length = TL := ⟨_, rfl⟩
      rw [hTL] at hT24 Hra6 Hrb6 ⊢
      have HTL := hidIn hTL
      clear hrc hrs hb6 HC Hra5 Hrb HB5 hLc hTL
      go_wp2_with fail
      go_loopw [14] (fun q wr => ∃ j : Nat, j ≤ TL ∧ q = .int .i64 j ∧ Hid (Below w6.heap.size w6 wr)) (fun q _ => TL - (intOf q).toNat)
      case atStart => exact ⟨0, Nat.zero_le _, rfl, hidIn (Below.refl _ _)⟩
      case round =>
        obtain ⟨j, hj, rfl, HI⟩ := hrel
        by_cases hjk : j < TL
        · have hji : (j : Int) < (TL : Int) := by omega
          obtain ⟨b1, o1, rfl, hb1, hc1⟩ := Hra6.out (by omega)
          obtain ⟨b2, o2, rfl, hb2, hc2⟩ := Hrb6.out (by omega)
          obtain ⟨y, hy⟩ : ∃ y, T[j]? = some y := ⟨T[j]'(by rw [HTL.out]; exact hjk), List.getElem?_eq_getElem _⟩
          obtain ⟨p0, p1, p2⟩ := hc1 j y hy
          obtain ⟨q0, q1, q2⟩ := hc2 j y hy
          have x0 := (HI.out.cell (p := ⟨b1, o1 + j * 3, none⟩) hb1).trans p0
          have x1 := (HI.out.cell (p := ⟨b1, o1 + j * 3 + 1, none⟩) hb1).trans p1
          have x2 := (HI.out.cell (p := ⟨b1, o1 + j * 3 + 2, none⟩) hb1).trans p2
          have z0 := (HI.out.cell (p := ⟨b2, o2 + j * 3, none⟩) hb2).trans q0
          have z1 := (HI.out.cell (p := ⟨b2, o2 + j * 3 + 1, none⟩) hb2).trans q1
          have z2 := (HI.out.cell (p := ⟨b2, o2 + j * 3 + 2, none⟩) hb2).trans q2
          have heq : ∀ w, (Op.equalIn 10000 72 (.agg #[.int .i64 y.1, .int .u32 y.2.1, .int .u32 y.2.2]) (.agg #[.int .i64 y.1, .int .u32 y.2.1, .int .u32 y.2.2])).run Try.prog w = Result.ok true w := fun w => (eqSt y y w).trans (by simp)
          by_cases hj0 : j = 0
          · subst hj0
            clear p0 p1 p2 q0 q1 q2 hc1 hc2 hy
            simp at x0 x1 x2 z0 z1 z2
            go_upto_region 26 with fail
            go_quiet (fail)
            generalize hV : World.drewN wr _ = V
            have HBV : Hid (Below w6.heap.size w6 V) := hidIn (by rw [← hV]; exact HI.out.trans (((Fr.refl (fun _ => False) wr).drewN _).below HI.out.size (fun _ h => h.elim)))
            clear hV HI x0 x1 x2 z0 z1 z2 heq
            go_wp2_with fail
            go_roundw
            case rel => exact ⟨1, by omega, by go_num, HBV⟩
            case measure => simp [intOf]; omega
          · obtain ⟨m, rfl⟩ : ∃ m, j = m + 1 := ⟨j - 1, by omega⟩
            obtain ⟨y', hy'⟩ : ∃ y', T[m]? = some y' := ⟨T[m]'(by rw [HTL.out]; omega), List.getElem?_eq_getElem _⟩
            obtain ⟨r0, _, _⟩ := hc1 m y' hy'
            have x3 := (HI.out.cell (p := ⟨b1, o1 + m * 3, none⟩) hb1).trans r0
            have hlt' : y'.1 < y.1 := by
              have h1 := List.pairwise_iff_getElem.1 HTr.out m (m + 1) (by rw [HTL.out]; omega) (by rw [HTL.out]; omega) (by omega)
              rw [(List.getElem?_eq_some_iff.1 hy').2, (List.getElem?_eq_some_iff.1 hy).2] at h1
              exact h1
            have hge : decide (y.1 ≤ y'.1) = false := by simp; omega
            have hge2 : ¬ y.1 ≤ y'.1 := by omega
            have hmL : (m : Int) < (TL : Int) := by omega
            have hm1 : (m : Int) + 1 < (TL : Int) := by omega
            clear p0 p1 p2 q0 q1 q2 hc1 hc2 hy hy' r0 hj0
            go_upto_region 26 with fail
            go_quiet (fail)
            generalize hV : World.drewN wr _ = V
            have HBV : Hid (Below w6.heap.size w6 V) := hidIn (by rw [← hV]; exact HI.out.trans (((Fr.refl (fun _ => False) wr).drewN _).below HI.out.size (fun _ h => h.elim)))
            clear hV HI x0 x1 x2 x3 z0 z1 z2 heq
            go_wp2_with fail
            go_roundw
            case rel => exact ⟨m + 1 + 1, by omega, by go_num, HBV⟩
            case measure => simp [intOf]; omega
        · have hji : ¬ (j : Int) < (TL : Int) := by omega
          have HBo := hidIn (HB6.out.trans (HI.out.mono HB6.out.size))
          clear HI
          go_wp2_with fail
          refine (sworks_any _).mono ?_
          rintro e wz ⟨rfl, hbz⟩
          have HBz := hidIn ((HB3.out.trans (HBo.out.mono HB3.out.size)).trans (hbz.mono (HB3.out.trans (HBo.out.mono HB3.out.size)).size))
          clear hbz HBo
          go_wp2_with fail
          go_ret
          exact ⟨rfl, HBz.out⟩
end Go.Proofs.Ytllmocfiobbofaa
