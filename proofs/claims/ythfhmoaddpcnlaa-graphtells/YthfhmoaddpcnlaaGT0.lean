/- The document's Near. -/
import Derived.Test.YthfhmoaddpcnlaaGS
namespace Go.Proofs.Ythfhmoaddpcnlaa
open Go.RowKit

set_option maxRecDepth 100000 in
set_option maxHeartbeats 2000000 in
theorem rnear_any {ns : List Int} {es : List Ed} {vn ve : Value} {w : World} (h : GrAt w vn ve ns es) (n : Int) :
    Calls Try.prog 11 #[grV vn ve, .int .i64 n] w fun e w' =>
      (((graphOk ns es && hasN ns n) = true ∧ ∃ u, e = .returned (.tuple #[u, .int .i64 0]) ∧ w'.ownsRow w.heap.size 37 2 u (nearL es n).length (fl ac (nearL es n))) ∨ ((graphOk ns es && hasN ns n) = false ∧ e = .returned (.tuple #[.slice none 0 0, .int .i64 2]))) ∧ Below w.heap.size w w' := by
  have Hgr := hidIn h
  obtain ⟨ea, eca, rfl, hel, _, hea⟩ := h.e.eds
  have Hea := hidIn hea
  clear h hea
  obtain ⟨na, nca, hvn, _⟩ := Hgr.out.n
  subst hvn
  obtain ⟨W1, hW1⟩ : ∃ W1, w.alloc (.cells #[.slice na ns.length nca, .slice ea es.length eca] 25) = W1 := ⟨_, rfl⟩
  have bA : Below w.heap.size w W1 := by rw [← hW1]; exact (Below.refl _ w).alloc (Nat.le_refl _) _
  have hGB : W1.heap[w.heap.size]? = some (.cells #[.slice na ns.length nca, .slice ea es.length eca] 25) := by rw [← hW1]; exact heap_alloc_last w _
  have hlt0 := block_lt hGB
  have HF : Hid (∀ wq, Below W1.heap.size W1 wq → (wq.cell? ⟨w.heap.size, 0, none⟩ = some (.slice na ns.length nca) ∧ wq.cell? ⟨w.heap.size, 1, none⟩ = some (.slice ea es.length eca)) ∧ Below w.heap.size w wq) := hidIn fun wq h => by
    have j0 := (h.block _ hlt0).trans hGB
    exact ⟨⟨cell_of_row _ _ 0 _ _ _ j0, cell_of_row _ _ 1 _ _ _ j0⟩, bA.trans (h.mono bA.size)⟩
  have HW := hidIn hW1
  clear hW1 bA hGB
  obtain ⟨⟨f0, f1⟩, hbw1⟩ := HF.out W1 (Below.refl _ _)
  obtain ⟨b1, hb1⟩ : ∃ b1, graphOk ns es = b1 := ⟨_, rfl⟩
  have Hb1 := hidIn hb1
  have HC : Hid (Calls Try.prog 17 #[grV (.slice na ns.length nca) (.slice ea es.length eca)] W1 fun e w' => e = .returned (.int .i64 (if b1 = true then 0 else 2)) ∧ Below W1.heap.size W1 w') := hidIn (by rw [← hb1]; exact rcheck_any (Hgr.out.keep hbw1 (Nat.le_refl _)))
  clear hb1
  go_enter Try.func11, Try.ntmps11
  go_upto_region 1 with fail
  rw [HW.out]
  clear HW
  go_wp2_with fail
  refine HC.out.mono ?_
  rintro e w2 ⟨rfl, hb2⟩
  have HB2 := hidIn hb2
  clear hb2 HC f0 f1 hbw1
  obtain ⟨⟨f0, f1⟩, hbw2⟩ := HF.out w2 HB2.out
  cases b1
  · simp only [Bool.false_eq_true, if_false]
    go_wp2_with fail
    go_ret2
    exact ⟨.inr ⟨by rw [Hb1.out]; rfl, rfl⟩, hbw2⟩
  simp only [if_true]
  go_wp2_with fail
  refine (rhas_any (Hgr.out.n.keep hbw2 (Nat.le_refl _)) n).mono ?_
  rintro e w3 ⟨rfl, hw3⟩
  rw [hw3]
  clear hw3 w3
  obtain ⟨b2, hb2⟩ : ∃ b2, hasN ns n = b2 := ⟨_, rfl⟩
  have Hb2 := hidIn hb2
  rw [hb2]
  clear hb2
  cases b2
  · go_wp2_with fail
    go_ret2
    exact ⟨.inr ⟨by rw [Hb1.out, Hb2.out]; rfl, rfl⟩, hbw2⟩
  have h384 := (graphOk_bd Hb1.out).2.2
  go_wp2_with fail
  clear f0 f1 hbw2
  go_loopw [6, 7] (fun u i wr => ∃ k : Nat, k ≤ es.length ∧ i = .int .i64 k ∧ Hid (wr.ownsRow W1.heap.size 37 2 u (nearL (es.take k) n).length (fl ac (nearL (es.take k) n)) ∧ Below W1.heap.size W1 wr)) (fun _ i _ => es.length - (intOf i).toNat)
  case atStart => exact ⟨0, Nat.zero_le _, rfl, hidIn ⟨World.ownsRow_nil _ _ _ _, HB2.out⟩⟩
  case round =>
    obtain ⟨k, hk, rfl, HR⟩ := hrel
    obtain ⟨hrow, hbel⟩ := HR.out
    have HRow := hidIn hrow
    have HB := hidIn hbel
    obtain ⟨ua, ucap, rfl⟩ := row_shape hrow
    clear HR hrow hbel
    obtain ⟨⟨f0, f1⟩, hbw⟩ := HF.out wr HB.out
    by_cases hlt : k < es.length
    · obtain ⟨bk, o, rfl, hbk, hcell⟩ := Hea.out (by omega)
      obtain ⟨⟨x, y, c⟩, hz⟩ : ∃ z, es[k]? = some z := ⟨es[k], List.getElem?_eq_getElem hlt⟩
      obtain ⟨q0, q1, q2⟩ := hcell k _ hz
      have c0 := (hbw.cell (p := ⟨bk, o + k * 3, none⟩) hbk).trans q0
      simp only at c0
      have hki : (k : Int) < (es.length : Int) := by omega
      by_cases hxn : x = n
      · have hq : (x == n) = true := by simpa using hxn
        have HN : Hid (nearL (es.take (k + 1)) n = nearL (es.take k) n ++ [(y, c)]) := hidIn (by rw [take_snoc hz, ← hxn, nearL_snoc_yes])
        have hle : (nearL (es.take k) n).length ≤ 384 := by have := nearL_length (es.take k) n; rw [List.length_take] at this; omega
        have HQ : Hid (∀ wq, Below W1.heap.size W1 wq → wq.cell? ⟨w.heap.size, 1, none⟩ = some (.slice (some ⟨bk, o, none⟩) es.length eca) ∧ wq.cell? ⟨bk, o + k * 3 + 1, none⟩ = some (.int .i64 y) ∧ wq.cell? ⟨bk, o + k * 3 + 2, none⟩ = some (.int .i64 c)) := hidIn fun wq h => by
          have hbw' := (HF.out wq h).2
          exact ⟨(HF.out wq h).1.2, (hbw'.cell (p := ⟨bk, o + k * 3 + 1, none⟩) hbk).trans q1, (hbw'.cell (p := ⟨bk, o + k * 3 + 2, none⟩) hbk).trans q2⟩
        clear hcell q0 q1 q2 hz hxn
        go_upto_region 8 with fail
        clear c0 f0 f1 hq
        refine wp_region_held_drew (S := fun wx => Below W1.heap.size W1 wx) (by kernel_rfl) HB.out.drew (fun hHeld => ?_)
        have hh : Below W1.heap.size W1 wr.drew := hHeld
        refine wpAnyH_take (i := 0) (v := ?_) rfl (by kernel_rfl) (by kernel_rfl) (by kernel_rfl) (fun _ _ _ h => h) (Or.inl ⟨by rfl, ?_⟩) (by assumption) ?_
        rotate_left
        · intro wq hSw
          clear hSw
          go_simp
          try (with_reducible rfl)
        refine wpAnyH_take (i := 1) (v := ?_) rfl (by kernel_rfl) (by kernel_rfl) (by kernel_rfl) (fun _ _ _ h => h) (Or.inl ⟨by rfl, ?_⟩) (by assumption) ?_
        rotate_left
        · intro wq hSw
          clear hSw
          go_simp
          try (with_reducible rfl)
        refine wpAnyH_take (i := 2) (v := ?_) rfl (by kernel_rfl) (by kernel_rfl) (by kernel_rfl) (fun _ _ _ h => h) (Or.inl ⟨by rfl, ?_⟩) (by assumption) ?_
        rotate_left
        · intro wq hSw
          obtain ⟨z1, z2, z3⟩ := HQ.out wq hSw
          clear hSw
          go_simp
          try (with_reducible rfl)
        refine wpAnyH_take (i := 3) (v := ?_) rfl (by kernel_rfl) (by kernel_rfl) (by kernel_rfl) (fun _ _ _ h => h) (Or.inl ⟨by rfl, ?_⟩) (by assumption) ?_
        rotate_left
        · intro wq hSw
          clear hSw
          go_simp
          try (with_reducible rfl)
        refine wpAnyH_take (i := 4) (v := ?_) rfl (by kernel_rfl) (by kernel_rfl) (by kernel_rfl) (fun _ _ _ h => h) (Or.inl ⟨by rfl, ?_⟩) (by assumption) ?_
        rotate_left
        · intro wq hSw
          obtain ⟨z1, z2, z3⟩ := HQ.out wq hSw
          clear hSw
          go_simp
          try (with_reducible rfl)
        refine wpAnyH_take (i := 5) (v := ?_) rfl (by kernel_rfl) (by kernel_rfl) (by kernel_rfl) (fun _ _ _ h => h) (Or.inl ⟨by rfl, ?_⟩) (by assumption) ?_
        rotate_left
        · intro wq hSw
          clear hSw
          go_simp
          try (with_reducible rfl)
        refine wpAnyH_take (i := 6) (v := ?_) rfl (by kernel_rfl) (by kernel_rfl) (by kernel_rfl) (fun _ _ _ h => h) (Or.inl ⟨by rfl, ?_⟩) (by assumption) ?_
        rotate_left
        · intro wq hSw
          obtain ⟨z1, z2, z3⟩ := HQ.out wq hSw
          clear hSw
          go_simp
          try (with_reducible rfl)
        refine wpAnyH_take (i := 7) (v := ?_) rfl (by kernel_rfl) (by kernel_rfl) (by kernel_rfl) (fun _ _ _ h => h) (Or.inl ⟨by rfl, ?_⟩) (by assumption) ?_
        rotate_left
        · intro wq hSw
          clear hSw
          go_simp
          try (with_reducible rfl)
        refine wpAnyH_take (i := 8) (v := ?_) rfl (by kernel_rfl) (by kernel_rfl) (by kernel_rfl) (fun _ _ _ h => h) (Or.inl ⟨by rfl, ?_⟩) (by assumption) ?_
        rotate_left
        · intro wq hSw
          obtain ⟨z1, z2, z3⟩ := HQ.out wq hSw
          clear hSw
          go_simp
          try (with_reducible rfl)
        refine wpAnyH_take (i := 9) (v := ?_) rfl (by kernel_rfl) (by kernel_rfl) (by kernel_rfl) (fun _ _ _ h => h) (Or.inl ⟨by rfl, ?_⟩) (by assumption) ?_
        rotate_left
        · intro wq hSw
          clear hSw
          go_simp
          try (with_reducible rfl)
        refine wpAnyH_take (i := 10) (v := ?_) rfl (by kernel_rfl) (by kernel_rfl) (by kernel_rfl) (fun _ _ _ h => h) (Or.inl ⟨by rfl, ?_⟩) (by assumption) ?_
        rotate_left
        · intro wq hSw
          obtain ⟨z1, z2, z3⟩ := HQ.out wq hSw
          clear hSw
          go_simp
          try (with_reducible rfl)
        refine wpAnyH_take (i := 11) (v := ?_) rfl (by kernel_rfl) (by kernel_rfl) (by kernel_rfl) (fun _ _ _ h => h) (Or.inl ⟨by rfl, ?_⟩) (by assumption) ?_
        rotate_left
        · intro wq hSw
          clear hSw
          go_simp
          try (with_reducible rfl)
        refine wpAnyH_take (i := 12) (v := ?_) rfl (by kernel_rfl) (by kernel_rfl) (by kernel_rfl) (fun _ _ _ h => h) (Or.inl ⟨by rfl, ?_⟩) (by assumption) ?_
        rotate_left
        · intro wq hSw
          obtain ⟨z1, z2, z3⟩ := HQ.out wq hSw
          clear hSw
          go_simp
          try (with_reducible rfl)
        refine wpAnyH_take (i := 13) (v := ?_) rfl (by kernel_rfl) (by kernel_rfl) (by kernel_rfl) (fun _ _ _ h => h) (Or.inl ⟨by rfl, ?_⟩) (by assumption) ?_
        rotate_left
        · intro wq hSw
          clear hSw
          go_simp
          try (with_reducible rfl)
        obtain ⟨g, gcap, w6, hrun, hown, _, hgrow, hb6⟩ := append_adj (row_below HRow.out (Below.refl wr.heap.size wr).drew (Nat.le_refl _)) (y, c) (by omega) hh.size
        refine wpAnyH_ready (rs := [14]) (by kernel_rfl) (by simp) ?_
        refine AllReadyH.cons rfl (fun K hK => ?_) AllReadyH.nil
        go_simp
        have bA : Below W1.heap.size W1 (wr.alloc (Obj.cells #[.int .i64 y, .int .i64 c] 37)).drew := (HB.out.alloc HB.out.size _).drew
        refine hK.out _ _ bA (fun _ => ?_)
        clear hK K
        refine wpAnyH_ready (rs := [15]) (by kernel_rfl) (by simp) ?_
        refine AllReadyH.cons rfl (fun K hK => ?_) AllReadyH.nil
        have hrun' : (Builtin.append_ #[27, 27] 27 #[.slice ua (nearL (es.take k) n).length ucap, .slice (some ⟨wr.heap.size, 0, none⟩) 1 1]).run Try.prog ((wr.alloc (Obj.cells #[.int .i64 y, .int .i64 c] 37)).drew) = .ok (.slice (some ⟨g, 0, none⟩) ((nearL (es.take k) n).length + 1) gcap) w6 := hrun
        refine step_append rfl (.tmp 33) (.tmp 47) 27 rfl (by kernel_rfl) (by kernel_rfl) hrun' ?_
        have h6 : Below W1.heap.size W1 w6 := hh.trans hb6
        refine hK.out _ _ h6 (fun _ => ?_)
        have HO := hidIn hown
        clear hK K hrun hrun' hown hgrow hb6
        refine wpAnyH_ready (rs := [16]) (by kernel_rfl) (by simp) ?_
        refine AllReadyH.cons rfl (fun K hK => ?_) AllReadyH.nil
        go_simp
        refine hK.out _ _ h6 (fun _ => ?_)
        clear hK K
        refine wpAnyH_done (by kernel_rfl) ?_ _
        go_wp2_with fail
        go_roundw
        case rel => exact ⟨k + 1, by omega, by go_num, hidIn ⟨by rw [HN.out, List.length_append]; exact HO.out, h6⟩⟩
        case measure => simp [intOf]; omega
      · have hq : (x == n) = false := by simpa using hxn
        have HN : Hid (nearL (es.take (k + 1)) n = nearL (es.take k) n) := hidIn (by rw [take_snoc hz, nearL_snoc_no hxn])
        clear hcell q0 q1 q2 hz hxn
        go_wp2_with fail
        go_roundw
        case rel => exact ⟨k + 1, by omega, by go_num, hidIn ⟨by rw [HN.out]; exact HRow.out, HB.out⟩⟩
        case measure => simp [intOf]; omega
    · have hki : ¬ ((k : Int) < (es.length : Int)) := by omega
      have hke : k = es.length := by omega
      have HRow2 := hidIn (by have := HRow.out; rw [hke, List.take_length] at this; exact this)
      have Hke := hidIn hke
      clear hke
      go_wp2_with fail
      go_returns
      refine ⟨.inl ⟨by simp [Hb1.out, Hb2.out], _, rfl, ?_⟩, hbw⟩
      have h7 := row_low HRow2.out (show w.heap.size ≤ W1.heap.size by omega)
      rw [Hke.out, List.take_length]
      exact h7
end Go.Proofs.Ythfhmoaddpcnlaa
