/- kept; GraphTells. -/
import Derived.Test.YthfhmoaddpcnlaaGT1
import Derived.Test.YthfhmoaddpcnlaaGH
namespace Go.Proofs.Ythfhmoaddpcnlaa
open Go.RowKit

theorem row_last {α : Type} {cs : α → List Value} {sz : Nat} (hc : ∀ x, (cs x).length = sz) {w : World} {base g cap : Nat} {e : TypeId} {l : List α} {x : α} (hr : w.ownsRow base e sz (.slice (some ⟨g, 0, none⟩) (l.length + 1) cap) (l.length + 1) (fl cs (l ++ [x]))) : l.length + 1 ≤ cap ∧ l.length + 1 ≤ 9223372036854775807 ∧ g < w.heap.size ∧ ∀ i u, (cs x)[i]? = some u → w.cell? ⟨g, l.length * sz + i, none⟩ = some u := by
  obtain ⟨a, c, he, h1, h2, h3⟩ := slAt_of_row hc hr (by simp)
  simp at he
  obtain ⟨rfl, rfl⟩ := he
  obtain ⟨bk, o, h4, h5, h6⟩ := h3 (by simp)
  simp only [Option.some.injEq, Addr.mk.injEq, and_true] at h4
  obtain ⟨rfl, rfl⟩ := h4
  simp at h1 h2
  refine ⟨h2, by omega, h5, fun i u hu => ?_⟩
  have := h6 l.length x (by simp) i u hu
  rwa [Nat.zero_add] at this
set_option maxRecDepth 100000 in
set_option maxHeartbeats 2000000 in
theorem kept_ok {ns : List Int} {es : List Ed} {vn ve : Value} {w : World} {base g c p d : Nat} (h : GrAt w vn ve ns es)
    (h1 : w.ownsRow base 3 1 (.slice (some ⟨g, 0, none⟩) (ns.length + 1) c) (ns.length + 1) (fl ic (ns ++ [77]))) (h2 : w.ownsRow base 45 3 (.slice (some ⟨p, 0, none⟩) (es.length + 1) d) (es.length + 1) (fl ec (es ++ [(0, 0, 77)]))) :
    Calls Try.prog 18 #[grV (.slice (some ⟨g, 0, none⟩) ns.length c) (.slice (some ⟨p, 0, none⟩) es.length d), grV vn ve] w fun e w' => e = .returned (.bool true) ∧ Below w.heap.size w w' := by
  have hIn : GrAt w (.slice (some ⟨g, 0, none⟩) ns.length c) (.slice (some ⟨p, 0, none⟩) es.length d) ns es := ⟨slAt_front (cs := ic) (fun _ => rfl) h1, slAt_front (cs := ec) (fun _ => rfl) h2⟩
  obtain ⟨m1, z1, l1, r1⟩ := row_last (cs := ic) (fun _ => rfl) h1
  obtain ⟨m2, z2, l2, r2⟩ := row_last (cs := ec) (fun _ => rfl) h2
  have t1 := r1 0 _ rfl
  have t2 := r2 2 _ rfl
  rw [Nat.mul_one, Nat.add_zero] at t1
  obtain ⟨na, nca, hvn, hnl, _⟩ := h.n
  obtain ⟨ea, eca, hve, hel, _⟩ := h.e
  subst hvn hve
  obtain ⟨W1, hW1⟩ : ∃ W1, (w.alloc (.cells #[.slice (some ⟨g, 0, none⟩) ns.length c, .slice (some ⟨p, 0, none⟩) es.length d] 25)).alloc (.cells #[.slice na ns.length nca, .slice ea es.length eca] 25) = W1 := ⟨_, rfl⟩
  have hb1 : Below w.heap.size w W1 := by rw [← hW1]; go_grown
  have k0 : W1.heap[w.heap.size]? = some (.cells #[.slice (some ⟨g, 0, none⟩) ns.length c, .slice (some ⟨p, 0, none⟩) es.length d] 25) := by
    rw [← hW1, Below.heap_alloc _ _ _ (by simp)]; exact heap_alloc_last w _
  have k1 : W1.heap[w.heap.size + 1]? = some (.cells #[.slice na ns.length nca, .slice ea es.length eca] 25) := by
    have := heap_alloc_last (w.alloc (.cells #[.slice (some ⟨g, 0, none⟩) ns.length c, .slice (some ⟨p, 0, none⟩) es.length d] 25)) (.cells #[.slice na ns.length nca, .slice ea es.length eca] 25)
    rw [World.size_alloc, hW1] at this
    exact this
  have a0 := cell_regrown (w := W1) (a := ⟨w.heap.size, 0, none⟩) (cell_of_row _ _ 0 _ _ _ k0)
  have a1 := cell_regrown (w := W1) (a := ⟨w.heap.size, 1, none⟩) (cell_of_row _ _ 1 _ _ _ k0)
  have b0 := cell_regrown (w := W1) (a := ⟨w.heap.size + 1, 0, none⟩) (cell_of_row _ _ 0 _ _ _ k1)
  have b1 := cell_regrown (w := W1) (a := ⟨w.heap.size + 1, 1, none⟩) (cell_of_row _ _ 1 _ _ _ k1)
  simp at a0 a1 b0 b1
  have u1 := cell_regrown ((hb1.cell (p := ⟨g, ns.length, none⟩) l1).trans t1)
  have u2 := cell_regrown ((hb1.cell (p := ⟨p, es.length * 3 + 2, none⟩) l2).trans t2)
  have hsame : sameG ns ns es es = true := by simp [sameG]
  have HS : Hid (∀ dd os, Calls Try.prog 22 #[grV (.slice (some ⟨g, 0, none⟩) ns.length c) (.slice (some ⟨p, 0, none⟩) es.length d), grV (.slice na ns.length nca) (.slice ea es.length eca)] (Go.Sort.grow (redrawn W1 dd) os) fun e w' => e = .returned (.bool true) ∧ Below (Go.Sort.grow (redrawn W1 dd) os).heap.size (Go.Sort.grow (redrawn W1 dd) os) w') := hidIn fun dd os => by
    have hbb := hb1.trans ((below_regrown W1 dd os).mono hb1.size)
    have := rsame_any (hIn.keep hbb (Nat.le_refl _)) (h.keep hbb (Nat.le_refl _))
    rwa [hsame] at this
  have wr1 : IntKind.i64.wrap ((ns.length : Int) + 1) = (ns.length : Int) + 1 := by rw [IntKind.wrap_i64]; omega
  have wr2 : IntKind.i64.wrap ((es.length : Int) + 1) = (es.length : Int) + 1 := by rw [IntKind.wrap_i64]; omega
  have HW := hidIn hW1
  have HB1 := hidIn hb1
  have mi1 : (ns.length : Int) + 1 ≤ (c : Int) := by omega
  have mi2 : (es.length : Int) + 1 ≤ (d : Int) := by omega
  clear h hIn h1 h2 r1 r2 t1 t2 hW1 hb1 k0 k1 hsame
  generalize ns.length = n1 at *
  generalize es.length = n2 at *
  go_enter Try.func18, Try.ntmps18
  go_upto_region 1 with fail
  rw [HW.out]
  clear HW
  refine wp_region_quiet_below (by kernel_rfl) (by kernel_rfl) ?_
  repeat (go_big_quiet_step (first | (go_at_call 22; exact Calls.regrown_of (HS.out _ _))))
  refine wpQuiet_nil ?_
  intro _ hw'
  obtain ⟨⟨dq, osq⟩, hw''⟩ := hw'
  subst hw''
  have HB4 := hidIn (HB1.out.trans ((below_regrown W1 dq osq).mono HB1.out.size))
  generalize Go.Sort.grow (redrawn W1 dq) osq = W4 at HB4 ⊢
  clear a0 a1 b0 b1 u1 u2 HS
  go_wp2_with fail
  go_ret
  exact ⟨rfl, HB4.out⟩
/-- Near's answer, in one form. -/
theorem near_uni {w w' : World} {ns : List Int} {es : List Ed} {n : Int} {e : Ending} (h : ((graphOk ns es && hasN ns n) = true ∧ ∃ u, e = .returned (.tuple #[u, .int .i64 0]) ∧ w'.ownsRow w.heap.size 37 2 u (nearL es n).length (fl ac (nearL es n))) ∨ ((graphOk ns es && hasN ns n) = false ∧ e = .returned (.tuple #[.slice none 0 0, .int .i64 2]))) :
    ∃ ua ucap, e = .returned (.tuple #[.slice ua (if (graphOk ns es && hasN ns n) = true then nearL es n else []).length ucap, .int .i64 (if (graphOk ns es && hasN ns n) = true then 0 else 2)]) ∧ w'.ownsRow w.heap.size 37 2 (.slice ua (if (graphOk ns es && hasN ns n) = true then nearL es n else []).length ucap) (if (graphOk ns es && hasN ns n) = true then nearL es n else []).length (fl ac (if (graphOk ns es && hasN ns n) = true then nearL es n else [])) := by
  rcases h with ⟨h, u, rfl, hu⟩ | ⟨h, rfl⟩
  · obtain ⟨ua, ucap, rfl⟩ := row_shape hu
    rw [h]
    exact ⟨ua, ucap, rfl, hu⟩
  · rw [h]
    exact ⟨none, 0, rfl, World.ownsRow_nil _ _ _ _⟩
/-- Part's answer, in one form. -/
theorem part_uni {w w' : World} {ns : List Int} {es : List Ed} {n : Int} {e : Ending} (h : PartAns w ns es n e w') :
    ∃ L ua ucap, ((graphOk ns es && hasN ns n) = true → ∃ f, IsPart es n f ∧ L = markedL f) ∧ ((graphOk ns es && hasN ns n) = false → L = []) ∧ e = .returned (.tuple #[.slice ua L.length ucap, .int .i64 (if (graphOk ns es && hasN ns n) = true then 0 else 2)]) ∧ w'.ownsRow w.heap.size 3 1 (.slice ua L.length ucap) L.length (fl ic L) := by
  rcases h with ⟨h, f, u, hf, rfl, hu⟩ | ⟨h, rfl⟩
  · obtain ⟨ua, ucap, rfl⟩ := row_shape hu
    rw [h]
    exact ⟨markedL f, ua, ucap, fun _ => ⟨f, hf, rfl⟩, (fun h => by cases h), rfl, hu⟩
  · rw [h]
    exact ⟨[], none, 0, (fun h => by cases h), fun _ => rfl, rfl, World.ownsRow_nil _ _ _ _⟩
theorem part_same {es : List Ed} {n : Int} {b : Bool} {L M : List Int} (h1 : b = true → ∃ f, IsPart es n f ∧ L = markedL f) (h2 : b = false → L = []) (k1 : b = true → ∃ f, IsPart es n f ∧ M = markedL f) (k2 : b = false → M = []) : L = M := by
  cases b
  · rw [h2 rfl, k2 rfl]
  · obtain ⟨f, hf, rfl⟩ := h1 rfl
    obtain ⟨g, hg, rfl⟩ := k1 rfl
    exact hf.same hg
/-- An own row that may be written. -/
theorem row_write {w : World} {base n cap sz : Nat} {a : Option Addr} {e : TypeId} {xs : List Value} (hr : w.ownsRow base e sz (.slice a n cap) n xs) (h0 : 0 < n) : ∃ g, a = some ⟨g, 0, none⟩ ∧ base ≤ g ∧ g < w.heap.size ∧ (∀ j, j < n * sz → ∃ v, w.cell? ⟨g, j, none⟩ = some v) ∧ ∀ j, w.frozen? ⟨g, j, none⟩ = false := by
  rcases hr.2 with ⟨_, h⟩ | ⟨g, cap', cur, h, hb, hh, h1, _, h3, _⟩
  · omega
  · simp at h
    obtain ⟨rfl, rfl⟩ := h
    refine ⟨g, rfl, hb, block_lt hh, fun j hj => ?_, fun j => frozen_new hh j⟩
    have : n * sz ≤ cap * sz := Nat.mul_le_mul_right _ h1
    rw [cell_of_row w g j cur e _ hh]
    exact ⟨cur[j]'(by omega), Array.getElem?_eq_getElem _⟩

set_option maxRecDepth 100000 in
set_option maxHeartbeats 2000000 in
theorem graphTells_walk {ns : List Int} {es : List Ed} {vn ve : Value} {w : World} (h : GrAt w vn ve ns es) (nn : NilOk vn) (ne : NilOk ve) (bn : (ns.length + 1) * 8 ≤ 140737488355328) (be : (es.length + 1) * 24 ≤ 140737488355328) (n : Int) :
    Calls Try.prog 3 #[grV vn ve, .int .i64 n] w fun e w' => e = .returned (.bool true) ∧ Below w.heap.size w w' := by
  obtain ⟨W1, hW1⟩ : ∃ W1, w.alloc (.cells #[vn, ve] 25) = W1 := ⟨_, rfl⟩
  have bA : Below w.heap.size w W1 := by rw [← hW1]; exact (Below.refl _ w).alloc (Nat.le_refl _) _
  have hGB : W1.heap[w.heap.size]? = some (.cells #[vn, ve] 25) := by rw [← hW1]; exact heap_alloc_last w _
  have hlt0 := block_lt hGB
  have HF : Hid (∀ wq, Below W1.heap.size W1 wq → (wq.cell? ⟨w.heap.size, 0, none⟩ = some vn ∧ wq.cell? ⟨w.heap.size, 1, none⟩ = some ve) ∧ GrAt wq vn ve ns es ∧ Below w.heap.size w wq) := hidIn fun wq h' => by
    have j0 := (h'.block _ hlt0).trans hGB
    have hb := bA.trans (h'.mono bA.size)
    exact ⟨⟨cell_of_row _ _ 0 _ _ _ j0, cell_of_row _ _ 1 _ _ _ j0⟩, h.keep hb (Nat.le_refl _), hb⟩
  have HW := hidIn hW1
  have HO := hidIn (own_any (h.keep bA (Nat.le_refl _)) nn ne bn be)
  clear hW1 bA hGB h nn ne
  obtain ⟨⟨f0, f1⟩, _, _⟩ := HF.out W1 (Below.refl _ _)
  go_enter Try.func3, Try.ntmps3
  go_upto_region 1 with fail
  rw [HW.out]
  clear HW
  go_wp2_with fail
  refine HO.out.mono ?_
  rintro e w2 ⟨⟨g, c, p, d, rfl, hg, hp⟩, hb2⟩
  have Hg := hidIn hg
  have Hp := hidIn hp
  have HB2 := hidIn hb2
  clear hg hp hb2 HO f0 f1
  obtain ⟨W3, hW3⟩ : ∃ W3, w2.alloc (.cells #[.slice (some ⟨g, 0, none⟩) ns.length c, .slice (some ⟨p, 0, none⟩) es.length d] 25) = W3 := ⟨_, rfl⟩
  have bA : Below w2.heap.size w2 W3 := by rw [← hW3]; exact (Below.refl _ w2).alloc (Nat.le_refl _) _
  have hGB : W3.heap[w2.heap.size]? = some (.cells #[.slice (some ⟨g, 0, none⟩) ns.length c, .slice (some ⟨p, 0, none⟩) es.length d] 25) := by rw [← hW3]; exact heap_alloc_last w2 _
  have hlt2 := block_lt hGB
  have hB3 := HB2.out.trans (bA.mono HB2.out.size)
  have HI : Hid (∀ wq, Below W3.heap.size W3 wq → (wq.cell? ⟨w2.heap.size, 0, none⟩ = some (.slice (some ⟨g, 0, none⟩) ns.length c) ∧ wq.cell? ⟨w2.heap.size, 1, none⟩ = some (.slice (some ⟨p, 0, none⟩) es.length d)) ∧ wq.ownsRow W1.heap.size 3 1 (.slice (some ⟨g, 0, none⟩) (ns.length + 1) c) (ns.length + 1) (fl ic (ns ++ [77])) ∧ wq.ownsRow W1.heap.size 45 3 (.slice (some ⟨p, 0, none⟩) (es.length + 1) d) (es.length + 1) (fl ec (es ++ [(0, 0, 77)])) ∧ GrAt wq (.slice (some ⟨g, 0, none⟩) ns.length c) (.slice (some ⟨p, 0, none⟩) es.length d) ns es ∧ Below W1.heap.size W1 wq) := hidIn fun wq h' => by
    have j0 := (h'.block _ hlt2).trans hGB
    have r1 := row_below (row_below Hg.out bA (Nat.le_refl _)) h' (Nat.le_refl _)
    have r2 := row_below (row_below Hp.out bA (Nat.le_refl _)) h' (Nat.le_refl _)
    exact ⟨⟨cell_of_row _ _ 0 _ _ _ j0, cell_of_row _ _ 1 _ _ _ j0⟩, r1, r2, ⟨slAt_front (cs := ic) (fun _ => rfl) r1, slAt_front (cs := ec) (fun _ => rfl) r2⟩, hB3.trans (h'.mono hB3.size)⟩
  have HW := hidIn hW3
  clear hW3 bA hGB hB3 Hg Hp HB2
  obtain ⟨⟨g0, g1⟩, _, _, hgr, _⟩ := HI.out W3 (Below.refl _ _)
  have HN := hidIn (near_any hgr n)
  clear hgr
  go_upto_region 2 with fail
  rw [HW.out]
  clear HW
  generalize w2.heap.size = bi at *
  go_wp2_with fail
  refine HN.out.mono ?_
  rintro e w4 ⟨hans, hb4⟩
  obtain ⟨na, ncap, rfl, hrowN⟩ := near_uni hans
  have HrowN := hidIn hrowN
  have HB4 := hidIn hb4
  clear hans hrowN hb4 HN g0 g1
  obtain ⟨⟨g0, g1⟩, _, _, hgrI, hb14⟩ := HI.out w4 HB4.out
  obtain ⟨⟨f0, f1⟩, hgrG, _⟩ := HF.out w4 hb14
  have HR := hidIn (rnear_any hgrG n)
  clear hgrI hgrG hb14
  obtain ⟨L1, hL1⟩ : ∃ L1, (if (graphOk ns es && hasN ns n) = true then nearL es n else []) = L1 := ⟨_, rfl⟩
  obtain ⟨C1, hC1⟩ : ∃ C1 : Int, (if (graphOk ns es && hasN ns n) = true then (0 : Int) else 2) = C1 := ⟨_, rfl⟩
  have HL1 := hidIn hL1
  have HC1 := hidIn hC1
  rw [hL1] at HrowN ⊢
  rw [hC1]
  clear hL1 hC1
  go_wp2_with fail
  refine HR.out.mono ?_
  rintro e w5 ⟨hans, hb5⟩
  obtain ⟨ma, mcap, rfl, hrowM⟩ := near_uni hans
  rw [HL1.out] at hrowM ⊢
  rw [HC1.out]
  have HrowM := hidIn hrowM
  have HB5 := hidIn (HB4.out.trans (hb5.mono HB4.out.size))
  have Hb5 := hidIn hb5
  clear hans hrowM hb5 HR g0 g1 f0 f1
  obtain ⟨⟨g0, g1⟩, _, _, hgrI, hb15⟩ := HI.out w5 HB5.out
  have HP := hidIn (part_any hgrI n)
  clear hgrI hb15
  go_wp2_with fail
  refine HP.out.mono ?_
  rintro e w6 ⟨hans, hb6⟩
  obtain ⟨L2, pa, pcap, hp1, hp2, rfl, hrowP⟩ := part_uni hans
  rw [HC1.out]
  have Hp1 := hidIn hp1
  have Hp2 := hidIn hp2
  have HrowP := hidIn hrowP
  have HB6 := hidIn (HB5.out.trans (hb6.mono HB5.out.size))
  have Hb6 := hidIn hb6
  clear hans hrowP hb6 HP g0 g1 hp1 hp2
  obtain ⟨_, _, _, _, hb16⟩ := HI.out w6 HB6.out
  obtain ⟨⟨f0, f1⟩, hgrG, _⟩ := HF.out w6 hb16
  have HQ := hidIn (rpart_any hgrG n)
  clear hgrG hb16
  go_wp2_with fail
  refine HQ.out.mono ?_
  rintro e w7 ⟨hans, hb7⟩
  obtain ⟨L3, qa, qcap, hq1, hq2, rfl, hrowQ⟩ := part_uni hans
  obtain rfl : L3 = L2 := part_same hq1 hq2 Hp1.out Hp2.out
  rw [HC1.out]
  have HrowQ := hidIn hrowQ
  have HB7 := hidIn (HB6.out.trans (hb7.mono HB6.out.size))
  have Hb7 := hidIn hb7
  clear hans hrowQ hb7 HQ f0 f1 hq1 hq2 Hp1 Hp2
  obtain ⟨⟨g0, g1⟩, _, _, hgrI, hb17⟩ := HI.out w7 HB7.out
  obtain ⟨⟨f0, f1⟩, hgrG, _⟩ := HF.out w7 hb17
  have hN7 := row_below (row_below (row_below HrowN.out Hb5.out (Nat.le_refl _)) Hb6.out (Nat.le_refl _)) Hb7.out (Nat.le_refl _)
  have hM7 := row_below (row_below HrowM.out Hb6.out (Nat.le_refl _)) Hb7.out (Nat.le_refl _)
  have hP7 := row_below HrowP.out Hb7.out (Nat.le_refl _)
  have HSA : Hid (∀ dd os, Calls Try.prog 14 #[.slice na L1.length ncap, .slice ma L1.length mcap] (Go.Sort.grow (redrawn w7 dd) os) fun e w' => e = .returned (.bool true) ∧ Below (Go.Sort.grow (redrawn w7 dd) os).heap.size (Go.Sort.grow (redrawn w7 dd) os) w') := hidIn fun dd os => by
    have := sameAdjs ((slAt_of_row (cs := ac) (fun _ => rfl) hN7 rfl).keep (below_regrown w7 dd os) (Nat.le_refl _)) ((slAt_of_row (cs := ac) (fun _ => rfl) hM7 rfl).keep (below_regrown w7 dd os) (Nat.le_refl _))
    rwa [show decide (L1 = L1) = true by simp] at this
  have HSI : Hid (∀ dd os, Calls Try.prog 15 #[.slice pa L3.length pcap, .slice qa L3.length qcap] (Go.Sort.grow (redrawn w7 dd) os) fun e w' => e = .returned (.bool true) ∧ Below (Go.Sort.grow (redrawn w7 dd) os).heap.size (Go.Sort.grow (redrawn w7 dd) os) w') := hidIn fun dd os => by
    have := sameInts ((slAt_of_row (cs := ic) (fun _ => rfl) hP7 rfl).keep (below_regrown w7 dd os) (Nat.le_refl _)) ((slAt_of_row (cs := ic) (fun _ => rfl) HrowQ.out rfl).keep (below_regrown w7 dd os) (Nat.le_refl _))
    rwa [show decide (L3 = L3) = true by simp] at this
  have HCh : Hid (∀ dd os, Calls Try.prog 16 #[grV (.slice (some ⟨g, 0, none⟩) ns.length c) (.slice (some ⟨p, 0, none⟩) es.length d)] (Go.Sort.grow (redrawn w7 dd) os) fun e w' => e = .returned (.int .i64 (ckC ns es)) ∧ Below (Go.Sort.grow (redrawn w7 dd) os).heap.size (Go.Sort.grow (redrawn w7 dd) os) w') := hidIn fun dd os => check_any (hgrI.keep (below_regrown w7 dd os) (Nat.le_refl _))
  have HRC : Hid (∀ dd os, Calls Try.prog 17 #[grV vn ve] (Go.Sort.grow (redrawn w7 dd) os) fun e w' => e = .returned (.int .i64 (ckC ns es)) ∧ Below (Go.Sort.grow (redrawn w7 dd) os).heap.size (Go.Sort.grow (redrawn w7 dd) os) w') := hidIn fun dd os => rcheck_any (hgrG.keep (below_regrown w7 dd os) (Nat.le_refl _))
  generalize ckC ns es = cc at HCh HRC
  have y0 := cell_regrown f0
  have y1 := cell_regrown f1
  have y2 := cell_regrown g0
  have y3 := cell_regrown g1
  have HN7 := hidIn hN7
  have HP7 := hidIn hP7
  have Hsep : Hid (∀ j, (Value.slice na L1.length ncap).ownBlock = some j → (Value.slice pa L3.length pcap).ownBlock = some j → False) := hidIn fun j h1 h2 => by
    have k1 := (HrowN.out.lt j h1).2
    have k2 := (HrowP.out.lt j h2).1
    have k3 := Hb5.out.size
    omega
  have HB47 : Hid (W3.heap.size ≤ w5.heap.size) := hidIn HB5.out.size
  clear hgrI hgrG hN7 hM7 hP7 hb17 HrowN HrowM HrowP HrowQ Hb5 Hb6 Hb7 HB4 HB5 HB6 HL1 HC1
  go_upto_region 6 with fail
  clear f0 f1 g0 g1
  refine wp_region_quiet_below (by kernel_rfl) (by kernel_rfl) ?_
  repeat (go_big_quiet_step (first | (go_at_call 14; exact Calls.regrown_of (HSA.out _ _)) | (go_at_call 15; exact Calls.regrown_of (HSI.out _ _)) | (go_at_call 16; exact Calls.regrown_of (HCh.out _ _)) | (go_at_call 17; exact Calls.regrown_of (HRC.out _ _))))
  refine wpQuiet_nil ?_
  intro _ hw'
  obtain ⟨⟨dq, osq⟩, hw''⟩ := hw'
  subst hw''
  have hbr := below_regrown w7 dq osq
  have HB8 := hidIn (HB7.out.trans (hbr.mono HB7.out.size))
  have HN8 := hidIn (row_below HN7.out hbr (Nat.le_refl _))
  have HP8 := hidIn (row_low (row_below HP7.out hbr (Nat.le_refl _)) HB47.out)
  generalize Go.Sort.grow (redrawn w7 dq) osq = W8 at HB8 HN8 HP8 ⊢
  clear y0 y1 y2 y3 HSA HSI HCh HRC HN7 HP7 hbr HB7 HB47
  have hl1 := (slAt_of_row (cs := ac) (fun _ => rfl) HN8.out rfl).ads.choose_spec.choose_spec.2.1
  have hl3 := (slAt_of_row (cs := ic) (fun _ => rfl) HP8.out rfl).ints.choose_spec.choose_spec.2.1
  go_wp2_with fail
  go_loopw [14] (fun i wr => ∃ k : Nat, k ≤ L1.length ∧ i = .int .i64 k ∧ Hid ((∃ xs, wr.ownsRow W3.heap.size 37 2 (.slice na L1.length ncap) L1.length xs) ∧ (∃ ys, wr.ownsRow W3.heap.size 3 1 (.slice pa L3.length pcap) L3.length ys) ∧ Below W3.heap.size W3 wr)) (fun i _ => L1.length - (intOf i).toNat)
  case atStart => exact ⟨0, Nat.zero_le _, rfl, hidIn ⟨⟨_, HN8.out⟩, ⟨_, HP8.out⟩, HB8.out⟩⟩
  case round =>
    obtain ⟨k, hk, rfl, HR⟩ := hrel
    obtain ⟨⟨xs, hx⟩, ⟨ys, hy⟩, hbel⟩ := HR.out
    clear HR
    by_cases hlt : k < L1.length
    · obtain ⟨gg, rfl, hgb, hgl, hgc, hgf⟩ := row_write hx (by omega)
      obtain ⟨v0, c0⟩ := hgc (k * 2) (by omega)
      obtain ⟨v1, c1⟩ := hgc (k * 2 + 1) (by omega)
      have q0 := hgf (k * 2)
      have q1 := hgf (k * 2 + 1)
      have hki : (k : Int) < (L1.length : Int) := by omega
      have Hx := hidIn hx
      have Hy := hidIn hy
      have HB := hidIn hbel
      clear hx hy hbel hgc hgf
      go_wp2_with fail
      go_roundw
      case rel =>
        refine ⟨k + 1, by omega, by go_num, hidIn ⟨⟨_, row_set (row_set Hx.out (k * 2) (.int .i64 0)) (k * 2 + 1) (.int .i64 0)⟩, ⟨ys, ?_⟩, ?_⟩⟩
        · exact row_fr Hy.out (((Fr.refl (fun j => j = gg) wr).set (p := ⟨gg, k * 2, none⟩) rfl _).set (p := ⟨gg, k * 2 + 1, none⟩) rfl _) (fun j hj e => Hsep.out j (by rw [e]; rfl) hj)
        · exact (HB.out.setCell (p := ⟨gg, k * 2, none⟩) hgb _).setCell (p := ⟨gg, k * 2 + 1, none⟩) hgb _
      case measure => simp [intOf]; omega
    · have hki : ¬ ((k : Int) < (L1.length : Int)) := by omega
      have Hy := hidIn (show ∃ ys, _ from ⟨ys, hy⟩)
      have HB := hidIn hbel
      clear hx hy hbel
      generalize hwo : wr = wo at *
      clear hwo
      go_wp2_with fail
      go_loopw [15] (fun i wr => ∃ k : Nat, k ≤ L3.length ∧ i = .int .i64 k ∧ Hid ((∃ ys, wr.ownsRow W3.heap.size 3 1 (.slice pa L3.length pcap) L3.length ys) ∧ Below W3.heap.size W3 wr)) (fun i _ => L3.length - (intOf i).toNat)
      case atStart => exact ⟨0, Nat.zero_le _, rfl, hidIn ⟨Hy.out, HB.out⟩⟩
      case round =>
        obtain ⟨k2, hk2, rfl, HR⟩ := hrel
        obtain ⟨⟨ys, hy⟩, hbel⟩ := HR.out
        clear HR
        by_cases hlt2 : k2 < L3.length
        · obtain ⟨gg, rfl, hgb, hgl, hgc, hgf⟩ := row_write hy (by omega)
          obtain ⟨v0, c0⟩ := hgc k2 (by omega)
          have q0 := hgf k2
          have hki2 : (k2 : Int) < (L3.length : Int) := by omega
          have Hyy := hidIn hy
          have HB2 := hidIn hbel
          clear hy hbel hgc hgf
          go_wp2_with fail
          go_roundw
          case rel => exact ⟨k2 + 1, by omega, by go_num, hidIn ⟨⟨_, row_set Hyy.out k2 (.int .i64 0)⟩, HB2.out.setCell (p := ⟨gg, k2, none⟩) hgb _⟩⟩
          case measure => simp [intOf]; omega
        · have hki2 : ¬ ((k2 : Int) < (L3.length : Int)) := by omega
          have HB2 := hidIn hbel
          clear hy hbel
          obtain ⟨⟨g0, g1⟩, hr1, hr2, _, hb1r⟩ := HI.out wr HB2.out
          obtain ⟨⟨f0, f1⟩, hgrG, hbw⟩ := HF.out wr hb1r
          have HK := hidIn (kept_ok hgrG hr1 hr2)
          have HBW := hidIn hbw
          clear hr1 hr2 hgrG hb1r hbw
          go_wp2_with fail
          refine HK.out.mono ?_
          rintro e w9 ⟨rfl, hb9⟩
          have HB9 := hidIn (HBW.out.trans (hb9.mono HBW.out.size))
          clear hb9 f0 f1 g0 g1
          go_wp2_with fail
          refine (works_ok w9).mono ?_
          rintro e w10 ⟨rfl, hb10⟩
          have HB10 := hidIn (HB9.out.trans (hb10.mono HB9.out.size))
          clear hb10
          go_wp2_with fail
          go_returns
          exact ⟨rfl, HB10.out⟩
end Go.Proofs.Ythfhmoaddpcnlaa
