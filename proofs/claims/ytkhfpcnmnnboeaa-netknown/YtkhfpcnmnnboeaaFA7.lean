/- fate: Ask. -/
import Derived.Test.YtkhfpcnmnnboeaaFA6
namespace Go.Proofs.Ytkhfpcnmnnboeaa.Fa
open Go.RowKit

set_option maxRecDepth 100000 in
set_option maxHeartbeats 1000000 in
theorem fask_no {P m : Nat} {c : Nat → Nat → Int} {w : World} (h : PlB w P m c) {a b : Int} (hp : isP a b = false) : Calls Try.prog 24 #[pp P, .int .i64 a, .int .i64 b] w fun e w' => e = .returned (.tuple #[ftV (0, 0, 0), .int .i64 2]) ∧ Below w.heap.size w w' := by
  have HT := hidIn (fun (w1 : World) (hb : Below w.heap.size w w1) => fthere_yes (w := w1) (P := P) ((hb.cell (p := ⟨P, 0, none⟩) h.lt).trans h.self))
  have HP := fun w => hidIn (ftisP_any a b w)
  rw [hp] at HP
  clear h hp
  go_enter Try.func24, Try.ntmps24
  go_wp2_with (first
    | (go_at_call 40; refine (HT.out _ (by go_grown)).mono ?_; rintro e w1 ⟨rfl, hw1⟩; rw [hw1]; clear hw1 w1)
    | (go_at_call 41; refine (HP _).out.mono ?_; rintro e w1 ⟨rfl, hw1⟩; rw [hw1]; clear hw1 w1))
  refine bodyPost_ret (v := .tuple #[ftV (0, 0, 0), .int .i64 2]) (by simp [results, Try.results24, asAddr, go_sem]) rfl ⟨rfl, by go_grown⟩
set_option maxRecDepth 100000 in
set_option maxHeartbeats 1000000 in
theorem fask_nil {a b : Int} (w : World) : Calls Try.prog 24 #[nilQ, .int .i64 a, .int .i64 b] w fun e w' => e = .returned (.tuple #[ftV (0, 0, 0), .int .i64 1]) ∧ Below w.heap.size w w' := by
  have HT := fun w => hidIn (fthere_nil w)
  go_enter Try.func24, Try.ntmps24
  go_wp2_with (go_at_call 40; refine (HT _).out.mono ?_; rintro e w1 ⟨rfl, hw1⟩; rw [hw1]; clear hw1 w1)
  refine bodyPost_ret (v := .tuple #[ftV (0, 0, 0), .int .i64 1]) (by simp [results, Try.results24, asAddr, go_sem]) rfl ⟨rfl, by go_grown⟩
set_option maxRecDepth 100000 in
set_option maxHeartbeats 1000000 in
theorem fask_yes {P m : Nat} {l : List Ru} {c : Nat → Nat → Int} {w : World} (h : PlAt w P m l c) {a b : Nat} (hp : isP a b = true) (hc : 0 ≤ c a b ∧ c a b < 1000000000) :
    Calls Try.prog 24 #[pp P, .int .i64 a, .int .i64 b] w fun e w' => e = .returned (.tuple #[ftV (ftO (findR l ((a : Int), (b : Int), c a b + 1))), .int .i64 0]) ∧ PlAt w' P m (dropR l ((a : Int), (b : Int), c a b + 1)) (put2 c a b (c a b + 1)) ∧ Fr (fun j => j = P ∨ j = m) w w' := by
  obtain ⟨W1, hW1⟩ : ∃ W1, w.alloc (.cells #[.int .i64 0, .int .i64 0, .int .i64 0] 33) = W1 := ⟨_, rfl⟩
  have b1 : Below w.heap.size w W1 := by rw [← hW1]; exact (Below.refl _ w).alloc (Nat.le_refl _) _
  have hr : W1.heap[w.heap.size]? = some (.cells #[.int .i64 0, .int .i64 0, .int .i64 0] 33) := by rw [← hW1]; exact heap_alloc_last w _
  have hP1 := h.below b1 h.b.lt h.m.lt
  have hq := isP_iff.1 hp
  have ha : (a : Int) < 25 := by omega
  have hb : (b : Int) < 25 := by omega
  have ha' : a < 25 := by omega
  have hb' : b < 25 := by omega
  have HWf : Hid (wfM ((a : Int), (b : Int), c a b + 1)) := hidIn (wfM_of (e := ((a : Int), (b : Int), c a b + 1)) hq.1 hq.2.1 ⟨by show 0 ≤ c a b + 1; omega, by show c a b + 1 ≤ 9223372036854775807; omega⟩)
  have HT := hidIn (fthere_yes hP1.b.self)
  have HP := fun w => hidIn (ftisP_any a b w)
  rw [hp] at HP
  have hc0 := hc.1
  have hc1 := hc.2
  have HCl : Hid (∀ wq, Below W1.heap.size W1 wq → wq.cell? ⟨P, 2 + a * 25 + b, none⟩ = some (.int .i64 (c a b))) := hidIn fun wq hF => (hP1.below hF hP1.b.lt hP1.m.lt).b.at ha' hb'
  obtain ⟨W2, hW2⟩ : ∃ W2, (W1.setCell ⟨P, 2 + a * 25 + b, none⟩ (.int .i64 (c a b + 1))).drew = W2 := ⟨_, rfl⟩
  have hP2 : PlB W2 P m (put2 c a b (c a b + 1)) := by rw [← hW2]; exact PlB.set (w := W1) hP1.b ha' hb' _
  have hF2 : Fr (fun j => j = P) W1 W2 := by rw [← hW2]; exact (Fr.set (S := fun j => j = P) (Fr.refl _ W1) (p := ⟨P, 2 + a * 25 + b, none⟩) rfl _).drew
  have HM2 := hidIn (hP1.m.keep hF2 (fun e => hP1.ne e.symm))
  have HR2 := hidIn ((hF2.block _ (block_lt hr) (by have := h.b.lt; omega)).trans hr)
  have HF2 := hidIn (((Fr.of_below b1).trans hF2 : Fr (fun j => j = P) w W2))
  have HPl := hidIn h.b.lt
  have Hml := hidIn h.m.lt
  have c1 := HCl.out W1.drew (Below.refl _ W1).drew
  have f1 : W1.drew.frozen? ⟨P, 2 + a * 25 + b, none⟩ = false := Arr.frozen (w := W1.drew) hP1.b _
  have g1 := hP2.at ha' hb'
  rw [show put2 c a b (c a b + 1) a b = c a b + 1 from by simp [put2]] at g1
  obtain ⟨cc, hcc⟩ : ∃ cc, c a b = cc := ⟨_, rfl⟩
  have HCC := hidIn hcc
  rw [hcc] at hc0 hc1 HCl HWf hW2 c1 g1 hP2 ⊢
  have HP2 := hidIn hP2
  have HW1 := hidIn hW1
  have HW2 := hidIn hW2
  obtain ⟨q, hqq⟩ : ∃ q, w.heap.size = q := ⟨_, rfl⟩
  have HQ := hidIn hqq
  rw [hqq] at HR2
  clear b1 hr hP1 hq hp hc hP2 hF2 hW1 hW2 h hqq hcc
  go_enter Try.func24, Try.ntmps24
  go_upto_region 1 with fail
  rw [HW1.out, HQ.out]
  go_upto_region 5 with (first
    | (go_at_call 40; refine HT.out.mono ?_; rintro e w1 ⟨rfl, hw1⟩; rw [hw1]; clear hw1 w1)
    | (go_at_call 41; refine (HP _).out.mono ?_; rintro e w1 ⟨rfl, hw1⟩; rw [hw1]; clear hw1 w1))
  refine wp_region_held_drew (S := fun wx => Fr (fun j => j = P) W1 wx) (by kernel_rfl) ((Fr.refl _ W1).drew) (fun hHeld => ?_)
  have hd0 : Fr (fun j => j = P) W1 W1.drew := hHeld
  clear hHeld
  refine wpAnyH_take (i := 0) (v := pp P) rfl (by kernel_rfl) (by kernel_rfl) (by kernel_rfl) (fun _ _ _ h => h) (Or.inl ⟨by kernel_rfl, fun _ _ => by kernel_rfl⟩) (by assumption) ?_
  refine wpAnyH_take (i := 1) (v := .int .i64 a) rfl (by kernel_rfl) (by kernel_rfl) (by kernel_rfl) (fun _ _ _ h => h) (Or.inl ⟨by kernel_rfl, fun _ _ => by kernel_rfl⟩) (by assumption) ?_
  refine wpAnyH_take (i := 2) (v := .int .i64 b) rfl (by kernel_rfl) (by kernel_rfl) (by kernel_rfl) (fun _ _ _ h => h) (Or.inl ⟨by kernel_rfl, fun _ _ => by kernel_rfl⟩) (by assumption) ?_
  refine wpAnyH_take (i := 3) (v := pp P) rfl (by kernel_rfl) (by kernel_rfl) (by kernel_rfl) (fun _ _ _ h => h) (Or.inl ⟨by kernel_rfl, fun _ _ => by kernel_rfl⟩) (by assumption) ?_
  refine wpAnyH_take (i := 4) (v := .pointer (some ⟨P, 2, none⟩)) rfl (by kernel_rfl) (by kernel_rfl) (by kernel_rfl) (fun _ _ _ h => h) (Or.inl ⟨by kernel_rfl, fun _ _ => by kernel_rfl⟩) (by assumption) ?_
  refine wpAnyH_take (i := 5) (v := .pointer (some ⟨P, 2 + a * 25, none⟩)) rfl (by kernel_rfl) (by kernel_rfl) (by kernel_rfl) (fun _ _ _ h => h) (Or.inl ⟨by kernel_rfl, fun wq hSw => by
      go_simp⟩) (by assumption) ?_
  refine wpAnyH_take (i := 6) (v := .pointer (some ⟨P, 2 + a * 25 + b, none⟩)) rfl (by kernel_rfl) (by kernel_rfl) (by kernel_rfl) (fun _ _ _ h => h) (Or.inl ⟨by kernel_rfl, fun wq hSw => by
      go_simp⟩) (by assumption) ?_
  refine wpAnyH_take (i := 9) (v := pp P) rfl (by kernel_rfl) (by kernel_rfl) (by kernel_rfl) (fun _ _ _ h => h) (Or.inl ⟨by kernel_rfl, fun _ _ => by kernel_rfl⟩) (by assumption) ?_
  refine wpAnyH_take (i := 10) (v := .pointer (some ⟨P, 2, none⟩)) rfl (by kernel_rfl) (by kernel_rfl) (by kernel_rfl) (fun _ _ _ h => h) (Or.inl ⟨by kernel_rfl, fun _ _ => by kernel_rfl⟩) (by assumption) ?_
  refine wpAnyH_take (i := 11) (v := .pointer (some ⟨P, 2 + a * 25, none⟩)) rfl (by kernel_rfl) (by kernel_rfl) (by kernel_rfl) (fun _ _ _ h => h) (Or.inl ⟨by kernel_rfl, fun wq hSw => by
      go_simp⟩) (by assumption) ?_
  have hwr : IntKind.i64.wrap (cc + 1) = cc + 1 := by rw [IntKind.wrap_i64]; omega
  refine wpAnyH_ready (rs := [7]) (by kernel_rfl) (by simp) ?_
  refine AllReadyH.cons (i := 7) rfl ?_ AllReadyH.nil
  go_simp
  intro K hK
  refine hK.out _ _ hd0 (fun _ => ?_)
  clear hK K
  refine wpAnyH_take (i := 8) (v := .int .i64 (cc + 1)) rfl (by kernel_rfl) (by kernel_rfl) (by kernel_rfl) (fun _ _ _ h => h) (Or.inl ⟨by kernel_rfl, fun wq hSw => by
      go_simp⟩) (by assumption) ?_
  refine wpAnyH_take (i := 12) (v := .pointer (some ⟨P, 2 + a * 25 + b, none⟩)) rfl (by kernel_rfl) (by kernel_rfl) (by kernel_rfl) (fun _ _ _ h => h) (Or.inl ⟨by kernel_rfl, fun wq hSw => by
      go_simp⟩) (by assumption) ?_
  refine wpAnyH_ready (rs := [13]) (by kernel_rfl) (by simp) ?_
  refine AllReadyH.cons (i := 13) rfl ?_ AllReadyH.nil
  go_simp
  intro K hK
  refine hK.out _ _ (Fr.set (S := fun j => j = P) (Fr.refl _ W1) (p := ⟨P, 2 + a * 25 + b, none⟩) rfl _).drew (fun _ => ?_)
  clear hK K
  refine wpAnyH_done (by kernel_rfl) ?_ _
  rw [HW2.out]
  clear hd0 c1 f1 hwr HCl
  go_wp2_with fail
  refine (next_any (P := P) ⟨HP2.out, HM2.out⟩ HWf.out).mono ?_
  rintro e w3 ⟨rfl, hP3, hF3⟩
  have hR3 := (hF3.block q (block_lt HR2.out) (by have := Hml.out; have := HQ.out; omega)).trans HR2.out
  have HR3 := hidIn hR3
  have HP3 := hidIn hP3
  have HF3 := hidIn ((HF2.out.mono (T := fun j => j = P ∨ j = m) (fun _ _ h => .inl h)).trans (hF3.mono (T := fun j => j = P ∨ j = m) (fun _ _ h => .inr h)))
  have d0 := cell_of_row _ _ 0 _ _ _ hR3
  have d1 := cell_of_row _ _ 1 _ _ _ hR3
  have d2 := cell_of_row _ _ 2 _ _ _ hR3
  have f0 := frozen_new hR3 0
  have f1 := frozen_new hR3 1
  have f2 := frozen_new hR3 2
  simp at d0 d1 d2
  clear hR3 hP3 hF3 g1
  obtain ⟨⟨x, y, z⟩, hx⟩ : ∃ x, ftO (findR l ((a : Int), (b : Int), cc + 1)) = x := ⟨_, rfl⟩
  have Hx := hidIn hx
  rw [hx]
  clear hx
  go_wp2_with fail
  have hF6 : Fr (fun j => j = q) w3 (((w3.setCell ⟨q, 0, none⟩ (.int .i64 x)).setCell ⟨q, 1, none⟩ (.int .i64 y)).setCell ⟨q, 2, none⟩ (.int .i64 z)) := fr_ft (S := fun j => j = q) (Fr.refl _ w3) rfl _ _ _
  refine bodyPost_ret (v := .tuple #[ftV (x, y, z), .int .i64 0]) (by simp [results, Try.results24, asAddr, load_ft (set_ft HR3.out)]) rfl ⟨by rw [Hx.out], ?_, ?_⟩
  · exact HP3.out.keep hF6 (by have := HPl.out; have := HQ.out; omega) (by have := Hml.out; have := HQ.out; omega)
  · have e := HQ.out
    have hF := HF3.out
    refine ⟨hF6.os.trans hF.os, hF6.tape.trans hF.tape, hF6.output.trans hF.output, Nat.le_trans hF.size hF6.size, fun j hj hjm => ?_⟩
    exact (hF6.block j (Nat.lt_of_lt_of_le hj hF.size) (by omega)).trans (hF.block j hj hjm)
end Go.Proofs.Ytkhfpcnmnnboeaa.Fa
