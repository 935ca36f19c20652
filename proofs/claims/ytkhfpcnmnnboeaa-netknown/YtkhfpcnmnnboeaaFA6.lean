/- fate: next. -/
import Derived.Test.YtkhfpcnmnnboeaaFA5
namespace Go.Proofs.Ytkhfpcnmnnboeaa.Fa
open Go.RowKit

/-- What next finds in any world that is as this one. -/
def NxW (W P m q : Nat) (w : World) (k : Ky) (v : Value) (b : Bool) : Prop := ∀ wq, Below W w wq → wq.cell? ⟨P, 1, none⟩ = some (.map (some m)) ∧ wq.cell? ⟨q, 0, none⟩ = some (.int .i64 k.1) ∧ wq.cell? ⟨q, 1, none⟩ = some (.int .i64 k.2.1) ∧ wq.cell? ⟨q, 2, none⟩ = some (.int .i64 k.2.2) ∧ (Instr.lookup 93 (.map (some m)) (.agg #[.int .i64 k.1, .int .i64 k.2.1, .int .i64 k.2.2]) true).run Try.prog wq = .ok (.tuple #[v, .bool b]) wq
theorem nxW_of {w W1 : World} {P m q : Nat} {l : List Ru} {c : Nat → Nat → Int} (h : PlAt w P m l c) {k : Ky} (hk : wfM k) (hb : Below w.heap.size w W1) (hq : BxK W1 q k) : NxW W1.heap.size P m q W1 k (((findR l k).map ruV).getD zRu) (findR l k).isSome := by
  intro wq hwq
  have hP := h.below (hb.trans (hwq.mono hb.size)) h.b.lt h.m.lt
  have hq' := hq.keep hwq (Nat.le_refl _)
  exact ⟨hP.b.map, hq'.c0, hq'.c1, hq'.c2, hP.m.look hk⟩
theorem set_ft {w : World} {b : Nat} {x y z x' y' z' : Value} (h : w.heap[b]? = some (.cells #[x, y, z] 33)) : (((w.setCell ⟨b, 0, none⟩ x').setCell ⟨b, 1, none⟩ y').setCell ⟨b, 2, none⟩ z').heap[b]? = some (.cells #[x', y', z'] 33) :=
  heap_setCell_same _ _ _ _ _ _ (heap_setCell_same _ _ _ _ _ _ (heap_setCell_same _ _ _ _ _ _ h))
theorem below_ft {B : Nat} {a w : World} {b : Nat} (h : Below B a w) (hb : B ≤ b) (x y z : Value) : Below B a (((w.setCell ⟨b, 0, none⟩ x).setCell ⟨b, 1, none⟩ y).setCell ⟨b, 2, none⟩ z) :=
  ((h.setCell (p := ⟨b, 0, none⟩) hb _).setCell (p := ⟨b, 1, none⟩) hb _).setCell (p := ⟨b, 2, none⟩) hb _
theorem fr_ft {S : Nat → Prop} {a w : World} {b : Nat} (h : Fr S a w) (hb : S b) (x y z : Value) : Fr S a (((w.setCell ⟨b, 0, none⟩ x).setCell ⟨b, 1, none⟩ y).setCell ⟨b, 2, none⟩ z) :=
  ((h.set (p := ⟨b, 0, none⟩) hb _).set (p := ⟨b, 1, none⟩) hb _).set (p := ⟨b, 2, none⟩) hb _
set_option maxRecDepth 100000 in
set_option maxHeartbeats 1000000 in
theorem next_none {P m : Nat} {l : List Ru} {c : Nat → Nat → Int} {w : World} (h : PlAt w P m l c) {k : Ky} (hk : wfM k) (hf : findR l k = none) :
    Calls Try.prog 42 #[pp P, kyV k] w fun e w' => e = .returned (ftV (1, 0, 0)) ∧ Below w.heap.size w w' := by
  obtain ⟨W1, hW1⟩ : ∃ W1, (w.alloc (.cells #[.int .i64 k.1, .int .i64 k.2.1, .int .i64 k.2.2] 100)).alloc (.cells #[.int .i64 0, .int .i64 0, .int .i64 0] 33) = W1 := ⟨_, rfl⟩
  have b0 : Below w.heap.size w (w.alloc (.cells #[.int .i64 k.1, .int .i64 k.2.1, .int .i64 k.2.2] 100)) := (Below.refl _ w).alloc (Nat.le_refl _) _
  have b1 : Below w.heap.size w W1 := by rw [← hW1]; exact b0.alloc (by simp) _
  have hq : BxK W1 w.heap.size k := by
    rw [← hW1]
    exact (BxK.new w k 100).keep ((Below.refl _ _).alloc (Nat.le_refl _) _) (Nat.le_refl _)
  have hN := nxW_of h hk b1 hq
  rw [hf] at hN
  have s1 : W1.heap.size = w.heap.size + 2 := by rw [← hW1]; simp
  have hr : W1.heap[w.heap.size + 1]? = some (.cells #[.int .i64 0, .int .i64 0, .int .i64 0] 33) := by
    rw [← hW1]
    have := heap_alloc_last (w.alloc (.cells #[.int .i64 k.1, .int .i64 k.2.1, .int .i64 k.2.2] 100)) (.cells #[.int .i64 0, .int .i64 0, .int .i64 0] 33)
    rwa [World.size_alloc] at this
  have hP1 := h.below b1 h.b.lt h.m.lt
  have hPl := h.b.lt
  have hml := h.m.lt
  have hne := h.ne
  obtain ⟨q, hqq⟩ : ∃ q, w.heap.size = q := ⟨_, rfl⟩
  rw [hqq] at s1 hN b1 hr hq hPl hml ⊢
  have HN : Hid (NxW (q + 2) P m q W1 k (.agg #[.int .i64 0, .int .i64 0, .int .i64 0, .int .i64 0, .int .i64 0]) false) := hidIn (by rw [← s1]; exact hN)
  have HK := hidIn hk
  have HP := hidIn hP1
  have HPl := hidIn hPl
  have Hml := hidIn hml
  have Hne := hidIn hne
  have HX := hidIn hq
  have HW := hidIn hW1
  have HB := hidIn b1
  have HQ := hidIn hqq
  have HR := hidIn hr
  obtain ⟨W2, hW2⟩ : ∃ W2, (W1.alloc (.cells #[.int .i64 0, .int .i64 0, .int .i64 0, .int .i64 0, .int .i64 0] 70)).drew = W2 := ⟨_, rfl⟩
  have b2 : Below (q + 2) W1 W2 := by rw [← hW2]; exact ((Below.refl _ W1).alloc (by omega) _).drew
  have hh : W2.heap[q + 2]? = some (.cells #[.int .i64 0, .int .i64 0, .int .i64 0, .int .i64 0, .int .i64 0] 70) := by
    rw [← hW2, ← s1]
    exact heap_alloc_last W1 _
  have HR2 := hidIn ((b2.block _ (by omega)).trans hr)
  have HX2 := hidIn (hq.keep b2 (by omega))
  have HP2 := hidIn (hP1.below b2 (by omega) (by omega))
  have HB2 := hidIn (b1.trans (b2.mono (by omega)))
  have HH2 := hidIn hh
  have Hb2 := hidIn b2
  have HW2 := hidIn hW2
  have Hs1 := hidIn s1
  clear hN hW1 b0 b1 hq h hk hf hr hqq hP1 hPl hml hne b2 hh hW2
  go_enter Try.func42, Try.ntmps42
  go_upto_region 1 with fail
  rw [HW.out, HQ.out]
  clear HW
  refine wp_region_held_drew (S := fun wx => Below (q + 2) W1 wx) (by kernel_rfl) ((Below.refl _ W1).drew) (fun hHeld => ?_)
  have hd0 : Below (q + 2) W1 W1.drew := hHeld
  clear hHeld
  refine wpAnyH_take (i := 0) (v := pp P) rfl (by kernel_rfl) (by kernel_rfl) (by kernel_rfl) (fun _ _ _ h => h) (Or.inl ⟨by kernel_rfl, fun _ _ => by kernel_rfl⟩) (by assumption) ?_
  refine wpAnyH_take (i := 1) (v := pp P) rfl (by kernel_rfl) (by kernel_rfl) (by kernel_rfl) (fun _ _ _ h => h) (Or.inl ⟨by kernel_rfl, fun _ _ => by kernel_rfl⟩) (by assumption) ?_
  refine wpAnyH_take (i := 2) (v := .pointer (some ⟨P, 1, none⟩)) rfl (by kernel_rfl) (by kernel_rfl) (by kernel_rfl) (fun _ _ _ h => h) (Or.inl ⟨by kernel_rfl, fun _ _ => by kernel_rfl⟩) (by assumption) ?_
  refine wpAnyH_take (i := 3) (v := .map (some m)) rfl (by kernel_rfl) (by kernel_rfl) (by kernel_rfl) (fun _ _ _ h => h) (Or.inl ⟨by kernel_rfl, fun wq hSw => by
      obtain ⟨s0, s1, s2, s3, s4⟩ := HN.out wq hSw
      go_simp⟩) (by assumption) ?_
  refine wpAnyH_take (i := 4) (v := .agg #[.int .i64 k.1, .int .i64 k.2.1, .int .i64 k.2.2]) rfl (by kernel_rfl) (by kernel_rfl) (by kernel_rfl) (fun _ _ _ h => h) (Or.inl ⟨by kernel_rfl, fun wq hSw => by
      obtain ⟨s0, s1, s2, s3, s4⟩ := HN.out wq hSw
      go_simp⟩) (by assumption) ?_
  refine wpAnyH_take (i := 5) (v := .tuple #[.agg #[.int .i64 0, .int .i64 0, .int .i64 0, .int .i64 0, .int .i64 0], .bool false]) rfl (by kernel_rfl) (by kernel_rfl) (by kernel_rfl) (fun _ _ _ h => h) (Or.inl ⟨by kernel_rfl, fun wq hSw => by
      obtain ⟨s0, s1, s2, s3, s4⟩ := HN.out wq hSw
      go_simp⟩) (by assumption) ?_
  refine wpAnyH_take (i := 6) (v := .tuple #[.agg #[.int .i64 0, .int .i64 0, .int .i64 0, .int .i64 0, .int .i64 0], .bool false]) rfl (by kernel_rfl) (by kernel_rfl) (by kernel_rfl) (fun _ _ _ h => h) (Or.inl ⟨by kernel_rfl, fun _ _ => by kernel_rfl⟩) (by assumption) ?_
  refine wpAnyH_take (i := 7) (v := .agg #[.int .i64 0, .int .i64 0, .int .i64 0, .int .i64 0, .int .i64 0]) rfl (by kernel_rfl) (by kernel_rfl) (by kernel_rfl) (fun _ _ _ h => h) (Or.inl ⟨by kernel_rfl, fun _ _ => by kernel_rfl⟩) (by assumption) ?_
  refine wpAnyH_take (i := 8) (v := .bool false) rfl (by kernel_rfl) (by kernel_rfl) (by kernel_rfl) (fun _ _ _ h => h) (Or.inl ⟨by kernel_rfl, fun _ _ => by kernel_rfl⟩) (by assumption) ?_
  refine wpAnyH_ready (rs := [9]) (by kernel_rfl) (by simp) ?_
  refine AllReadyH.cons (i := 9) rfl ?_ AllReadyH.nil
  go_simp
  intro K hK
  refine hK.out _ _ (((Below.refl _ W1).alloc (by omega) _).drew) (fun _ => ?_)
  clear hK K
  refine wpAnyH_ready (rs := [10]) (by kernel_rfl) (by simp) ?_
  refine AllReadyH.cons (i := 10) rfl ?_ AllReadyH.nil
  go_simp
  intro K hK
  refine hK.out _ _ (((Below.refl _ W1).alloc (by omega) _).drew) (fun _ => ?_)
  clear hK K
  refine wpAnyH_take (i := 11) (v := .bool false) rfl (by kernel_rfl) (by kernel_rfl) (by kernel_rfl) (fun _ _ _ h => h) (Or.inl ⟨by kernel_rfl, fun _ _ => by kernel_rfl⟩) (by assumption) ?_
  refine wpAnyH_done (by kernel_rfl) ?_ _
  rw [HW2.out]
  clear hd0 HW2 s1
  have d0 := cell_of_row _ _ 0 _ _ _ HR2.out
  have d1 := cell_of_row _ _ 1 _ _ _ HR2.out
  have d2 := cell_of_row _ _ 2 _ _ _ HR2.out
  have f0 := frozen_new HR2.out 0
  have f1 := frozen_new HR2.out 1
  have f2 := frozen_new HR2.out 2
  simp at d0 d1 d2
  go_wp2_with fail
  refine bodyPost_ret (v := ftV (1, 0, 0)) (by simp [results, Try.results42, asAddr, load_ft (set_ft HR2.out)]) rfl ⟨rfl, ?_⟩
  exact below_ft HB2.out (Nat.le_succ _) _ _ _
set_option maxRecDepth 100000 in
set_option maxHeartbeats 1000000 in
theorem next_some {P m : Nat} {l : List Ru} {c : Nat → Nat → Int} {w : World} (h : PlAt w P m l c) {k : Ky} (hk : wfM k) {r : Ru} (hf : findR l k = some r) :
    Calls Try.prog 42 #[pp P, kyV k] w fun e w' => e = .returned (ftV (byR r)) ∧ PlAt w' P m (dropR l k) c ∧ Fr (fun j => j = m) w w' := by
  obtain ⟨W1, hW1⟩ : ∃ W1, (w.alloc (.cells #[.int .i64 k.1, .int .i64 k.2.1, .int .i64 k.2.2] 100)).alloc (.cells #[.int .i64 0, .int .i64 0, .int .i64 0] 33) = W1 := ⟨_, rfl⟩
  have b0 : Below w.heap.size w (w.alloc (.cells #[.int .i64 k.1, .int .i64 k.2.1, .int .i64 k.2.2] 100)) := (Below.refl _ w).alloc (Nat.le_refl _) _
  have b1 : Below w.heap.size w W1 := by rw [← hW1]; exact b0.alloc (by simp) _
  have hq : BxK W1 w.heap.size k := by
    rw [← hW1]
    exact (BxK.new w k 100).keep ((Below.refl _ _).alloc (Nat.le_refl _) _) (Nat.le_refl _)
  have hN := nxW_of h hk b1 hq
  rw [hf] at hN
  have s1 : W1.heap.size = w.heap.size + 2 := by rw [← hW1]; simp
  have hr : W1.heap[w.heap.size + 1]? = some (.cells #[.int .i64 0, .int .i64 0, .int .i64 0] 33) := by
    rw [← hW1]
    have := heap_alloc_last (w.alloc (.cells #[.int .i64 k.1, .int .i64 k.2.1, .int .i64 k.2.2] 100)) (.cells #[.int .i64 0, .int .i64 0, .int .i64 0] 33)
    rwa [World.size_alloc] at this
  have hP1 := h.below b1 h.b.lt h.m.lt
  have hPl := h.b.lt
  have hml := h.m.lt
  have hne := h.ne
  obtain ⟨q, hqq⟩ : ∃ q, w.heap.size = q := ⟨_, rfl⟩
  rw [hqq] at s1 hN b1 hr hq hPl hml
  have HN : Hid (NxW (q + 2) P m q W1 k (.agg #[.int .i64 r.1, .int .i64 r.2.1, .int .i64 r.2.2.1, .int .i64 r.2.2.2.1, .int .i64 r.2.2.2.2]) true) := hidIn (by rw [← s1]; exact hN)
  have HK := hidIn hk
  have HP := hidIn hP1
  have HPl := hidIn hPl
  have Hml := hidIn hml
  have Hne := hidIn hne
  have HX := hidIn hq
  have HW := hidIn hW1
  have HB := hidIn b1
  have HQ := hidIn hqq
  have HR := hidIn hr
  obtain ⟨W2, hW2⟩ : ∃ W2, (W1.alloc (.cells #[.int .i64 r.1, .int .i64 r.2.1, .int .i64 r.2.2.1, .int .i64 r.2.2.2.1, .int .i64 r.2.2.2.2] 70)).drew = W2 := ⟨_, rfl⟩
  have b2 : Below (q + 2) W1 W2 := by rw [← hW2]; exact ((Below.refl _ W1).alloc (by omega) _).drew
  have hh : W2.heap[q + 2]? = some (.cells #[.int .i64 r.1, .int .i64 r.2.1, .int .i64 r.2.2.1, .int .i64 r.2.2.2.1, .int .i64 r.2.2.2.2] 70) := by
    rw [← hW2, ← s1]
    exact heap_alloc_last W1 _
  have HR2 := hidIn ((b2.block _ (by omega)).trans hr)
  have HX2 := hidIn (hq.keep b2 (by omega))
  have HP2 := hidIn (hP1.below b2 (by omega) (by omega))
  have HB2 := hidIn (b1.trans (b2.mono (by omega)))
  have HH2 := hidIn hh
  have Hb2 := hidIn b2
  have HW2 := hidIn hW2
  have Hs1 := hidIn s1
  clear hN hW1 b0 b1 hq h hk hf hr hqq hP1 hPl hml hne b2 hh hW2
  go_enter Try.func42, Try.ntmps42
  go_upto_region 1 with fail
  rw [HW.out, HQ.out]
  clear HW
  refine wp_region_held_drew (S := fun wx => Below (q + 2) W1 wx) (by kernel_rfl) ((Below.refl _ W1).drew) (fun hHeld => ?_)
  have hd0 : Below (q + 2) W1 W1.drew := hHeld
  clear hHeld
  refine wpAnyH_take (i := 0) (v := pp P) rfl (by kernel_rfl) (by kernel_rfl) (by kernel_rfl) (fun _ _ _ h => h) (Or.inl ⟨by kernel_rfl, fun _ _ => by kernel_rfl⟩) (by assumption) ?_
  refine wpAnyH_take (i := 1) (v := pp P) rfl (by kernel_rfl) (by kernel_rfl) (by kernel_rfl) (fun _ _ _ h => h) (Or.inl ⟨by kernel_rfl, fun _ _ => by kernel_rfl⟩) (by assumption) ?_
  refine wpAnyH_take (i := 2) (v := .pointer (some ⟨P, 1, none⟩)) rfl (by kernel_rfl) (by kernel_rfl) (by kernel_rfl) (fun _ _ _ h => h) (Or.inl ⟨by kernel_rfl, fun _ _ => by kernel_rfl⟩) (by assumption) ?_
  refine wpAnyH_take (i := 3) (v := .map (some m)) rfl (by kernel_rfl) (by kernel_rfl) (by kernel_rfl) (fun _ _ _ h => h) (Or.inl ⟨by kernel_rfl, fun wq hSw => by
      obtain ⟨s0, s1, s2, s3, s4⟩ := HN.out wq hSw
      go_simp⟩) (by assumption) ?_
  refine wpAnyH_take (i := 4) (v := .agg #[.int .i64 k.1, .int .i64 k.2.1, .int .i64 k.2.2]) rfl (by kernel_rfl) (by kernel_rfl) (by kernel_rfl) (fun _ _ _ h => h) (Or.inl ⟨by kernel_rfl, fun wq hSw => by
      obtain ⟨s0, s1, s2, s3, s4⟩ := HN.out wq hSw
      go_simp⟩) (by assumption) ?_
  refine wpAnyH_take (i := 5) (v := .tuple #[.agg #[.int .i64 r.1, .int .i64 r.2.1, .int .i64 r.2.2.1, .int .i64 r.2.2.2.1, .int .i64 r.2.2.2.2], .bool true]) rfl (by kernel_rfl) (by kernel_rfl) (by kernel_rfl) (fun _ _ _ h => h) (Or.inl ⟨by kernel_rfl, fun wq hSw => by
      obtain ⟨s0, s1, s2, s3, s4⟩ := HN.out wq hSw
      go_simp⟩) (by assumption) ?_
  refine wpAnyH_take (i := 6) (v := .tuple #[.agg #[.int .i64 r.1, .int .i64 r.2.1, .int .i64 r.2.2.1, .int .i64 r.2.2.2.1, .int .i64 r.2.2.2.2], .bool true]) rfl (by kernel_rfl) (by kernel_rfl) (by kernel_rfl) (fun _ _ _ h => h) (Or.inl ⟨by kernel_rfl, fun _ _ => by kernel_rfl⟩) (by assumption) ?_
  refine wpAnyH_take (i := 7) (v := .agg #[.int .i64 r.1, .int .i64 r.2.1, .int .i64 r.2.2.1, .int .i64 r.2.2.2.1, .int .i64 r.2.2.2.2]) rfl (by kernel_rfl) (by kernel_rfl) (by kernel_rfl) (fun _ _ _ h => h) (Or.inl ⟨by kernel_rfl, fun _ _ => by kernel_rfl⟩) (by assumption) ?_
  refine wpAnyH_take (i := 8) (v := .bool true) rfl (by kernel_rfl) (by kernel_rfl) (by kernel_rfl) (fun _ _ _ h => h) (Or.inl ⟨by kernel_rfl, fun _ _ => by kernel_rfl⟩) (by assumption) ?_
  refine wpAnyH_ready (rs := [9]) (by kernel_rfl) (by simp) ?_
  refine AllReadyH.cons (i := 9) rfl ?_ AllReadyH.nil
  go_simp
  intro K hK
  refine hK.out _ _ (((Below.refl _ W1).alloc (by omega) _).drew) (fun _ => ?_)
  clear hK K
  refine wpAnyH_ready (rs := [10]) (by kernel_rfl) (by simp) ?_
  refine AllReadyH.cons (i := 10) rfl ?_ AllReadyH.nil
  go_simp
  intro K hK
  refine hK.out _ _ (((Below.refl _ W1).alloc (by omega) _).drew) (fun _ => ?_)
  clear hK K
  refine wpAnyH_take (i := 11) (v := .bool true) rfl (by kernel_rfl) (by kernel_rfl) (by kernel_rfl) (fun _ _ _ h => h) (Or.inl ⟨by kernel_rfl, fun _ _ => by kernel_rfl⟩) (by assumption) ?_
  refine wpAnyH_done (by kernel_rfl) ?_ _
  rw [HW2.out]
  clear hd0 HW2 s1
  obtain ⟨W3, hrun0, hM0, hF0⟩ := (show MpR W2.drew m l from HP2.out.m).drop HK.out 0
  have hF0' : Fr (fun j => j = m) W2 W3 := ⟨hF0.os, hF0.tape, hF0.output, hF0.size, hF0.block⟩
  have hqm : q ≠ m := by have := Hml.out; omega
  have hPm := Hne.out
  have HCl : Hid (∀ wq, Fr (fun j => j = m) W2 wq → wq.cell? ⟨P, 1, none⟩ = some (.map (some m)) ∧ wq.cell? ⟨q, 0, none⟩ = some (.int .i64 k.1) ∧ wq.cell? ⟨q, 1, none⟩ = some (.int .i64 k.2.1) ∧ wq.cell? ⟨q, 2, none⟩ = some (.int .i64 k.2.2)) := hidIn fun wq hF => by
    have e : ∀ j, wq.cell? ⟨q, j, none⟩ = W2.cell? ⟨q, j, none⟩ := fun j => by
      unfold World.cell?
      rw [hF.block q HX2.out.lt hqm]
    exact ⟨(HP2.out.b.keep hF hPm).map, (e 0).trans HX2.out.c0, (e 1).trans HX2.out.c1, (e 2).trans HX2.out.c2⟩
  have HR0 : Hid ((Builtin.delete_ #[93, 100] 0 #[.map (some m), .agg #[.int .i64 k.1, .int .i64 k.2.1, .int .i64 k.2.2]]).run Try.prog W2.drew = .ok (.tuple #[]) W3) := hidIn hrun0
  have HF0 := hidIn hF0
  have HF0' := hidIn hF0'
  have HM0 := hidIn hM0
  have HP3 := hidIn (HP2.out.b.keep hF0' hPm)
  have HR3 := hidIn ((hF0'.block (q + 1) (block_lt HR2.out) (by have := Hml.out; omega)).trans HR2.out)
  have HH3 := hidIn ((hF0'.block (q + 2) (block_lt HH2.out) (by have := Hml.out; omega)).trans HH2.out)
  clear hrun0 hM0 hF0 hF0' hqm hPm
  go_wp2_with fail
  refine wp_region_held_drew (S := fun wx => Fr (fun j => j = m) W2 wx) (by kernel_rfl) ((Fr.refl _ W2).drew) (fun hHeld => ?_)
  have hd0 : Fr (fun j => j = m) W2 W2.drew := hHeld
  clear hHeld
  refine wpAnyH_take (i := 0) (v := pp P) rfl (by kernel_rfl) (by kernel_rfl) (by kernel_rfl) (fun _ _ _ h => h) (Or.inl ⟨by kernel_rfl, fun _ _ => by kernel_rfl⟩) (by assumption) ?_
  refine wpAnyH_take (i := 1) (v := pp P) rfl (by kernel_rfl) (by kernel_rfl) (by kernel_rfl) (fun _ _ _ h => h) (Or.inl ⟨by kernel_rfl, fun _ _ => by kernel_rfl⟩) (by assumption) ?_
  refine wpAnyH_take (i := 2) (v := .pointer (some ⟨P, 1, none⟩)) rfl (by kernel_rfl) (by kernel_rfl) (by kernel_rfl) (fun _ _ _ h => h) (Or.inl ⟨by kernel_rfl, fun _ _ => by kernel_rfl⟩) (by assumption) ?_
  refine wpAnyH_take (i := 3) (v := .map (some m)) rfl (by kernel_rfl) (by kernel_rfl) (by kernel_rfl) (fun _ _ _ h => h) (Or.inl ⟨by kernel_rfl, fun wq hSw => by
      obtain ⟨s0, s1, s2, s3⟩ := HCl.out wq hSw
      go_simp⟩) (by assumption) ?_
  refine wpAnyH_take (i := 4) (v := .agg #[.int .i64 k.1, .int .i64 k.2.1, .int .i64 k.2.2]) rfl (by kernel_rfl) (by kernel_rfl) (by kernel_rfl) (fun _ _ _ h => h) (Or.inl ⟨by kernel_rfl, fun wq hSw => by
      obtain ⟨s0, s1, s2, s3⟩ := HCl.out wq hSw
      go_simp⟩) (by assumption) ?_
  have hr0 := HR0.out
  refine wpAnyH_ready (rs := [5]) (by kernel_rfl) (by simp) ?_
  refine AllReadyH.cons (i := 5) rfl ?_ AllReadyH.nil
  go_simp
  intro K hK
  refine hK.out _ _ (hd0.trans HF0.out) (fun _ => ?_)
  clear hK K hr0 HCl HR0
  refine wpAnyH_done (by kernel_rfl) ?_ _
  have c0 := cell_of_row _ _ 0 _ _ _ HH3.out
  have c1 := cell_of_row _ _ 1 _ _ _ HH3.out
  have c2 := cell_of_row _ _ 2 _ _ _ HH3.out
  have c3 := cell_of_row _ _ 3 _ _ _ HH3.out
  have c4 := cell_of_row _ _ 4 _ _ _ HH3.out
  simp at c0 c1 c2 c3 c4
  go_wp2_with fail
  refine (ftrule_any r _).mono ?_
  rintro e w4 ⟨rfl, hb4⟩
  have hR4 := (hb4.block (q + 1) (block_lt HR3.out)).trans HR3.out
  have HR4 := hidIn hR4
  have HP4 := hidIn ((hb4.block P HP3.out.lt).trans HP3.out)
  have HM4 := hidIn (HM0.out.below hb4 HM0.out.lt)
  have HF4 := hidIn ((Fr.mono (T := fun j => j = m ∨ j = q + 1) HF0'.out (fun _ _ h => .inl h)).trans (Fr.of_below hb4))
  have d0 := cell_of_row _ _ 0 _ _ _ hR4
  have d1 := cell_of_row _ _ 1 _ _ _ hR4
  have d2 := cell_of_row _ _ 2 _ _ _ hR4
  have f0 := frozen_new hR4 0
  have f1 := frozen_new hR4 1
  have f2 := frozen_new hR4 2
  simp at d0 d1 d2
  clear c0 c1 c2 c3 c4 hb4 hR4 hd0
  obtain ⟨⟨x, y, z⟩, hx⟩ : ∃ x, byR r = x := ⟨_, rfl⟩
  have Hx := hidIn hx
  rw [hx]
  clear hx
  go_wp2_with fail
  have hF5 := fr_ft HF4.out (b := q + 1) (.inr rfl) (.int .i64 x) (.int .i64 y) (.int .i64 z)
  have hF6 : Fr (fun j => j = q + 1) w4 (((w4.setCell ⟨q + 1, 0, none⟩ (.int .i64 x)).setCell ⟨q + 1, 1, none⟩ (.int .i64 y)).setCell ⟨q + 1, 2, none⟩ (.int .i64 z)) := fr_ft (S := fun j => j = q + 1) (Fr.refl _ w4) rfl _ _ _
  refine bodyPost_ret (v := ftV (x, y, z)) (by simp [results, Try.results42, asAddr, load_ft (set_ft HR4.out)]) rfl ⟨by rw [Hx.out], ?_, ?_⟩
  · exact PlAt.keep ⟨HP4.out, HM4.out⟩ hF6 (by have := HPl.out; omega) (by have := Hml.out; omega)
  · have hb := HB2.out
    have e := HQ.out
    refine ⟨hF5.os.trans hb.os, hF5.tape.trans hb.tape, hF5.output.trans hb.output, Nat.le_trans hb.size hF5.size, fun j hj hjm => ?_⟩
    rw [e] at hj
    exact (hF5.block j (by have := hb.size; omega) (by omega)).trans (hb.block j hj)
theorem next_any {P m : Nat} {l : List Ru} {c : Nat → Nat → Int} {w : World} (h : PlAt w P m l c) {k : Ky} (hk : wfM k) :
    Calls Try.prog 42 #[pp P, kyV k] w fun e w' => e = .returned (ftV (ftO (findR l k))) ∧ PlAt w' P m (dropR l k) c ∧ Fr (fun j => j = m) w w' := by
  cases hf : findR l k with
  | none =>
    refine (next_none h hk hf).mono ?_
    rintro e w' ⟨rfl, hb⟩
    exact ⟨rfl, by rw [drop_none hf]; exact h.below hb h.b.lt h.m.lt, Fr.of_below hb⟩
  | some r => exact next_some h hk hf
end Go.Proofs.Ytkhfpcnmnnboeaa.Fa
