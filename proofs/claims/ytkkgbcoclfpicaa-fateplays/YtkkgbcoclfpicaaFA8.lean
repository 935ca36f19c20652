/- fate: Copy; what is none. -/
import Derived.Test.YtkkgbcoclfpicaaFA7
import Derived.Test.YtkkgbcoclfpicaaShelf
namespace Go.Proofs.Ytkkgbcoclfpicaa.Fa
open Go.RowKit

theorem clone_any (b : Nat) (es : Array MapEntry) (cl : Nat) (w : World) (hb : w.heap[b]? = some (.map es cl)) :
    Calls Try.prog 27 #[.map (some b)] w fun e w' => e = .returned (.map (some w.heap.size)) ∧ w' = w.alloc (.map es cl) := AnyW.maps_Clone Try.cloneM b es cl w hb
set_option maxRecDepth 100000 in
theorem fleft_nil (w : World) : Calls Try.prog 14 #[nilQ] w fun e w' => e = .returned (.int .i64 0) ∧ w' = w := by
  have HT := hidIn (fthere_nil w)
  go_enter Try.func14, Try.ntmps14
  go_wp2_with (go_at_call 23; refine HT.out.mono ?_; rintro e w1 ⟨rfl, hw1⟩; rw [hw1]; clear hw1 w1)
  go_ret
  exact ⟨rfl, rfl⟩
set_option maxRecDepth 100000 in
theorem fasked_nil (a b : Int) (w : World) : Calls Try.prog 12 #[nilQ, .int .i64 a, .int .i64 b] w fun e w' => e = .returned (.int .i64 0) ∧ w' = w := by
  have HT := hidIn (fthere_nil w)
  go_enter Try.func12, Try.ntmps12
  go_wp2_with (go_at_call 23; refine HT.out.mono ?_; rintro e w1 ⟨rfl, hw1⟩; rw [hw1]; clear hw1 w1)
  go_ret
  exact ⟨rfl, rfl⟩
set_option maxRecDepth 100000 in
theorem fcopy_nil (w : World) : Calls Try.prog 16 #[nilQ] w fun e w' => e = .returned nilQ ∧ w' = w := by
  have HT := hidIn (fthere_nil w)
  go_enter Try.func16, Try.ntmps16
  go_wp2_with (go_at_call 23; refine HT.out.mono ?_; rintro e w1 ⟨rfl, hw1⟩; rw [hw1]; clear hw1 w1)
  go_ret
  exact ⟨rfl, rfl⟩
set_option maxRecDepth 100000 in
set_option maxHeartbeats 1000000 in
theorem fcopy_any {P m : Nat} {l : List Ru} {c : Nat → Nat → Int} {w : World} (h : PlAt w P m l c) : Calls Try.prog 16 #[pp P] w fun e w' => ∃ P2 m2, e = .returned (pp P2) ∧ PlAt w' P2 m2 l c ∧ w.heap.size ≤ P2 ∧ w.heap.size ≤ m2 ∧ Below w.heap.size w w' := by
  obtain ⟨es, cl, he⟩ := h.m.isMap
  have HT := hidIn (fthere_yes h.b.self)
  have HCl : Hid (∀ wq, Below w.heap.size w wq → wq.cell? ⟨P, 1, none⟩ = some (.map (some m))) := hidIn fun wq hF => (h.below hF h.b.lt h.m.lt).b.map
  have HRg : Hid (∀ wq, Below w.heap.size w wq → wq.rangeAt P 2 (ccl c)) := hidIn fun wq hF => (h.below hF h.b.lt h.m.lt).b.range
  have HE : Hid (∀ wq, Below w.heap.size w wq → wq.heap[m]? = some (.map es cl)) := hidIn fun wq hF => (hF.block m h.m.lt).trans he
  have HM : Hid (∀ wq, Below w.heap.size w wq → MpR (wq.alloc (.map es cl)) wq.heap.size l) := hidIn fun wq hF => (h.m.below hF h.m.lt).copied ((hF.block m h.m.lt).trans he)
  have HMD := fun m w => hidIn (made_any m c w)
  obtain ⟨ZA, hZA⟩ : ∃ ZA, (ccl c).toArray = ZA := ⟨_, rfl⟩
  rw [hZA] at HMD
  have HZ := hidIn hZA
  clear hZA h he
  go_enter Try.func16, Try.ntmps16
  go_upto_region 3 with (go_at_call 23; refine HT.out.mono ?_; rintro e w1 ⟨rfl, hw1⟩; rw [hw1]; clear hw1 w1)
  refine wp_region_held_drew (S := fun wx => Below w.heap.size w wx) (by kernel_rfl) ((Below.refl _ w).drew) (fun hHeld => ?_)
  have hd0 : Below w.heap.size w w.drew := hHeld
  clear hHeld
  refine wpAnyH_take (i := 0) (v := pp P) rfl (by kernel_rfl) (by kernel_rfl) (by kernel_rfl) (fun _ _ _ h => h) (Or.inl ⟨by kernel_rfl, fun _ _ => by kernel_rfl⟩) (by assumption) ?_
  refine wpAnyH_take (i := 1) (v := pp P) rfl (by kernel_rfl) (by kernel_rfl) (by kernel_rfl) (fun _ _ _ h => h) (Or.inl ⟨by kernel_rfl, fun _ _ => by kernel_rfl⟩) (by assumption) ?_
  refine wpAnyH_take (i := 2) (v := .pointer (some ⟨P, 1, none⟩)) rfl (by kernel_rfl) (by kernel_rfl) (by kernel_rfl) (fun _ _ _ h => h) (Or.inl ⟨by kernel_rfl, fun _ _ => by kernel_rfl⟩) (by assumption) ?_
  refine wpAnyH_take (i := 3) (v := .map (some m)) rfl (by kernel_rfl) (by kernel_rfl) (by kernel_rfl) (fun _ _ _ h => h) (Or.inl ⟨by kernel_rfl, fun wq hSw => by
      have s0 := HCl.out wq hSw
      go_simp⟩) (by assumption) ?_
  refine wpAnyH_take (i := 5) (v := pp P) rfl (by kernel_rfl) (by kernel_rfl) (by kernel_rfl) (fun _ _ _ h => h) (Or.inl ⟨by kernel_rfl, fun _ _ => by kernel_rfl⟩) (by assumption) ?_
  refine wpAnyH_take (i := 6) (v := pp P) rfl (by kernel_rfl) (by kernel_rfl) (by kernel_rfl) (fun _ _ _ h => h) (Or.inl ⟨by kernel_rfl, fun _ _ => by kernel_rfl⟩) (by assumption) ?_
  refine wpAnyH_take (i := 7) (v := .pointer (some ⟨P, 2, none⟩)) rfl (by kernel_rfl) (by kernel_rfl) (by kernel_rfl) (fun _ _ _ h => h) (Or.inl ⟨by kernel_rfl, fun _ _ => by kernel_rfl⟩) (by assumption) ?_
  refine wpAnyH_take (i := 8) (v := .agg (ccl c).toArray) rfl (by kernel_rfl) (by kernel_rfl) (by kernel_rfl) (fun _ _ _ h => h) (yieldsIf_load_mid (by kernel_rfl) 64 _ rfl P 2 (by kernel_rfl) (ccl c) (.array 25 62) HRg.out underCo rfl (sizeCo c)) (by assumption) ?_
  rw [HZ.out]
  refine wpAnyH_ready (rs := [4]) (by kernel_rfl) (by simp) ?_
  refine AllReadyH.cons (i := 4) rfl ?_ AllReadyH.nil
  go_simp
  intro K hK
  refine (clone_any m es cl w.drew (HE.out _ hd0)).mono ?_
  rintro e w1 ⟨rfl, hw1⟩
  have hM1 := HM.out _ hd0
  have b1 : Below w.heap.size w w1 := by rw [hw1]; exact hd0.alloc hd0.size _
  rw [← hw1] at hM1
  have HM1 := hidIn hM1
  have HB1 := hidIn b1
  have s1 : w.drew.heap.size = w.heap.size := rfl
  rw [s1] at HM1 ⊢
  clear hw1 hM1 hd0 s1
  refine hK.out _ _ b1 (fun _ => ?_)
  clear hK K b1
  refine wpAnyH_ready (rs := [9]) (by kernel_rfl) (by simp) ?_
  refine AllReadyH.cons (i := 9) rfl ?_ AllReadyH.nil
  go_simp
  intro K hK
  refine (HMD w.heap.size w1).out.mono ?_
  rintro e w2 ⟨rfl, hP2, hb2⟩
  have HB2 := hidIn (HB1.out.trans (hb2.mono HB1.out.size))
  have HP2 : Hid (PlAt w2 (w1.heap.size + 1) w.heap.size l c) := hidIn ⟨hP2, HM1.out.below hb2 HM1.out.lt⟩
  have HS : Hid (w.heap.size ≤ w1.heap.size + 1) := hidIn (by have := HB1.out.size; omega)
  obtain ⟨p, hp⟩ : ∃ p, w1.heap.size + 1 = p := ⟨_, rfl⟩
  rw [hp] at HP2 HS ⊢
  clear hP2 hb2 hp
  refine hK.out _ _ HB2.out (fun _ => ?_)
  clear hK K
  refine wpAnyH_take (i := 10) (v := pp p) rfl (by kernel_rfl) (by kernel_rfl) (by kernel_rfl) (fun _ _ _ h => h) (Or.inl ⟨by kernel_rfl, fun _ _ => by kernel_rfl⟩) HB2.out ?_
  refine wpAnyH_done (by kernel_rfl) ?_ _
  go_wp2_with fail
  go_ret
  exact ⟨p, _, rfl, HP2.out, HS.out, Nat.le_refl _, HB2.out⟩
end Go.Proofs.Ytkkgbcoclfpicaa.Fa
