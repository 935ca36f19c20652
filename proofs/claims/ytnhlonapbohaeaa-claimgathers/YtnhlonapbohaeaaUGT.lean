/- The document's Same, of claims that are the same. -/
import Derived.Test.YtnhlonapbohaeaaUGS
import Derived.Deep.RegionHeld3
namespace Go.Proofs.Ytnhlonapbohaeaa
open Go.RowKit

set_option maxRecDepth 100000 in
set_option maxHeartbeats 2000000 in
theorem sameC_yes {T : List (Int × List Int)} {ua ub : Value} {w : World} (ha : TAt w ua T) (hb : TAt w ub T) :
    Calls Try.prog 9 #[ua, ub] w fun e w' => e = .returned (.bool true) ∧ Below w.heap.size w w' := by
  obtain ⟨La, ha1, ha2⟩ := ha
  obtain ⟨Lb, hb1, hb2⟩ := hb
  have hla : La.length = T.length := by rw [← ha2, List.length_map]
  have hlb : Lb.length = T.length := by rw [← hb2, List.length_map]
  obtain ⟨aa, ca, rfl, hna, _, hca⟩ := ha1.r.clms
  obtain ⟨ab, cb, rfl, _, _, hcb⟩ := hb1.r.clms
  have HA := hidIn ha1.a
  have HB' := hidIn hb1.a
  have HCa := hidIn hca
  have HCb := hidIn hcb
  have Ha2 := hidIn ha2
  have Hb2 := hidIn hb2
  have Hla := hidIn hla
  have Hlb := hidIn hlb
  rw [hla] at hna ⊢
  rw [hlb]
  obtain ⟨n, hn⟩ : ∃ n, T.length = n := ⟨_, rfl⟩
  rw [hn] at Hla Hlb hna ⊢
  clear ha1 ha2 hb1 hb2 hla hlb hca hcb hn
  go_enter Try.func9, Try.ntmps9
  go_wp2_with fail
  go_loopw [5] (fun i wr => ∃ k : Nat, k ≤ n ∧ i = .int .i64 k ∧ Hid (Below w.heap.size w wr)) (fun i _ => n - (intOf i).toNat)
  case atStart => exact ⟨0, Nat.zero_le _, rfl, hidIn (Below.refl _ _)⟩
  case round =>
    obtain ⟨k, hk, rfl, HB⟩ := hrel
    by_cases hlt : k < n
    · obtain ⟨b1, o1, rfl, hb1, g1⟩ := HCa.out (by have := Hla.out; omega)
      obtain ⟨b2, o2, rfl, hb2, g2⟩ := HCb.out (by have := Hlb.out; omega)
      obtain ⟨⟨i, rs, v1⟩, h1⟩ : ∃ z, La[k]? = some z := ⟨La[k]'(by have := Hla.out; omega), List.getElem?_eq_getElem _⟩
      obtain ⟨⟨j, ss, v2⟩, h2⟩ : ∃ z, Lb[k]? = some z := ⟨Lb[k]'(by have := Hlb.out; omega), List.getElem?_eq_getElem _⟩
      have he : (i, rs) = (j, ss) := by
        have e1 : (cls La)[k]? = some (i, rs) := by unfold cls; rw [List.getElem?_map, h1]; rfl
        have e2 : (cls Lb)[k]? = some (j, ss) := by unfold cls; rw [List.getElem?_map, h2]; rfl
        rw [Ha2.out] at e1
        rw [Hb2.out, e1] at e2
        exact Option.some.inj e2
      simp only [Prod.mk.injEq] at he
      obtain ⟨rfl, rfl⟩ := he
      obtain ⟨q1, q1'⟩ := g1 k _ h1
      obtain ⟨q2, q2'⟩ := g2 k _ h2
      have s1 := (HA.out _ (List.mem_of_getElem? h1)).1
      have s2 := (HB'.out _ (List.mem_of_getElem? h2)).1
      simp only at q1 q1' q2 q2' s1 s2
      have HC1 : Hid (∀ wq, Below w.heap.size w wq → wq.cell? ⟨b1, o1 + k * 2, none⟩ = some (.int .i64 i) ∧ wq.cell? ⟨b1, o1 + k * 2 + 1, none⟩ = some v1) := hidIn fun wq hq => ⟨(hq.cell (p := ⟨b1, o1 + k * 2, none⟩) hb1).trans q1, (hq.cell (p := ⟨b1, o1 + k * 2 + 1, none⟩) hb1).trans q1'⟩
      have HC2 : Hid (∀ wq, Below w.heap.size w wq → wq.cell? ⟨b2, o2 + k * 2, none⟩ = some (.int .i64 i) ∧ wq.cell? ⟨b2, o2 + k * 2 + 1, none⟩ = some v2) := hidIn fun wq hq => ⟨(hq.cell (p := ⟨b2, o2 + k * 2, none⟩) hb2).trans q2, (hq.cell (p := ⟨b2, o2 + k * 2 + 1, none⟩) hb2).trans q2'⟩
      have HSC : Hid (∀ wq, Below w.heap.size w wq → Calls Try.prog 25 #[.agg #[.int .i64 i, v1], .agg #[.int .i64 i, v2]] wq fun e w' => e = .returned (.bool true) ∧ Below wq.heap.size wq w') := hidIn fun wq hq => by
        have := sameClaim_any (i := i) (j := i) (s1.keep hq (Nat.le_refl _)) (s2.keep hq (Nat.le_refl _))
        rwa [show decide ((i, rs) = (i, rs)) = true by simp] at this
      have hki : (k : Int) < (n : Int) := by omega
      obtain ⟨va1, vc1, rfl⟩ := s1.ishape
      obtain ⟨va2, vc2, rfl⟩ := s2.ishape
      clear g1 g2 h1 h2 q1 q1' q2 q2' s1 s2
      go_wp2_with fail
      refine wp_region_held_drew (S := fun wx => Below w.heap.size w wx) (by kernel_rfl) ((HB.out).drew) (fun hHeld => ?_)
      have hh : Below w.heap.size w wr.drew := hHeld
      refine wpAnyH_take (i := 0) (v := ?_) rfl (by kernel_rfl) (by kernel_rfl) (by kernel_rfl) (fun _ _ _ h => h) (Or.inl ⟨by rfl, ?_⟩) (by assumption) ?_
      rotate_left
      · intro wq hSw
        clear hSw
        go_simp
        try (with_reducible rfl)
      refine wpAnyH_take (i := 1) (v := ?_) rfl (by kernel_rfl) (by kernel_rfl) (by kernel_rfl) (fun _ _ _ h => h) (Or.inl ⟨by rfl, ?_⟩) (by assumption) ?_
      rotate_left
      · intro wq hSw
        clear hSw
        go_simp
        try (with_reducible rfl)
      refine wpAnyH_take (i := 2) (v := ?_) rfl (by kernel_rfl) (by kernel_rfl) (by kernel_rfl) (fun _ _ _ h => h) (Or.inl ⟨by rfl, ?_⟩) (by assumption) ?_
      rotate_left
      · intro wq hSw
        clear hSw
        go_simp
        try (with_reducible rfl)
      refine wpAnyH_take (i := 3) (v := ?_) rfl (by kernel_rfl) (by kernel_rfl) (by kernel_rfl) (fun _ _ _ h => h) (Or.inl ⟨by rfl, ?_⟩) (by assumption) ?_
      rotate_left
      · intro wq hSw
        obtain ⟨z1, z2⟩ := HC1.out wq hSw
        clear hSw
        go_simp
        try (with_reducible rfl)
      refine wpAnyH_take (i := 4) (v := ?_) rfl (by kernel_rfl) (by kernel_rfl) (by kernel_rfl) (fun _ _ _ h => h) (Or.inl ⟨by rfl, ?_⟩) (by assumption) ?_
      rotate_left
      · intro wq hSw
        clear hSw
        go_simp
        try (with_reducible rfl)
      refine wpAnyH_take (i := 5) (v := ?_) rfl (by kernel_rfl) (by kernel_rfl) (by kernel_rfl) (fun _ _ _ h => h) (Or.inl ⟨by rfl, ?_⟩) (by assumption) ?_
      rotate_left
      · intro wq hSw
        clear hSw
        go_simp
        try (with_reducible rfl)
      refine wpAnyH_take (i := 6) (v := ?_) rfl (by kernel_rfl) (by kernel_rfl) (by kernel_rfl) (fun _ _ _ h => h) (Or.inl ⟨by rfl, ?_⟩) (by assumption) ?_
      rotate_left
      · intro wq hSw
        clear hSw
        go_simp
        try (with_reducible rfl)
      refine wpAnyH_take (i := 7) (v := ?_) rfl (by kernel_rfl) (by kernel_rfl) (by kernel_rfl) (fun _ _ _ h => h) (Or.inl ⟨by rfl, ?_⟩) (by assumption) ?_
      rotate_left
      · intro wq hSw
        obtain ⟨z1, z2⟩ := HC2.out wq hSw
        clear hSw
        go_simp
        try (with_reducible rfl)
      refine wpAnyH_ready (rs := [8]) (by kernel_rfl) (by simp) ?_
      refine AllReadyH.cons (i := 8) rfl (fun K hK => ?_) AllReadyH.nil
      go_simp
      refine (HSC.out _ hh).mono ?_
      rintro e w5 ⟨rfl, hbx⟩
      have h5 : Below w.heap.size w w5 := hh.trans (hbx.mono hh.size)
      refine hK.out _ _ h5 (fun _ => ?_)
      clear hK K hbx
      refine wpAnyH_take (i := 9) (v := ?_) rfl (by kernel_rfl) (by kernel_rfl) (by kernel_rfl) (fun _ _ _ h => h) (Or.inl ⟨by rfl, ?_⟩) (by assumption) ?_
      rotate_left
      · intro wq hSw
        clear hSw
        go_simp
        try (with_reducible rfl)
      refine wpAnyH_done (by kernel_rfl) ?_ _
      go_wp2_with fail
      go_roundw
      case rel => exact ⟨k + 1, by omega, by go_num, hidIn h5⟩
      case measure => simp [intOf]; omega
    · have hki : ¬ ((k : Int) < (n : Int)) := by omega
      go_wp2_with fail
      go_ret
      exact ⟨rfl, HB.out⟩
end Go.Proofs.Ytnhlonapbohaeaa
