/- ClaimGathers. -/
import Derived.Test.YtnhlonapbohaeaaUG1
namespace Go.Proofs.Ytnhlonapbohaeaa
open Go.RowKit

theorem AllA.told {w w' : World} {rs : List Rc} {e : Ending} (h : AllA w w' rs e) : ∃ u T k, e = .returned (.tuple #[u, .int .i64 k]) ∧ TAt w' u T ∧ T = (if bothOk no1 rs = true then allC rs else []) ∧ k = (if bothOk no1 rs = true then 0 else 2) := by
  rcases h with ⟨h, u, rfl, hu⟩ | ⟨h, rfl⟩
  · exact ⟨u, _, _, rfl, hu.at, by rw [if_pos h], by rw [if_pos h]⟩
  · refine ⟨_, _, _, rfl, ⟨[], ⟨slAt_of_row (cs := clc) (fun _ => rfl) (World.ownsRow_nil w' 0 33 2) rfl, fun x hx => absurd hx List.not_mem_nil⟩, rfl⟩, by rw [h]; rfl, by rw [h]; rfl⟩
set_option maxRecDepth 100000 in
set_option maxHeartbeats 2000000 in
theorem claimGathers_walk {l : List (Rc × Value)} {v : Value} {w : World} (h : RecsAt w v l) (hg : ∀ y ∈ l, RecG w y) :
    Calls Try.prog 3 #[v] w fun e w' => e = .returned (.bool true) ∧ Below w.heap.size w w' := by
  obtain ⟨a, cap, rfl, hl, hcap, _⟩ := h.r.recs
  have hR : RecsAt w (.slice a (l.take 30).length cap) (l.take 30) := ⟨h.r.cut 30, fun x hx => h.a x (List.mem_of_mem_take hx)⟩
  have hg' : ∀ y ∈ l.take 30, RecG w y := fun y hy => hg y (List.mem_of_mem_take hy)
  have hl' : (l.take 30).length ≤ 30 := List.length_take_le _ _
  have hlm : (l.take 30).length = min l.length 30 := by rw [List.length_take]; omega
  generalize l.take 30 = js at hR hg' hl' hlm
  obtain ⟨ln, hln⟩ : ∃ ln, l.length = ln := ⟨_, rfl⟩
  obtain ⟨m, hm⟩ : ∃ m, js.length = m := ⟨_, rfl⟩
  have HA1 := hidIn (all_any hR (by omega))
  have HA2 : Hid (∀ w1, Below w.heap.size w w1 → Calls Try.prog 8 #[.slice a m cap] w1 fun e w' => AllA w1 w' (rcs js) e ∧ Below w1.heap.size w1 w') := hidIn fun w1 hb => by
    rw [hm] at hR
    exact dall_any (hR.keep hb (Nat.le_refl _)) (fun y hy => by
      obtain ⟨g1, g2, g3⟩ := hg' y hy
      exact ⟨g1.keep hb (Nat.le_refl _), g2, g3⟩) (by omega)
  rw [hln] at hl hcap hlm ⊢
  rw [hm] at HA1 hlm
  have hmin : min (ln : Int) 30 = (m : Int) := by omega
  have hmc : (m : Int) ≤ (cap : Int) := by omega
  clear h hg hR hg' hm hln hlm hl'
  go_enter Try.func3, Try.ntmps3
  go_wp2_with fail
  refine HA1.out.mono ?_
  rintro e w1 ⟨ha, hb1⟩
  obtain ⟨u1, T1, k1, rfl, hT1, hT1e, hk1⟩ := ha.told
  have HT1 := hidIn hT1
  have HB1 := hidIn hb1
  have HE1 := hidIn (And.intro hT1e hk1)
  clear hb1 hT1 hT1e hk1 ha HA1
  go_wp2_with fail
  refine (HA2.out w1 HB1.out).mono ?_
  rintro e w2 ⟨ha, hb2⟩
  obtain ⟨u2, T2, k2, rfl, hT2, hT2e, hk2⟩ := ha.told
  obtain rfl : T1 = T2 := HE1.out.1.trans hT2e.symm
  obtain rfl : k1 = k2 := HE1.out.2.trans hk2.symm
  have HS := hidIn (sameC_yes (HT1.out.keep hb2) hT2)
  have HB2 := hidIn (HB1.out.trans (hb2.mono HB1.out.size))
  have hkk : (k1 == k1) = true := by simp
  clear hb2 hT2 hT2e hk2 ha HT1 HB1 HE1 HA2
  go_wp2_with fail
  refine HS.out.mono ?_
  rintro e w3 ⟨rfl, hb3⟩
  have HB3 := hidIn (HB2.out.trans (hb3.mono HB2.out.size))
  clear hb3 HS HB2
  go_wp2_with fail
  refine (cworks_any _).mono ?_
  rintro e w4 ⟨rfl, hb4⟩
  have HB4 := hidIn (HB3.out.trans (hb4.mono HB3.out.size))
  clear hb4 HB3
  go_wp2_with fail
  go_ret
  exact ⟨rfl, HB4.out⟩
end Go.Proofs.Ytnhlonapbohaeaa
