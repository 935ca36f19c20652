/- The law's sift: both calendars beside each other. -/
import Derived.Test.YtaldehgggilmdaaDP8
namespace Go.Proofs.Ytaldehgggilmdaa.Ca.S
open Go.RowKit Go.Maps

/-- The calendar and the document's, beside each other, all of it behind q. -/
def Twin (w : World) (q cp mp : Nat) (L : List (Tg ByteArray)) (p : Nat) : Prop :=
  ∃ S D : Nat → Prop, Cal w S cp L p ∧ RfAt w D mp L p ∧ (∀ k, S k → ¬ D k) ∧ (∀ k, S k → q ≤ k ∧ k < w.heap.size) ∧ (∀ k, D k → q ≤ k ∧ k < w.heap.size)
theorem refT_more (L : List (Tg ByteArray)) (kp : ByteArray → Bool) : ((refT L kp).length : Int) = (L.length : Int) - (L.filter fun a => kp a.1.1).length := by
  have : (refT L kp).length + (L.filter fun a => kp a.1.1).length = L.length := by
    induction L with
    | nil => rfl
    | cons a L ih =>
      unfold refT at ih ⊢
      cases h : kp a.1.1 <;> simp [h] at ih ⊢ <;> omega
  omega
set_option maxRecDepth 100000 in
set_option maxHeartbeats 4000000 in
theorem lsift_any {w : World} {q cp mp p : Nat} {L : List (Tg ByteArray)} {gone : ByteArray} (h : Twin w q cp mp L p) (hq : q ≤ w.heap.size) (hp : p < 100000) (hl : L.length ≤ 100000) :
    Calls Try.prog 16 #[ptr cp, ptr mp, .string gone] w fun e w' => e = .returned (.bool true) ∧ Twin w' q cp mp (L.filter fun a => keptK gone a.1.1) p ∧ Below q w w' := by
  obtain ⟨S, D, h1, h2, hd, hS, hD⟩ := h
  obtain ⟨W1, hW1⟩ : ∃ W1, w.alloc (.cells #[.string gone] 9) = W1 := ⟨_, rfl⟩
  obtain ⟨W2, hW2⟩ : ∃ W2, W1.alloc (.cells #[.slice none 0 0] 36) = W2 := ⟨_, rfl⟩
  have b1 : Below w.heap.size w W1 := by rw [← hW1]; exact (Below.refl _ w).alloc (Nat.le_refl _) _
  have b2 : Below W1.heap.size W1 W2 := by rw [← hW2]; exact (Below.refl _ W1).alloc (Nat.le_refl _) _
  have g1 : W1.heap[w.heap.size]? = some (.cells #[.string gone] 9) := by rw [← hW1]; exact heap_alloc_last w _
  have a2 : W2.heap[W1.heap.size]? = some (.cells #[.slice none 0 0] 36) := by rw [← hW2]; exact heap_alloc_last W1 _
  have g2 := (b2.block _ (block_lt g1)).trans g1
  have b12 := b1.trans (b2.mono b1.size)
  obtain ⟨gb, hgb⟩ : ∃ gb, w.heap.size = gb := ⟨_, rfl⟩
  obtain ⟨ab, hab⟩ : ∃ ab, W1.heap.size = ab := ⟨_, rfl⟩
  have hga : gb < ab := by have := block_lt g1; omega
  have hSab : ¬ S ab := fun h => by have := (hS _ h).2; omega
  have hSgb : ¬ S gb := fun h => by have := (hS _ h).2; omega
  have hDab : ¬ D ab := fun h => by have := (hD _ h).2; omega
  have hDgb : ¬ D gb := fun h => by have := (hD _ h).2; omega
  have HC2 := hidIn (h1.below b12)
  have HR2 := hidIn (h2.below b12)
  have hab2 : ab < W2.heap.size := by rw [← hab]; exact block_lt a2
  rw [hab] at a2
  rw [hgb] at g2
  have HSi := hidIn (siftA_ok HC2.out hp hl a2 g2 hSab hSgb)
  obtain ⟨N, hN⟩ : ∃ N, (refT L (keptK gone)).length = N := ⟨_, rfl⟩
  have hn : (L.length : Int) - (L.filter fun b => !decide (b.1.1 = gone)).length = N := by
    have h := refT_more L (keptK gone)
    rw [hN] at h
    exact h.symm
  rw [hN] at HSi
  have HW1 := hidIn hW1
  have HW2 := hidIn hW2
  have HB : Hid (Below q w W2) := hidIn (b12.mono hq)
  have Hgb := hidIn hgb
  have Hab := hidIn hab
  have HSD := hidIn (And.intro hd (And.intro hS hD))
  have hmf : ∀ (fn : Fn) (first cap : Array Value) (w : World), (Instr.makeFunc fn first cap).run Try.prog w = .ok (.func fn first cap) w := fun _ _ _ _ => rfl
  clear h1 h2 b1 b2 g1 a2 g2 b12 hW1 hW2 hd hS hD
  go_enter Try.func16, Try.ntmps16
  go_upto_region 1 with fail
  rw [HW1.out]
  go_upto_region 2 with fail
  rw [HW2.out]
  try simp only [hgb, hab]
  go_wp2_with fail
  refine HSi.out.mono ?_
  rintro e w3 ⟨rfl, hC, ⟨va, hAsk⟩, hF⟩
  have hs3 : ab < w3.heap.size := Nat.lt_of_lt_of_le hab2 hF.size
  have y0 := cell_of_row _ _ 0 _ _ _ hAsk.g
  simp at y0
  have hR3 := HR2.out.keep hF (fun k hk h => h.elim (fun e => HSD.out.1 k e hk) (fun e => hDab (e ▸ hk)))
  have HDs := hidIn (dsift_any (gone := gone) hR3 hl)
  rw [hn] at HDs
  have HC3 := hidIn hC
  have HA3 := hidIn hAsk
  have HF3 := hidIn hF
  clear hC hAsk hF hR3 HSi
  go_wp2_with fail
  refine HDs.out.mono ?_
  rintro e w4 ⟨⟨u, rfl, hrow⟩, hR4, hF4⟩
  have hA4 := HA3.out.fr hF4 hDab hDgb (fun j hj h => by have h1 := (HA3.out.r.lt j hj).1; have h2 := (HSD.out.2.2 _ h).2; omega)
  obtain ⟨va', vc', rfl⟩ := row_shape hA4.r
  obtain ⟨ua, uc, rfl⟩ := row_shape hrow
  have y1 := cell_of_row _ _ 0 _ _ _ hA4.c
  simp at y1
  have HSm := hidIn (dsame_any (slAt_of_row (cs := tc) (fun _ => rfl) hA4.r rfl) (slAt_of_row (cs := tc) (fun _ => rfl) hrow (by simp)))
  rw [List.length_map, decide_eq_true rfl] at HSm
  have HC4 := hidIn (HC3.out.keep hF4 (fun k hk hd => HSD.out.1 k hk hd))
  have HR4 := hidIn hR4
  have HF4 := hidIn hF4
  clear hA4 hrow hR4 hF4 HDs y0
  go_wp2_with (refine HSm.out.mono ?_)
  rintro e w5 ⟨rfl, hb5⟩
  have s4 := HF4.out.size
  have s5 := hb5.size
  have HFin : Hid (Twin w5 q cp mp (L.filter fun a => keptK gone a.1.1) p ∧ Below q w w5) := hidIn ⟨⟨S, ext D w3 w4, HC4.out.below hb5, HR4.out.below hb5, fun k hk h => by
      have h1 := (HSD.out.2.1 _ hk).2
      rcases h with h | h
      · exact HSD.out.1 k hk h
      · omega, fun k hk => ⟨(HSD.out.2.1 _ hk).1, by have := (HSD.out.2.1 _ hk).2; omega⟩, fun k hk => by
      rcases hk with h | h
      · have := HSD.out.2.2 _ h
        exact ⟨this.1, by omega⟩
      · exact ⟨by omega, by omega⟩⟩,
    ((HB.out.trans (HF3.out.below (by omega) (fun k hk => hk.elim (fun h => (HSD.out.2.1 _ h).1) (fun h => by omega)))).trans (HF4.out.below (by omega) (fun k hk => (HSD.out.2.2 _ hk).1))).trans (hb5.mono (by omega))⟩
  clear hb5 HSm
  go_wp2_with fail
  go_returns
  exact ⟨rfl, HFin.out⟩
end Go.Proofs.Ytaldehgggilmdaa.Ca.S
