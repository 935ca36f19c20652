/- The document's SameClaim, Same. -/
import Derived.Test.YtnhlonapbohaeaaUC
namespace Go.Proofs.Ytnhlonapbohaeaa
open Go.RowKit

theorem SlAt.ishape {w : World} {v : Value} {l : List Int} (h : SlAt ic 1 w v l) : ∃ a cap, v = .slice a l.length cap := by
  obtain ⟨a, cap, rfl, _⟩ := h
  exact ⟨a, cap, rfl⟩
set_option maxRecDepth 100000 in
set_option maxHeartbeats 1000000 in
theorem sameClaim_any {i j : Int} {la lb : List Int} {va vb : Value} {w : World} (ha : SlAt ic 1 w va la) (hb : SlAt ic 1 w vb lb) :
    Calls Try.prog 25 #[.agg #[.int .i64 i, va], .agg #[.int .i64 j, vb]] w fun e w' => e = .returned (.bool (decide ((i, la) = (j, lb)))) ∧ Below w.heap.size w w' := by
  have b1 : Below w.heap.size w ((w.alloc (.cells #[.int .i64 i, va] 33)).alloc (.cells #[.int .i64 j, vb] 33)) := ((Below.refl _ w).alloc (Nat.le_refl _) _).alloc (by simp) _
  have HS := hidIn (sameInts (ha.keep b1 (Nat.le_refl _)) (hb.keep b1 (Nat.le_refl _)))
  have HB := hidIn b1
  obtain ⟨aa, ac', rfl⟩ := ha.ishape
  obtain ⟨ab, bc, rfl⟩ := hb.ishape
  clear ha hb b1
  by_cases hij : i = j
  · have hq : (i == j) = true := by simpa using hij
    obtain ⟨bb, hbb⟩ : ∃ bb, decide (la = lb) = bb := ⟨_, rfl⟩
    have hd : decide ((i, la) = (j, lb)) = bb := by rw [← hbb]; simp [hij]
    rw [hd]
    rw [hbb] at HS
    clear hij hd hbb
    go_enter Try.func25, Try.ntmps25
    go_wp2_with fail
    refine HS.out.mono ?_
    rintro e w2 ⟨rfl, hb2⟩
    have HB2 := hidIn (HB.out.trans (hb2.mono HB.out.size))
    clear hb2 HS HB
    go_wp2_with fail
    go_ret
    exact ⟨rfl, HB2.out⟩
  · have hq : (i == j) = false := by simpa using hij
    have hd : decide ((i, la) = (j, lb)) = false := by simp [hij]
    rw [hd]
    clear hij hd
    go_enter Try.func25, Try.ntmps25
    go_wp2_with fail
    go_ret
    exact ⟨rfl, HB.out⟩
end Go.Proofs.Ytnhlonapbohaeaa
