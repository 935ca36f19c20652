/- dandelionref05.Without, Sort. -/
import Derived.Test.YtndiafbldgbplaaJQ
namespace Go.Proofs.Ytndiafbldgbplaa
open Go.RowKit

theorem eraseIdx_parts {β : Type} (l : List β) (m : Nat) : l.eraseIdx m = l.take m ++ l.drop (m + 1) := List.eraseIdx_eq_take_drop_succ l m
theorem tcs_append (a b : List Th) : tcs (a ++ b) = tcs a ++ tcs b := by simp [tcs, List.flatMap_append]
set_option maxRecDepth 100000 in
set_option maxHeartbeats 1000000 in
theorem without_ok {l : List Th} {v : Value} {w : World} {m : Nat} (h : ThsAt w v l) (hm : m < l.length) (hl : l.length ≤ 1000) (hcap : ∀ a c, v = .slice a l.length c → l.length ≤ c) :
    Calls Try.prog 13 #[v, .int .i64 m] w fun e w' => (∃ u, e = .returned u ∧ w'.ownsRow w.heap.size 26 2 u (l.length - 1) (tcs (l.eraseIdx m))) ∧ Below w.heap.size w w' := by
  obtain ⟨a, cap, rfl, h1⟩ := h
  obtain ⟨bk, o, rfl, hbk, hc⟩ := h1 (by omega)
  have hcp := hcap _ _ rfl
  have hlt1 : (l.take m).length = m := by rw [List.length_take]; omega
  have hlt2 : (l.drop (m + 1)).length = l.length - (m + 1) := by rw [List.length_drop]
  obtain ⟨v1, w1, hrun1, hr1, hg1⟩ := append_things (c := cap) (bk := bk) (o := o) (part := l.take m) (World.ownsRow_nil w w.heap.size 26 2) (fun j x hj => hc j x (by
    have := (List.getElem?_eq_some_iff.1 hj).1
    rw [hlt1] at this
    rw [List.getElem?_take_of_lt this] at hj
    exact hj)) (by omega) (Nat.le_refl _)
  have hb1 : Below w.heap.size w w1 := (Below.refl _ w).grown hg1 (Nat.le_refl _) (fun k e => by simp [Value.ownBlock] at e)
  by_cases hcm : cap = m + 1
  · obtain ⟨v2, w2, hrun2, hr2, hg2⟩ := append_things (c := cap - (m + 1)) (bk := bk) (o := o) (part := l.drop (m + 1)) hr1 (fun j x hj => by
      have := (List.getElem?_eq_some_iff.1 hj).1
      omega) (by omega) hb1.size
    have hb2 : Below w.heap.size w w2 := hb1.grown hg2 hb1.size (fun k e => (hr1.lt k e).1)
    rw [hlt1] at hrun1 hr1
    rw [hlt1] at hr2
    rw [hlt2] at hrun2 hr2
    have HR1 := hidIn hrun1
    have HR2 := hidIn hrun2
    have HB2 := hidIn hb2
    have HRw := hidIn hr2
    have HLL := hidIn hlt1
    clear hrun1 hrun2 hr1 hr2 hb1 hb2 hg1 hg2 h1 hc hlt1 hlt2 hcap
    have hmc : (m : Int) ≤ (cap : Int) := by omega
    have hmc2 : (m : Int) + 1 ≤ (l.length : Int) := by omega
    have hlc : (l.length : Int) ≤ (cap : Int) := by omega
    go_enter Try.func13, Try.ntmps13
    go_wp2_with (first
      | (refine l_append rfl _ _ 28 rfl HR1.out ?_; clear HR1)
      | (refine l_append rfl _ _ 28 rfl HR2.out ?_; clear HR2))
    go_ret
    refine ⟨⟨_, rfl, ?_⟩, HB2.out⟩
    have := HRw.out
    rw [eraseIdx_parts, tcs_append, show l.length - 1 = 0 + m + (l.length - (m + 1)) from by omega]
    exact this
  · obtain ⟨v2, w2, hrun2, hr2, hg2⟩ := append_things (c := cap - (m + 1)) (bk := bk) (o := o + (m + 1) * 2) (part := l.drop (m + 1)) hr1 (fun j x hj => by
      rw [List.getElem?_drop] at hj
      have h3 := hc _ x hj
      rw [show o + (m + 1 + j) * 2 = o + (m + 1) * 2 + j * 2 from by omega] at h3
      exact ⟨(hb1.cell (p := ⟨bk, o + (m + 1) * 2 + j * 2, none⟩) hbk).trans h3.1, (hb1.cell (p := ⟨bk, o + (m + 1) * 2 + j * 2 + 1, none⟩) hbk).trans h3.2⟩) (by omega) hb1.size
    have hb2 : Below w.heap.size w w2 := hb1.grown hg2 hb1.size (fun k e => (hr1.lt k e).1)
    rw [hlt1] at hrun1 hr1
    rw [hlt1] at hr2
    rw [hlt2] at hrun2 hr2
    have HR1 := hidIn hrun1
    have HR2 := hidIn hrun2
    have HB2 := hidIn hb2
    have HRw := hidIn hr2
    have HLL := hidIn hlt1
    clear hrun1 hrun2 hr1 hr2 hb1 hb2 hg1 hg2 h1 hc hlt1 hlt2 hcap
    have hmc : (m : Int) ≤ (cap : Int) := by omega
    have hmc2 : (m : Int) + 1 ≤ (l.length : Int) := by omega
    have hlc : (l.length : Int) ≤ (cap : Int) := by omega
    go_enter Try.func13, Try.ntmps13
    go_wp2_with (first
      | (refine l_append rfl _ _ 28 rfl HR1.out ?_; clear HR1)
      | (refine l_append rfl _ _ 28 rfl HR2.out ?_; clear HR2))
    go_ret
    refine ⟨⟨_, rfl, ?_⟩, HB2.out⟩
    have := HRw.out
    rw [eraseIdx_parts, tcs_append, show l.length - 1 = 0 + m + (l.length - (m + 1)) from by omega]
    exact this
end Go.Proofs.Ytndiafbldgbplaa
