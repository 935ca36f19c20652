/- The document's list of counts: Clear. -/
import Derived.Test.YtkkkjpdmjgafoaaAI
namespace Go.Proofs.Ytkkkjpdmjgafoaa
open Go.RowKit

set_option maxRecDepth 100000 in
set_option maxHeartbeats 2000000 in
theorem dclear_no {v : Value} {T : Nat → Cn} {w : World} (h : OwAt w v T) {n : Int} (hn : ¬ (1 ≤ n ∧ n ≤ 24)) : Calls Try.prog 15 #[v, .int .i64 n] w fun e w' => e = .returned (.tuple #[v, .int .i64 2]) ∧ Below w.heap.size w w' := by
  obtain ⟨g, cap, rfl, _⟩ := h.lt
  have HRo := hidIn (fun wx => drouter_no hn wx)
  clear h hn
  go_enter Try.func15, Try.ntmps15
  go_wp2_with (go_at_call 17; refine (HRo.out _).mono ?_; rintro e w1 ⟨rfl, hw1⟩; rw [hw1]; clear hw1 w1)
  refine bodyPost_ret (v := .tuple #[.slice (some ⟨g, 0, none⟩) 25 cap, .int .i64 2]) (by simp [results, Try.results15, go_sem]) rfl ⟨rfl, by go_grown⟩
set_option maxRecDepth 100000 in
set_option maxHeartbeats 2000000 in
theorem dclear_yes {v : Value} {T : Nat → Cn} {w : World} (h : OwAt w v T) {r : Nat} (h1 : 1 ≤ r) (h2 : r ≤ 24) : Calls Try.prog 15 #[v, .int .i64 r] w fun e w' => (∃ v', e = .returned (.tuple #[v', .int .i64 0]) ∧ OwAt w' v' (putC T r (noC))) ∧ Below w.heap.size w w' := by
  have HRo := hidIn (fun wx => drouter_yes (n := (r : Int)) (by omega) (by omega) wx)
  have hr25 : r < 25 := by omega
  have hri : (r : Int) < 25 := by omega
  obtain ⟨g, cap, cur, w6, hrun, hg, hc1, hc2, hh, ht, hb6⟩ := ow_append h
  have HB := hidIn hb6
  have hgw : w.heap.size ≤ g := hg
  obtain ⟨gv, capv, rfl, _⟩ := h.lt
  have HRun := hidIn hrun
  have HH := hidIn (And.intro hh ht)
  have Hgw := hidIn hgw
  clear h hrun hg hh ht hb6 hgw
  go_enter Try.func15, Try.ntmps15
  go_upto_region 5 with (first
    | (go_at_call 17; refine (HRo.out _).mono ?_; rintro e w1 ⟨rfl, hw1⟩; rw [hw1]; clear hw1 w1)
    | (refine l_append rfl _ _ 25 rfl HRun.out ?_))
  clear HRun HRo
  have hh2 := HH.out.1
  have t0 := ow_cell hh2 HH.out.2 hr25 (k := 0) (by omega)
  have t1 := ow_cell hh2 HH.out.2 hr25 (k := 1) (by omega)
  have t2 := ow_cell hh2 HH.out.2 hr25 (k := 2) (by omega)
  have t3 := ow_cell hh2 HH.out.2 hr25 (k := 3) (by omega)
  have t4 := ow_cell hh2 HH.out.2 hr25 (k := 4) (by omega)
  have t5 := ow_cell hh2 HH.out.2 hr25 (k := 5) (by omega)
  simp only [Nat.add_zero] at t0
  have f0 := frozen_new hh2 (r * 6)
  have f1 := frozen_new hh2 (r * 6 + 1)
  have f2 := frozen_new hh2 (r * 6 + 2)
  have f3 := frozen_new hh2 (r * 6 + 3)
  have f4 := frozen_new hh2 (r * 6 + 4)
  have f5 := frozen_new hh2 (r * 6 + 5)
  have HO : Hid (OwAt (setR w6 g r noC) (.slice (some ⟨g, 0, none⟩) 25 cap) (putC T r (noC))) := hidIn (by exact ow_set hc1 hc2 hh2 HH.out.2 hr25 noC)
  have HFin : Hid (Below w.heap.size w (setR w6 g r noC)) := hidIn (HB.out.trans ((fr_setR w6 g r noC).below HB.out.size (fun j hj => by have := Hgw.out; omega)))
  unfold setR at HO HFin
  clear hh2
  go_wp2_with fail
  refine bodyPost_ret (v := .tuple #[.slice (some ⟨g, 0, none⟩) 25 cap, .int .i64 0]) (by simp [results, Try.results15, go_sem]) rfl ⟨⟨_, rfl, HO.out⟩, HFin.out⟩
end Go.Proofs.Ytkkkjpdmjgafoaa
