/- A calendar of dandelion/api.Arrive: firstBelow, swap. -/
import Derived.Test.YtkhfpcnmnnboeaaC2A
namespace Go.Proofs.Ytkhfpcnmnnboeaa.Ca.A
open Go.RowKit Go.Maps

set_option maxRecDepth 100000 in
set_option maxHeartbeats 1000000 in
theorem below_ok {w : World} {cp mb i : Nat} {v : Value} {es : List Th} {p : Int} (h : HpC w cp v mb es p) (hl : es.length ≤ 100000) (hi : 2 * i + 1 < es.length) :
    Calls Try.prog 76 #[ptr cp, .int .i64 i] w fun e w' => e = .returned (.int .i64 (belowF less es i : Nat)) ∧ Below w.heap.size w w' := by
  obtain ⟨l, hl1⟩ : ∃ l, es[2 * i + 1]? = some l := ⟨es[2 * i + 1], List.getElem?_eq_getElem hi⟩
  have hh := h
  obtain ⟨ad, cap, rfl, _, _⟩ := h.slice
  have c1 := h.c.2.1
  by_cases hr : 2 * i + 2 < es.length
  · obtain ⟨r, hr1⟩ : ∃ r, es[2 * i + 2]? = some r := ⟨es[2 * i + 2], List.getElem?_eq_getElem hr⟩
    have HA := hidIn (ahead_ok hh hl hr1 hl1)
    have e1 : ((2 * i + 2 : Nat) : Int) = 2 * (i : Int) + 2 := by omega
    have e2 : ((2 * i + 1 : Nat) : Int) = 2 * (i : Int) + 1 := by omega
    rw [e1, e2] at HA
    have hb : belowF less es i = if aheadE less r l = true then 2 * i + 2 else 2 * i + 1 := by unfold belowF; rw [hr1, hl1]
    have Hb := hidIn hb
    have hi2 : (2 * (i : Int) + 2) < (es.length : Int) := by omega
    have hi3 : (i : Int) ≤ 100000 := by omega
    clear hb e1 e2 hr1 hl1 h hh
    generalize aheadE less r l = t at HA Hb
    generalize es.length = n at *
    go_enter Try.func76, Try.ntmps76
    go_wp2_with (go_at_call 71; refine HA.out.mono ?_; rintro e w1 ⟨rfl, hb1⟩; cases t)
    all_goals go_ret
    all_goals (refine ⟨?_, hb1⟩; rw [Hb.out]; simp)
  · have hb : belowF less es i = 2 * i + 1 := by unfold belowF; rw [List.getElem?_eq_none (by omega)]
    have Hb := hidIn hb
    have hi2 : ¬ (2 * (i : Int) + 2) < (es.length : Int) := by omega
    have hi3 : (i : Int) ≤ 100000 := by omega
    clear hb hl1 h hh
    generalize es.length = n at *
    go_enter Try.func76, Try.ntmps76
    go_wp2
    go_ret
    refine ⟨?_, Below.refl _ _⟩
    rw [Hb.out]
    simp
theorem fl_pc (es : List Th) : fl pc es = es.map fun e => ptr e.1.1 := by
  induction es with
  | nil => rfl
  | cons e es ih => unfold fl at ih ⊢; rw [List.flatMap_cons, ih]; rfl
theorem row_heap {w w' : World} {base k size : Nat} {e : TypeId} {u : Value} {xs : List Value} (h : w.ownsRow base e size u k xs) (hh : w'.heap = w.heap) : w'.ownsRow base e size u k xs := by
  refine ⟨h.1, ?_⟩
  rcases h.2 with hn | ⟨g, cap, cur, rfl, hb, hgg, rest⟩
  · exact .inl hn
  · exact .inr ⟨g, cap, cur, rfl, hb, by rw [hh]; exact hgg, rest⟩
theorem HpC.inj {w : World} {cp mb : Nat} {v : Value} {es : List Th} {p : Int} (h : HpC w cp v mb es p) {i j : Nat} {a b : Th} (ha : es[i]? = some a) (hb : es[j]? = some b) (he : a.1.1 = b.1.1) : i = j := by
  have h1 := h.ent i a ha
  have h2 := h.ent j b hb
  rw [he, h2] at h1
  simp at h1
  omega
theorem HpC.rowN {w : World} {cp mb g n cap : Nat} {es : List Th} {p : Int} (h : HpC w cp (.slice (some ⟨g, 0, none⟩) n cap) mb es p) : n = es.length := by
  rcases h.row.2 with ⟨h3, _⟩ | ⟨g', cap', cur, h3, _⟩
  · simp at h3
  · simp at h3; exact h3.2.1
theorem HpC.ne_row {w : World} {cp mb g n cap i : Nat} {es : List Th} {p : Int} {a : Th} (h : HpC w cp (.slice (some ⟨g, 0, none⟩) n cap) mb es p) (ha : es[i]? = some a) : a.1.1 ≠ g := by
  intro he
  obtain ⟨cur, h1⟩ := row_ty h.row (j := g) rfl
  have h2 := h.ent i a ha
  rw [he, h1] at h2
  simp only [Option.some.injEq, Obj.cells.injEq] at h2
  exact absurd h2.2.1 (by decide)
theorem HpC.cp_ne {w : World} {cp mb : Nat} {v : Value} {es : List Th} {p : Int} (h : HpC w cp v mb es p) {k : Nat} (hk : ownH v es k) : cp ≠ k := fun e => h.not_own (e ▸ hk)
/-- Two places changed. -/
theorem HpC.swapped {w V X : World} {cp mb g n cap i j : Nat} {es : List Th} {p : Int} {a b : Th} (h : HpC w cp (.slice (some ⟨g, 0, none⟩) n cap) mb es p) (ha : es[i]? = some a) (hb : es[j]? = some b)
    (hV : V.heap = ((w.setCell ⟨g, i, none⟩ (ptr b.1.1)).setCell ⟨g, j, none⟩ (ptr a.1.1)).heap)
    (hX : X.heap = ((V.setCell ⟨a.1.1, 5, none⟩ (.int .i64 j)).setCell ⟨b.1.1, 5, none⟩ (.int .i64 i)).heap) : HpC X cp (.slice (some ⟨g, 0, none⟩) n cap) mb (swp es i j a b) p := by
  have hn := h.rowN
  have hga := h.ne_row ha
  have hgb := h.ne_row hb
  have hcg : cp ≠ g := h.cp_ne (.inl rfl)
  have hca : cp ≠ a.1.1 := h.cp_ne (.inr ⟨a, List.mem_of_getElem? ha, rfl⟩)
  have hcb : cp ≠ b.1.1 := h.cp_ne (.inr ⟨b, List.mem_of_getElem? hb, rfl⟩)
  have hX2 : ∀ k, k ≠ a.1.1 → k ≠ b.1.1 → X.heap[k]? = V.heap[k]? := fun k h1 h2 => by
    rw [hX, Below.heap_setCell _ _ _ _ h2, Below.heap_setCell _ _ _ _ h1]
  have hV2 : ∀ k, k ≠ g → V.heap[k]? = w.heap[k]? := fun k h1 => by
    rw [hV, Below.heap_setCell _ _ _ _ h1, Below.heap_setCell _ _ _ _ h1]
  refine ⟨?_, ?_, ?_⟩
  · rw [hX2 _ hca hcb, hV2 _ hcg]; exact h.blk
  · have hr := h.row
    rw [← hn] at hr
    have r2 := row_set (row_set hr i (ptr b.1.1)) j (ptr a.1.1)
    have rV := row_heap r2 hV
    have rX : X.ownsRow 0 110 1 (.slice (some ⟨g, 0, none⟩) n cap) n (((fl pc es).set i (ptr b.1.1)).set j (ptr a.1.1)) := by
      refine ⟨rV.1, ?_⟩
      rcases rV.2 with ⟨h0, _⟩ | ⟨g', cap', cur, h0, hb', hgg, rest⟩
      · simp at h0
      · simp at h0
        obtain ⟨rfl, rfl⟩ := h0
        exact .inr ⟨g, cap, cur, rfl, hb', (hX2 g hga.symm hgb.symm).trans hgg, rest⟩
    rw [swp_length, ← hn]
    have e1 : fl pc (swp es i j a b) = ((fl pc es).set i (ptr b.1.1)).set j (ptr a.1.1) := by
      rw [fl_pc, fl_pc]; unfold swp; rw [List.map_set, List.map_set]
    rw [e1]
    exact rX
  · intro k e he
    rw [swp_get ha hb] at he
    have hAV := (hV2 _ hga).trans (h.ent i a ha)
    have hBV := (hV2 _ hgb).trans (h.ent j b hb)
    by_cases hij : i = j
    · subst hij
      rw [ha] at hb
      cases hb
      have hA2 := heap_setCell_same _ _ 5 _ _ (.int .i64 i) (heap_setCell_same V a.1.1 5 _ _ (.int .i64 i) hAV)
      by_cases hk : k = i
      · rw [if_pos hk] at he
        cases he
        rw [hX, hk]
        exact hA2
      · rw [if_neg hk, if_neg hk] at he
        have hne : e.1.1 ≠ a.1.1 := fun x => hk (h.inj he ha x)
        rw [hX2 _ hne hne, hV2 _ (h.ne_row he)]
        exact h.ent k e he
    · have hab : a.1.1 ≠ b.1.1 := fun x => hij (h.inj ha hb x)
      have hA2 := heap_setCell_same V a.1.1 5 _ _ (.int .i64 j) hAV
      have hB2 := heap_setCell_same (V.setCell ⟨a.1.1, 5, none⟩ (.int .i64 j)) b.1.1 5 _ _ (.int .i64 i) ((Below.heap_setCell _ _ _ _ hab.symm).trans hBV)
      by_cases hk : k = j
      · rw [if_pos hk] at he
        cases he
        rw [hX, hk, Below.heap_setCell _ _ _ _ hab]
        exact hA2
      · rw [if_neg hk] at he
        by_cases hk2 : k = i
        · rw [if_pos hk2] at he
          cases he
          rw [hX, hk2]
          exact hB2
        · rw [if_neg hk2] at he
          have h1 : e.1.1 ≠ a.1.1 := fun x => hk2 (h.inj he ha x)
          have h2 : e.1.1 ≠ b.1.1 := fun x => hk (h.inj he hb x)
          rw [hX2 _ h1 h2, hV2 _ (h.ne_row he)]
          exact h.ent k e he
set_option maxRecDepth 100000 in
set_option maxHeartbeats 2000000 in
theorem swap_ok {w : World} {cp mb i j : Nat} {v : Value} {es : List Th} {p : Int} {a b : Th} (h : HpC w cp v mb es p) (hl : es.length ≤ 100000) (ha : es[i]? = some a) (hb : es[j]? = some b) :
    Calls Try.prog 66 #[ptr cp, .int .i64 i, .int .i64 j] w fun e w' => (∃ r, e = .returned r) ∧ HpC w' cp v mb (swp es i j a b) p ∧ Fr (ownH v es) w w' := by
  have hi := (List.getElem?_eq_some_iff.1 ha).1
  have hj := (List.getElem?_eq_some_iff.1 hb).1
  obtain ⟨ad, cap, rfl, _, hg⟩ := h.slice
  obtain ⟨g, rfl, hgl, hgf⟩ := hg (by omega)
  have c1 := h.c.2.1
  have ga := h.at ha
  have gb := h.at hb
  have hi' : (i : Int) < (es.length : Int) := by omega
  have hj' : (j : Int) < (es.length : Int) := by omega
  obtain ⟨n, hn⟩ : ∃ n, es.length = n := ⟨_, rfl⟩
  rw [hn] at h hl c1 hi' hj' ⊢
  have HX := hidIn h
  have HA := hidIn ha
  have HB := hidIn hb
  have HN := hidIn hn
  have HF := hidIn hgf
  obtain ⟨A, hA⟩ : ∃ A, a.1.1 = A := ⟨_, rfl⟩
  obtain ⟨B, hB⟩ : ∃ B, b.1.1 = B := ⟨_, rfl⟩
  rw [hA] at ga
  rw [hB] at gb
  have HAA := hidIn hA
  have HBB := hidIn hB
  clear h ha hb hn hA hB hgf hg hi hj
  have kc1 := cell_regrown c1
  have kga := cell_regrown ga
  have kgb := cell_regrown gb
  clear c1 ga gb
  go_enter Try.func66, Try.ntmps66
  go_wp2_with fail
  refine wp_region_quiet_below (by kernel_rfl) (by kernel_rfl) ?_
  repeat (go_big_quiet_step (fail))
  refine wpQuiet_nil ?_
  intro _ hw'
  obtain ⟨⟨dq, osq⟩, hw''⟩ := hw'
  subst hw''
  have hbr := below_regrown w dq osq
  generalize Go.Sort.grow (redrawn w dq) osq = U at hbr ⊢
  clear kc1 kga kgb
  have hU := HX.out.below hbr
  have HFU := hidIn (Fr.of_below (S := ownH (.slice (some ⟨g, 0, none⟩) n cap) es) hbr)
  have c1 := hU.c.2.1
  have hfr : ∀ k, U.frozen? ⟨g, k, none⟩ = false := by
    obtain ⟨cur, h1⟩ := row_ty hU.row (j := g) rfl
    exact frozen_new h1
  have fgi := hfr i
  have fgj := hfr j
  have hcg : cp ≠ g := hU.cp_ne (.inl rfl)
  have hgc : g ≠ cp := hcg.symm
  have ga := hU.at HA.out
  have gb := hU.at HB.out
  rw [HAA.out] at ga
  rw [HBB.out] at gb
  by_cases hij : i = j
  · subst hij
    obtain rfl : a = b := by have := HA.out.symm.trans HB.out; cases this; rfl
    obtain rfl : A = B := by rw [← HAA.out, HBB.out]
    have HUU := hidIn hU
    have hVA0 : Hid (U.heap[A]? = some (.cells (entA a i) 116) ∧ A ≠ g) := hidIn (by
      have h1 := hU.ent i a HA.out
      have h2 := hU.ne_row HA.out
      rw [HAA.out] at h1 h2
      exact ⟨h1, h2⟩)
    have hVB0 : Hid (U.heap[A]? = some (.cells (entA a i) 116) ∧ A ≠ g) := hidIn (by
      have h1 := hU.ent i a HA.out
      have h2 := hU.ne_row HA.out
      rw [HAA.out] at h1 h2
      exact ⟨h1, h2⟩)
    clear hU hfr hbr HX
    go_wp2_with fail
    go_region
    obtain ⟨V, hV⟩ : ∃ V, ((U.setCell ⟨g, i, none⟩ (ptr A)).setCell ⟨g, i, none⟩ (ptr A)).drew = V := ⟨_, rfl⟩
    rw [hV]
    have hVh : ∀ k, k ≠ g → V.heap[k]? = U.heap[k]? := fun k hk => by
      rw [← hV]
      show ((U.setCell ⟨g, i, none⟩ (ptr A)).setCell ⟨g, i, none⟩ (ptr A)).heap[k]? = _
      rw [Below.heap_setCell _ _ _ _ hk, Below.heap_setCell _ _ _ _ hk]
    have hVA := (hVh A hVA0.out.2).trans hVA0.out.1
    have hVB := (hVh A hVB0.out.2).trans hVB0.out.1
    have fA := frozen_new hVA 5
    have fB := frozen_new hVB 5
    have cA := cell_of_row _ _ 5 _ _ _ hVA
    have cB := cell_of_row _ _ 5 _ _ _ hVB
    simp at cA cB
    have HV := hidIn hV
    clear hV hVh hVA hVB ga gb c1 fgi fgj
    go_wp2
    go_returns
    exact ⟨⟨_, rfl⟩, HUU.out.swapped (V := V) HA.out HA.out (by rw [← HV.out, HAA.out]; rfl) (by rw [HAA.out]), HFU.out.trans (by
      rw [← HV.out]
      exact ((((Fr.refl _ U).set (p := ⟨g, i, none⟩) (.inl rfl) _).set (p := ⟨g, i, none⟩) (.inl rfl) _).drew.set (p := ⟨A, 5, none⟩) (.inr ⟨a, List.mem_of_getElem? HA.out, HAA.out⟩) _).set (p := ⟨A, 5, none⟩) (.inr ⟨a, List.mem_of_getElem? HA.out, HAA.out⟩) _)⟩
  · have hji : ¬ j = i := fun e => hij e.symm
    have HUU := hidIn hU
    have hVA0 : Hid (U.heap[A]? = some (.cells (entA a i) 116) ∧ A ≠ g) := hidIn (by
      have h1 := hU.ent i a HA.out
      have h2 := hU.ne_row HA.out
      rw [HAA.out] at h1 h2
      exact ⟨h1, h2⟩)
    have hVB0 : Hid (U.heap[B]? = some (.cells (entA b j) 116) ∧ B ≠ g) := hidIn (by
      have h1 := hU.ent j b HB.out
      have h2 := hU.ne_row HB.out
      rw [HBB.out] at h1 h2
      exact ⟨h1, h2⟩)
    clear hU hfr hbr HX
    go_wp2_with fail
    go_region
    obtain ⟨V, hV⟩ : ∃ V, ((U.setCell ⟨g, i, none⟩ (ptr B)).setCell ⟨g, j, none⟩ (ptr A)).drew = V := ⟨_, rfl⟩
    rw [hV]
    have hVh : ∀ k, k ≠ g → V.heap[k]? = U.heap[k]? := fun k hk => by
      rw [← hV]
      show ((U.setCell ⟨g, i, none⟩ (ptr B)).setCell ⟨g, j, none⟩ (ptr A)).heap[k]? = _
      rw [Below.heap_setCell _ _ _ _ hk, Below.heap_setCell _ _ _ _ hk]
    have hVA := (hVh A hVA0.out.2).trans hVA0.out.1
    have hVB := (hVh B hVB0.out.2).trans hVB0.out.1
    have fA := frozen_new hVA 5
    have fB := frozen_new hVB 5
    have cA := cell_of_row _ _ 5 _ _ _ hVA
    have cB := cell_of_row _ _ 5 _ _ _ hVB
    simp at cA cB
    have HV := hidIn hV
    clear hV hVh hVA hVB ga gb c1 fgi fgj
    by_cases hAB : A = B
    · subst hAB
      go_wp2
      go_returns
      exact ⟨⟨_, rfl⟩, HUU.out.swapped (V := V) HA.out HB.out (by rw [← HV.out, HAA.out, HBB.out]; rfl) (by rw [HAA.out, HBB.out]), HFU.out.trans (by
        rw [← HV.out]
        exact ((((Fr.refl _ U).set (p := ⟨g, i, none⟩) (.inl rfl) _).set (p := ⟨g, j, none⟩) (.inl rfl) _).drew.set (p := ⟨A, 5, none⟩) (.inr ⟨a, List.mem_of_getElem? HA.out, HAA.out⟩) _).set (p := ⟨A, 5, none⟩) (.inr ⟨a, List.mem_of_getElem? HA.out, HAA.out⟩) _)⟩
    · have hBA : ¬ B = A := fun e => hAB e.symm
      go_wp2
      go_returns
      exact ⟨⟨_, rfl⟩, HUU.out.swapped (V := V) HA.out HB.out (by rw [← HV.out, HAA.out, HBB.out]; rfl) (by rw [HAA.out, HBB.out]), HFU.out.trans (by
        rw [← HV.out]
        exact ((((Fr.refl _ U).set (p := ⟨g, i, none⟩) (.inl rfl) _).set (p := ⟨g, j, none⟩) (.inl rfl) _).drew.set (p := ⟨A, 5, none⟩) (.inr ⟨a, List.mem_of_getElem? HA.out, HAA.out⟩) _).set (p := ⟨B, 5, none⟩) (.inr ⟨b, List.mem_of_getElem? HB.out, HBB.out⟩) _)⟩
end Go.Proofs.Ytkhfpcnmnnboeaa.Ca.A
