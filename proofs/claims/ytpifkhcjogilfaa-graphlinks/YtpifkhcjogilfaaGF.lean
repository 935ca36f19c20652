/- own: a graph in memory of its own, with room behind that is marked. -/
import Derived.Test.YtpifkhcjogilfaaGE
import Derived.Deep.RegionHeld3
namespace Go.Proofs.Ytpifkhcjogilfaa
open Go.RowKit

/-- An append in a statement that leaves its order open: by its run. -/
theorem step_append {P : Program} {ops : Array Oper} {o : Oper} {a : Act} {w w' : World} {v' : Value} {K : Act → World → Prop} {Q : Exit → Act → World → Prop} {E : Prop}
    (hg : o.guard = none) (s x : Operand) (t : TypeId) (hop : o.op = Op.call { callee := Callee.builtin Builtin.append, args := #[s, x], argTypes := #[t, t] })
    {vs vx : Value} (hs : a.eval s = vs) (hx : a.eval x = vx) (hrun : (Builtin.append_ #[t, t] o.type #[vs, vx]).run P w = .ok v' w') (hK : K (a.put o.dst v') w') :
    if Region.wanted o (yielded ops a.tmps) = true then Oper.wp P o a w K Q else E := by
  have hw : Region.wanted o (yielded ops a.tmps) = true := by simp [Region.wanted, hg]
  rw [if_pos hw]
  unfold Oper.wp
  simp [execOp, hop, resolve, invoke, builtin, hs, hx, hrun, Result.andThen]
  exact hK
/-- A slice that is nil or has a place. -/
def NilOk (v : Value) : Prop := (∃ a n c, v = .slice (some a) n c) ∨ v = .slice none 0 0
theorem slAt_front {α : Type} {cs : α → List Value} {sz : Nat} (hc : ∀ x, (cs x).length = sz) {w : World} {base g cap : Nat} {e : TypeId} {l : List α} {x : α} (hr : w.ownsRow base e sz (.slice (some ⟨g, 0, none⟩) (l.length + 1) cap) (l.length + 1) (fl cs (l ++ [x]))) : SlAt cs sz w (.slice (some ⟨g, 0, none⟩) l.length cap) l := by
  obtain ⟨a, c, he, h1, h2, h3⟩ := slAt_of_row hc hr (by simp)
  simp at he
  obtain ⟨rfl, rfl⟩ := he
  obtain ⟨bk, o, h4, h5, h6⟩ := h3 (by simp)
  simp at h1 h2
  refine ⟨_, _, rfl, by omega, by omega, fun _ => ⟨bk, o, h4, h5, fun j y hy => h6 j y ?_⟩⟩
  rw [List.getElem?_append_left (List.getElem?_eq_some_iff.1 hy).1]
  exact hy
theorem append_allI {W : World} {base n : Nat} {u v : Value} {l m : List (Int)} (hr : W.ownsRow base 3 1 u n (fl ic l)) (hv : SlAt ic 1 W v m) (hk : (n + m.length) * 8 ≤ 140737488355328) (hbase : base ≤ W.heap.size) (hnil : (∃ a n c, v = .slice (some a) n c) ∨ (v = .slice none 0 0 ∧ u = .slice none 0 0)) :
    ∃ v' w6, (Builtin.append_ #[22, 22] 22 #[u, v]).run Try.prog W = .ok v' w6 ∧ w6.ownsRow base 3 1 v' (n + m.length) (fl ic (l ++ m)) ∧ Below base W w6 ∧ W.grownBy w6 u.ownBlock :=
  append_all (P := Try.prog) (cs := ic) (T := 22) (fun _ => rfl) (fun _ => by simp [Value.oneCell']) Try.underlying22 infoInt rfl (by decide) hr hv hk (by unfold maxLen; omega) hbase hnil
theorem append_allE {W : World} {base n : Nat} {u v : Value} {l m : List (Ed)} (hr : W.ownsRow base 45 3 u n (fl ec l)) (hv : SlAt ec 3 W v m) (hk : (n + m.length) * 24 ≤ 140737488355328) (hbase : base ≤ W.heap.size) (hnil : (∃ a n c, v = .slice (some a) n c) ∨ (v = .slice none 0 0 ∧ u = .slice none 0 0)) :
    ∃ v' w6, (Builtin.append_ #[23, 23] 23 #[u, v]).run Try.prog W = .ok v' w6 ∧ w6.ownsRow base 45 3 v' (n + m.length) (fl ec (l ++ m)) ∧ Below base W w6 ∧ W.grownBy w6 u.ownBlock :=
  append_all (P := Try.prog) (cs := ec) (T := 23) (fun _ => rfl) (fun _ => by simp [Value.oneCell']) Try.underlying23 infoEdge rfl (by decide) hr hv hk (by unfold maxLen; omega) hbase hnil
set_option maxRecDepth 100000 in
set_option maxHeartbeats 2000000 in
theorem own_any {ns : List Int} {es : List Ed} {vn ve : Value} {w : World} (h : GrAt w vn ve ns es) (nn : NilOk vn) (ne : NilOk ve) (bn : (ns.length + 1) * 8 ≤ 140737488355328) (be : (es.length + 1) * 24 ≤ 140737488355328) :
    Calls Try.prog 9 #[grV vn ve] w fun e w' => (∃ g c p d, e = .returned (grV (.slice (some ⟨g, 0, none⟩) ns.length c) (.slice (some ⟨p, 0, none⟩) es.length d)) ∧
      w'.ownsRow w.heap.size 3 1 (.slice (some ⟨g, 0, none⟩) (ns.length + 1) c) (ns.length + 1) (fl ic (ns ++ [77])) ∧ w'.ownsRow w.heap.size 45 3 (.slice (some ⟨p, 0, none⟩) (es.length + 1) d) (es.length + 1) (fl ec (es ++ [(0, 0, 77)]))) ∧ Below w.heap.size w w' := by
  obtain ⟨na, nc, hvn, hnl, _, _⟩ := h.n
  obtain ⟨ea, ec', hve, hel, _, _⟩ := h.e
  have nn' := nn
  have ne' := ne
  obtain ⟨W1, hW1⟩ : ∃ W1, (w.alloc (.cells #[vn, ve] 25)).alloc nilG = W1 := ⟨_, rfl⟩
  have hb1 : Below w.heap.size w W1 := by rw [← hW1]; go_grown
  have hs1 : W1.heap.size = w.heap.size + 2 := by rw [← hW1]; simp
  have k0 : W1.heap[w.heap.size]? = some (.cells #[vn, ve] 25) := by
    rw [← hW1, Below.heap_alloc _ _ _ (by simp)]; exact heap_alloc_last w _
  have k1 : W1.heap[w.heap.size + 1]? = some nilG := by
    have := heap_alloc_last (w.alloc (.cells #[vn, ve] 25)) nilG
    rw [World.size_alloc, hW1] at this
    exact this
  have HI := hidIn (h.n.keep hb1 (Nat.le_refl _))
  have HE := hidIn (h.e.keep hb1 (Nat.le_refl _))
  have NI := hidIn nn
  have NE := hidIn ne
  have K0 := hidIn k0
  have K1 := hidIn k1
  have HW := hidIn hW1
  have HB1 := hidIn hb1
  have hlt0 : w.heap.size < W1.heap.size := by omega
  have Hs1 := hidIn hs1
  subst hvn hve
  clear hW1 k0 k1 nn ne nn' ne' h hb1 hs1
  go_enter Try.func9, Try.ntmps9
  go_upto_region 3 with fail
  rw [HW.out]
  clear HW
  go_cut [3] (fun x wx => ∃ g c, x = .slice (some ⟨g, 0, none⟩) ns.length c ∧ wx.ownsRow W1.heap.size 3 1 (.slice (some ⟨g, 0, none⟩) (ns.length + 1) c) (ns.length + 1) (fl ic (ns ++ [(77 : Int)])) ∧ Below W1.heap.size W1 wx)
  case first =>
    have HF : Hid (∀ wq, Below W1.heap.size W1 wq → wq.cell? ⟨w.heap.size, 0, none⟩ = some (.slice na ns.length nc)) := hidIn fun wq h => cell_of_row _ _ 0 _ _ _ ((h.block _ (by omega)).trans K0.out)
    refine wp_region_held_drew (S := fun wx => Below W1.heap.size W1 wx) (by kernel_rfl) ((Below.refl _ W1).drew) (fun hHeld => ?_)
    have hh : Below W1.heap.size W1 W1.drew := hHeld
    refine wpAnyH_take (i := 0) (v := ?_) rfl (by kernel_rfl) (by kernel_rfl) (by kernel_rfl) (fun _ _ _ h => h) (Or.inl ⟨by rfl, ?_⟩) (by assumption) ?_
    rotate_left
    · intro wq hSw
      clear hSw
      go_simp
      try (with_reducible rfl)
    refine wpAnyH_take (i := 1) (v := ?_) rfl (by kernel_rfl) (by kernel_rfl) (by kernel_rfl) (fun _ _ _ h => h) (Or.inl ⟨by rfl, ?_⟩) (by assumption) ?_
    rotate_left
    · intro wq hSw
      clear hSw
      go_simp
      try (with_reducible rfl)
    refine wpAnyH_take (i := 2) (v := ?_) rfl (by kernel_rfl) (by kernel_rfl) (by kernel_rfl) (fun _ _ _ h => h) (Or.inl ⟨by rfl, ?_⟩) (by assumption) ?_
    rotate_left
    · intro wq hSw
      have q0 := HF.out wq hSw
      clear hSw
      go_simp
      try (with_reducible rfl)
    refine wpAnyH_take (i := 6) (v := ?_) rfl (by kernel_rfl) (by kernel_rfl) (by kernel_rfl) (fun _ _ _ h => h) (Or.inl ⟨by rfl, ?_⟩) (by assumption) ?_
    rotate_left
    · intro wq hSw
      clear hSw
      go_simp
      try (with_reducible rfl)
    refine wpAnyH_take (i := 7) (v := ?_) rfl (by kernel_rfl) (by kernel_rfl) (by kernel_rfl) (fun _ _ _ h => h) (Or.inl ⟨by rfl, ?_⟩) (by assumption) ?_
    rotate_left
    · intro wq hSw
      have q0 := HF.out wq hSw
      clear hSw
      go_simp
      try (with_reducible rfl)
    refine wpAnyH_take (i := 8) (v := ?_) rfl (by kernel_rfl) (by kernel_rfl) (by kernel_rfl) (fun _ _ _ h => h) (Or.inl ⟨by rfl, ?_⟩) (by assumption) ?_
    rotate_left
    · intro wq hSw
      clear hSw
      go_simp
      try (with_reducible rfl)
    refine wpAnyH_ready (rs := [3, 4]) (by kernel_rfl) (by simp) ?_
    refine AllReadyH.cons rfl (fun K hK => ?_) ?_
    · obtain ⟨v1, w3, hrun1, hrow1, hb3, _⟩ := append_allI (l := []) (m := ns) (World.ownsRow_nil W1.drew W1.heap.size 3 1) (HI.out.keep hh (Nat.le_refl _)) (by omega) hh.size (by rcases NI.out with h | h; exact .inl h; exact .inr ⟨h, rfl⟩)
      rw [Nat.zero_add] at hrow1
      obtain ⟨a1, c1, rfl⟩ := row_shape hrow1
      refine step_append rfl (.tmp 5) (.tmp 7) 22 rfl (by kernel_rfl) (by kernel_rfl) hrun1 ?_
      have h3 : Below W1.heap.size W1 w3 := hh.trans hb3
      refine hK.out _ _ h3 (fun _ => ?_)
      clear hK K hrun1
      refine wpAnyH_ready (rs := [4]) (by kernel_rfl) (by simp) ?_
      refine AllReadyH.cons rfl (fun K hK => ?_) AllReadyH.nil
      go_simp
      have bA : Below w3.heap.size w3 (w3.alloc (Obj.cells #[.int .i64 77] 3)) := (Below.refl _ w3).alloc (Nat.le_refl _) _
      have hB : Below W1.heap.size W1 (w3.alloc (Obj.cells #[.int .i64 77] 3)) := h3.trans (bA.mono h3.size)
      refine hK.out _ _ hB (fun _ => ?_)
      clear hK K
      have hrowB := row_below hrow1 bA (Nat.le_refl _)
      have hnewB := slAt_block (cs := ic) (sz := 1) (fun _ => rfl) (l := [(77 : Int)]) (heap_alloc_last w3 (.cells #[.int .i64 77] 3)) (by simp)
      clear hrow1 bA
      refine wpAnyH_ready (rs := [5]) (by kernel_rfl) (by simp) ?_
      refine AllReadyH.cons rfl (fun K hK => ?_) AllReadyH.nil
      obtain ⟨v2, w9, hrun2, hrow2, hb9, _⟩ := append_allI hrowB hnewB (by simp; omega) (Nat.le_trans (Nat.le_refl _) hB.size) (.inl ⟨_, _, _, rfl⟩)
      rw [List.length_singleton] at hrow2
      obtain ⟨g, c, rfl, _⟩ := hrow2.form (by omega)
      refine step_append rfl (.tmp 8) (.tmp 9) 22 rfl (by kernel_rfl) (by kernel_rfl) hrun2 ?_
      have h9 : Below W1.heap.size W1 w9 := hB.trans hb9
      have hc9 : ns.length ≤ c := by
        rcases hrow2.2 with ⟨h, _⟩ | ⟨g', c', cur, h, _, _, h1, _⟩
        · simp at h
        · simp at h
          omega
      refine hK.out _ _ h9 (fun _ => ?_)
      clear hK K
      have Hrow2 := hidIn hrow2
      clear hrow2 hrun2 hrowB hnewB
      refine wpAnyH_ready (rs := [9]) (by kernel_rfl) (by simp) ?_
      refine AllReadyH.cons rfl (fun K hK => ?_) AllReadyH.nil
      go_simp
      refine hK.out _ _ h9 (fun _ => ?_)
      clear hK K
      refine wpAnyH_ready (rs := [10]) (by kernel_rfl) (by simp) ?_
      refine AllReadyH.cons rfl (fun K hK => ?_) AllReadyH.nil
      go_simp
      refine hK.out _ _ h9 (fun _ => ?_)
      clear hK K
      refine wpAnyH_done (by kernel_rfl) ?_ _
      go_wp2_with fail
      go_meet
      exact ⟨g, c, rfl, Hrow2.out, h9⟩
    · refine AllReadyH.cons rfl (fun K hK => ?_) AllReadyH.nil
      go_simp
      have bA : Below W1.drew.heap.size W1.drew (W1.drew.alloc (Obj.cells #[.int .i64 77] 3)) := (Below.refl _ W1.drew).alloc (Nat.le_refl _) _
      have hA : Below W1.heap.size W1 (W1.drew.alloc (Obj.cells #[.int .i64 77] 3)) := hh.trans bA
      have hnew0 := slAt_block (cs := ic) (sz := 1) (fun _ => rfl) (l := [(77 : Int)]) (heap_alloc_last W1.drew (.cells #[.int .i64 77] 3)) (by simp)
      have hA' : Below W1.heap.size W1 (W1.alloc (Obj.cells #[.int .i64 77] 3)).drew := hA
      refine hK.out _ _ hA' (fun _ => ?_)
      clear hK K
      change SlAt ic 1 (W1.alloc (Obj.cells #[.int .i64 77] 3)).drew (.slice (some ⟨W1.heap.size, 0, none⟩) 1 1) [(77 : Int)] at hnew0
      clear hA bA
      generalize World.drew (World.alloc _ _) = V at hA' hnew0 ⊢
      refine wpAnyH_ready (rs := [3]) (by kernel_rfl) (by simp) ?_
      refine AllReadyH.cons rfl (fun K hK => ?_) AllReadyH.nil
      obtain ⟨v1, w3, hrun1, hrow1, hb3, hg3⟩ := append_allI (l := []) (m := ns) (World.ownsRow_nil V W1.heap.size 3 1) (HI.out.keep hA' (Nat.le_refl _)) (by omega) hA'.size (by rcases NI.out with h | h; exact .inl h; exact .inr ⟨h, rfl⟩)
      rw [Nat.zero_add] at hrow1
      obtain ⟨a1, c1, rfl⟩ := row_shape hrow1
      refine step_append rfl (.tmp 5) (.tmp 7) 22 rfl (by kernel_rfl) (by kernel_rfl) hrun1 ?_
      have hB : Below W1.heap.size W1 w3 := hA'.trans hb3
      refine hK.out _ _ hB (fun _ => ?_)
      clear hK K hrun1
      have hrowB := hrow1
      have hnewB := hnew0.keep (B := V.heap.size) (w' := w3) ⟨hg3.os, hg3.tape, hg3.output, hg3.size, fun k hk => hg3.block k hk (by simp [Value.ownBlock])⟩ (Nat.le_refl _)
      clear hrow1 hnew0 hg3
      refine wpAnyH_ready (rs := [5]) (by kernel_rfl) (by simp) ?_
      refine AllReadyH.cons rfl (fun K hK => ?_) AllReadyH.nil
      obtain ⟨v2, w9, hrun2, hrow2, hb9, _⟩ := append_allI hrowB hnewB (by simp; omega) (Nat.le_trans (Nat.le_refl _) hB.size) (.inl ⟨_, _, _, rfl⟩)
      rw [List.length_singleton] at hrow2
      obtain ⟨g, c, rfl, _⟩ := hrow2.form (by omega)
      refine step_append rfl (.tmp 8) (.tmp 9) 22 rfl (by kernel_rfl) (by kernel_rfl) hrun2 ?_
      have h9 : Below W1.heap.size W1 w9 := hB.trans hb9
      have hc9 : ns.length ≤ c := by
        rcases hrow2.2 with ⟨h, _⟩ | ⟨g', c', cur, h, _, _, h1, _⟩
        · simp at h
        · simp at h
          omega
      refine hK.out _ _ h9 (fun _ => ?_)
      clear hK K
      have Hrow2 := hidIn hrow2
      clear hrow2 hrun2 hrowB hnewB
      refine wpAnyH_ready (rs := [9]) (by kernel_rfl) (by simp) ?_
      refine AllReadyH.cons rfl (fun K hK => ?_) AllReadyH.nil
      go_simp
      refine hK.out _ _ h9 (fun _ => ?_)
      clear hK K
      refine wpAnyH_ready (rs := [10]) (by kernel_rfl) (by simp) ?_
      refine AllReadyH.cons rfl (fun K hK => ?_) AllReadyH.nil
      go_simp
      refine hK.out _ _ h9 (fun _ => ?_)
      clear hK K
      refine wpAnyH_done (by kernel_rfl) ?_ _
      go_wp2_with fail
      go_meet
      exact ⟨g, c, rfl, Hrow2.out, h9⟩
  case rest =>
    obtain ⟨g, c, rfl, hrow, hbc⟩ := hcut
    have HRow := hidIn hrow
    have hlt2 : w.heap.size < wc.heap.size := Nat.lt_of_lt_of_le hlt0 hbc.size
    have K0' := hidIn ((hbc.block _ hlt0).trans K0.out)
    have K1' := hidIn ((hbc.block _ (by have := Hs1.out; omega)).trans K1.out)
    have HE' := hidIn (HE.out.keep hbc (Nat.le_refl _))
    have HBc := hidIn (HB1.out.trans (hbc.mono HB1.out.size))
    have hg1 : w.heap.size + 1 < W1.heap.size := by have := Hs1.out; omega
    have HrowB := hidIn (show Below W1.heap.size W1 wc from hbc)
    clear hrow hbc K0 K1 HE HI HB1
    generalize hW2 : wc = W2 at *
    clear hW2
    go_upto_region 4 with fail
    go_cut [4] (fun x wx => ∃ g c, x = .slice (some ⟨g, 0, none⟩) es.length c ∧ wx.ownsRow W2.heap.size 45 3 (.slice (some ⟨g, 0, none⟩) (es.length + 1) c) (es.length + 1) (fl ec (es ++ [((0, 0, 77) : Ed)])) ∧ Below W2.heap.size W2 wx)
    case first =>
      have HF : Hid (∀ wq, Below W2.heap.size W2 wq → wq.cell? ⟨w.heap.size, 1, none⟩ = some (.slice ea es.length ec')) := hidIn fun wq h => cell_of_row _ _ 1 _ _ _ ((h.block _ (by omega)).trans K0'.out)
      refine wp_region_held_drew (S := fun wx => Below W2.heap.size W2 wx) (by kernel_rfl) ((Below.refl _ W2).drew) (fun hHeld => ?_)
      have hh : Below W2.heap.size W2 W2.drew := hHeld
      refine wpAnyH_take (i := 0) (v := ?_) rfl (by kernel_rfl) (by kernel_rfl) (by kernel_rfl) (fun _ _ _ h => h) (Or.inl ⟨by rfl, ?_⟩) (by assumption) ?_
      rotate_left
      · intro wq hSw
        clear hSw
        go_simp
        try (with_reducible rfl)
      refine wpAnyH_take (i := 1) (v := ?_) rfl (by kernel_rfl) (by kernel_rfl) (by kernel_rfl) (fun _ _ _ h => h) (Or.inl ⟨by rfl, ?_⟩) (by assumption) ?_
      rotate_left
      · intro wq hSw
        clear hSw
        go_simp
        try (with_reducible rfl)
      refine wpAnyH_take (i := 2) (v := ?_) rfl (by kernel_rfl) (by kernel_rfl) (by kernel_rfl) (fun _ _ _ h => h) (Or.inl ⟨by rfl, ?_⟩) (by assumption) ?_
      rotate_left
      · intro wq hSw
        have q0 := HF.out wq hSw
        clear hSw
        go_simp
        try (with_reducible rfl)
      refine wpAnyH_take (i := 4) (v := ?_) rfl (by kernel_rfl) (by kernel_rfl) (by kernel_rfl) (fun _ _ _ h => h) (Or.inl ⟨by rfl, ?_⟩) (by assumption) ?_
      rotate_left
      · intro wq hSw
        clear hSw
        go_simp
        try (with_reducible rfl)
      refine wpAnyH_take (i := 7) (v := ?_) rfl (by kernel_rfl) (by kernel_rfl) (by kernel_rfl) (fun _ _ _ h => h) (Or.inl ⟨by rfl, ?_⟩) (by assumption) ?_
      rotate_left
      · intro wq hSw
        clear hSw
        go_simp
        try (with_reducible rfl)
      refine wpAnyH_take (i := 8) (v := ?_) rfl (by kernel_rfl) (by kernel_rfl) (by kernel_rfl) (fun _ _ _ h => h) (Or.inl ⟨by rfl, ?_⟩) (by assumption) ?_
      rotate_left
      · intro wq hSw
        have q0 := HF.out wq hSw
        clear hSw
        go_simp
        try (with_reducible rfl)
      refine wpAnyH_take (i := 9) (v := ?_) rfl (by kernel_rfl) (by kernel_rfl) (by kernel_rfl) (fun _ _ _ h => h) (Or.inl ⟨by rfl, ?_⟩) (by assumption) ?_
      rotate_left
      · intro wq hSw
        clear hSw
        go_simp
        try (with_reducible rfl)
      refine wpAnyH_ready (rs := [3, 5]) (by kernel_rfl) (by simp) ?_
      refine AllReadyH.cons rfl (fun K hK => ?_) ?_
      · obtain ⟨v1, w3, hrun1, hrow1, hb3, _⟩ := append_allE (l := []) (m := es) (World.ownsRow_nil W2.drew W2.heap.size 45 3) (HE'.out.keep hh (Nat.le_refl _)) (by omega) hh.size (by rcases NE.out with h | h; exact .inl h; exact .inr ⟨h, rfl⟩)
        rw [Nat.zero_add] at hrow1
        obtain ⟨a1, c1, rfl⟩ := row_shape hrow1
        refine step_append rfl (.tmp 15) (.tmp 17) 23 rfl (by kernel_rfl) (by kernel_rfl) hrun1 ?_
        have h3 : Below W2.heap.size W2 w3 := hh.trans hb3
        refine hK.out _ _ h3 (fun _ => ?_)
        clear hK K hrun1
        refine wpAnyH_ready (rs := [5]) (by kernel_rfl) (by simp) ?_
        refine AllReadyH.cons rfl (fun K hK => ?_) AllReadyH.nil
        go_simp
        have bA : Below w3.heap.size w3 (w3.alloc (Obj.cells #[.int .i64 0, .int .i64 0, .int .i64 77] 45)) := (Below.refl _ w3).alloc (Nat.le_refl _) _
        have hB : Below W2.heap.size W2 (w3.alloc (Obj.cells #[.int .i64 0, .int .i64 0, .int .i64 77] 45)) := h3.trans (bA.mono h3.size)
        refine hK.out _ _ hB (fun _ => ?_)
        clear hK K
        have hrowB := row_below hrow1 bA (Nat.le_refl _)
        have hnewB := slAt_block (cs := ec) (sz := 3) (fun _ => rfl) (l := [((0, 0, 77) : Ed)]) (heap_alloc_last w3 (.cells #[.int .i64 0, .int .i64 0, .int .i64 77] 45)) (by simp)
        clear hrow1 bA
        refine wpAnyH_ready (rs := [6]) (by kernel_rfl) (by simp) ?_
        refine AllReadyH.cons rfl (fun K hK => ?_) AllReadyH.nil
        obtain ⟨v2, w9, hrun2, hrow2, hb9, _⟩ := append_allE hrowB hnewB (by simp; omega) (Nat.le_trans (Nat.le_refl _) hB.size) (.inl ⟨_, _, _, rfl⟩)
        rw [List.length_singleton] at hrow2
        obtain ⟨g, c, rfl, _⟩ := hrow2.form (by omega)
        refine step_append rfl (.tmp 18) (.tmp 20) 23 rfl (by kernel_rfl) (by kernel_rfl) hrun2 ?_
        have h9 : Below W2.heap.size W2 w9 := hB.trans hb9
        have hc9 : es.length ≤ c := by
          rcases hrow2.2 with ⟨h, _⟩ | ⟨g', c', cur, h, _, _, h1, _⟩
          · simp at h
          · simp at h
            omega
        refine hK.out _ _ h9 (fun _ => ?_)
        clear hK K
        have Hrow2 := hidIn hrow2
        clear hrow2 hrun2 hrowB hnewB
        refine wpAnyH_ready (rs := [10]) (by kernel_rfl) (by simp) ?_
        refine AllReadyH.cons rfl (fun K hK => ?_) AllReadyH.nil
        go_simp
        refine hK.out _ _ h9 (fun _ => ?_)
        clear hK K
        refine wpAnyH_ready (rs := [11]) (by kernel_rfl) (by simp) ?_
        refine AllReadyH.cons rfl (fun K hK => ?_) AllReadyH.nil
        go_simp
        refine hK.out _ _ h9 (fun _ => ?_)
        clear hK K
        refine wpAnyH_done (by kernel_rfl) ?_ _
        go_wp2_with fail
        go_meet
        exact ⟨g, c, rfl, Hrow2.out, h9⟩
      · refine AllReadyH.cons rfl (fun K hK => ?_) AllReadyH.nil
        go_simp
        have bA : Below W2.drew.heap.size W2.drew (W2.drew.alloc (Obj.cells #[.int .i64 0, .int .i64 0, .int .i64 77] 45)) := (Below.refl _ W2.drew).alloc (Nat.le_refl _) _
        have hA : Below W2.heap.size W2 (W2.drew.alloc (Obj.cells #[.int .i64 0, .int .i64 0, .int .i64 77] 45)) := hh.trans bA
        have hnew0 := slAt_block (cs := ec) (sz := 3) (fun _ => rfl) (l := [((0, 0, 77) : Ed)]) (heap_alloc_last W2.drew (.cells #[.int .i64 0, .int .i64 0, .int .i64 77] 45)) (by simp)
        have hA' : Below W2.heap.size W2 (W2.alloc (Obj.cells #[.int .i64 0, .int .i64 0, .int .i64 77] 45)).drew := hA
        refine hK.out _ _ hA' (fun _ => ?_)
        clear hK K
        change SlAt ec 3 (W2.alloc (Obj.cells #[.int .i64 0, .int .i64 0, .int .i64 77] 45)).drew (.slice (some ⟨W2.heap.size, 0, none⟩) 1 1) [((0, 0, 77) : Ed)] at hnew0
        clear hA bA
        generalize World.drew (World.alloc _ _) = V at hA' hnew0 ⊢
        refine wpAnyH_ready (rs := [3]) (by kernel_rfl) (by simp) ?_
        refine AllReadyH.cons rfl (fun K hK => ?_) AllReadyH.nil
        obtain ⟨v1, w3, hrun1, hrow1, hb3, hg3⟩ := append_allE (l := []) (m := es) (World.ownsRow_nil V W2.heap.size 45 3) (HE'.out.keep hA' (Nat.le_refl _)) (by omega) hA'.size (by rcases NE.out with h | h; exact .inl h; exact .inr ⟨h, rfl⟩)
        rw [Nat.zero_add] at hrow1
        obtain ⟨a1, c1, rfl⟩ := row_shape hrow1
        refine step_append rfl (.tmp 15) (.tmp 17) 23 rfl (by kernel_rfl) (by kernel_rfl) hrun1 ?_
        have hB : Below W2.heap.size W2 w3 := hA'.trans hb3
        refine hK.out _ _ hB (fun _ => ?_)
        clear hK K hrun1
        have hrowB := hrow1
        have hnewB := hnew0.keep (B := V.heap.size) (w' := w3) ⟨hg3.os, hg3.tape, hg3.output, hg3.size, fun k hk => hg3.block k hk (by simp [Value.ownBlock])⟩ (Nat.le_refl _)
        clear hrow1 hnew0 hg3
        refine wpAnyH_ready (rs := [6]) (by kernel_rfl) (by simp) ?_
        refine AllReadyH.cons rfl (fun K hK => ?_) AllReadyH.nil
        obtain ⟨v2, w9, hrun2, hrow2, hb9, _⟩ := append_allE hrowB hnewB (by simp; omega) (Nat.le_trans (Nat.le_refl _) hB.size) (.inl ⟨_, _, _, rfl⟩)
        rw [List.length_singleton] at hrow2
        obtain ⟨g, c, rfl, _⟩ := hrow2.form (by omega)
        refine step_append rfl (.tmp 18) (.tmp 20) 23 rfl (by kernel_rfl) (by kernel_rfl) hrun2 ?_
        have h9 : Below W2.heap.size W2 w9 := hB.trans hb9
        have hc9 : es.length ≤ c := by
          rcases hrow2.2 with ⟨h, _⟩ | ⟨g', c', cur, h, _, _, h1, _⟩
          · simp at h
          · simp at h
            omega
        refine hK.out _ _ h9 (fun _ => ?_)
        clear hK K
        have Hrow2 := hidIn hrow2
        clear hrow2 hrun2 hrowB hnewB
        refine wpAnyH_ready (rs := [10]) (by kernel_rfl) (by simp) ?_
        refine AllReadyH.cons rfl (fun K hK => ?_) AllReadyH.nil
        go_simp
        refine hK.out _ _ h9 (fun _ => ?_)
        clear hK K
        refine wpAnyH_ready (rs := [11]) (by kernel_rfl) (by simp) ?_
        refine AllReadyH.cons rfl (fun K hK => ?_) AllReadyH.nil
        go_simp
        refine hK.out _ _ h9 (fun _ => ?_)
        clear hK K
        refine wpAnyH_done (by kernel_rfl) ?_ _
        go_wp2_with fail
        go_meet
        exact ⟨g, c, rfl, Hrow2.out, h9⟩
    case rest =>
      obtain ⟨p, d, rfl, hrow2, hbc2⟩ := hcut
      have hsz : W1.heap.size ≤ W2.heap.size := HrowB.out.size
      have hG := (hbc2.block _ (show w.heap.size + 1 < W2.heap.size by omega)).trans K1'.out
      have HR1 := hidIn (row_below HRow.out hbc2 (Nat.le_refl _))
      have HR2 := hidIn hrow2
      have HBd := hidIn (HBc.out.trans (hbc2.mono HBc.out.size))
      have g0 : wc.cell? ⟨w.heap.size + 1, 0, none⟩ = some (.slice none 0 0) := cell_of_row _ _ 0 _ _ _ hG
      have g1 : wc.cell? ⟨w.heap.size + 1, 1, none⟩ = some (.slice none 0 0) := cell_of_row _ _ 1 _ _ _ hG
      have gf0 := frozen_new hG 0
      have gf1 := frozen_new hG 1
      clear hrow2 hbc2 hG K0' K1' HE' HRow HrowB HBc Hs1
      go_wp2_with fail
      have e0 : ((wc.setCell ⟨w.heap.size + 1, 0, none⟩ (.slice (some ⟨g, 0, none⟩) ns.length c)).setCell ⟨w.heap.size + 1, 1, none⟩ (.slice (some ⟨p, 0, none⟩) es.length d)).cell? ⟨w.heap.size + 1, 0, none⟩ = some (.slice (some ⟨g, 0, none⟩) ns.length c) := by simp [go_sem, g0]
      have e1 : ((wc.setCell ⟨w.heap.size + 1, 0, none⟩ (.slice (some ⟨g, 0, none⟩) ns.length c)).setCell ⟨w.heap.size + 1, 1, none⟩ (.slice (some ⟨p, 0, none⟩) es.length d)).cell? ⟨w.heap.size + 1, 1, none⟩ = some (.slice (some ⟨p, 0, none⟩) es.length d) := by simp [go_sem, g1]
      have HF : Hid (Fr (fun k => k = w.heap.size + 1) wc ((wc.setCell ⟨w.heap.size + 1, 0, none⟩ (.slice (some ⟨g, 0, none⟩) ns.length c)).setCell ⟨w.heap.size + 1, 1, none⟩ (.slice (some ⟨p, 0, none⟩) es.length d))) := hidIn (((Fr.refl (fun k => k = w.heap.size + 1) wc).set (p := ⟨w.heap.size + 1, 0, none⟩) rfl _).set (p := ⟨w.heap.size + 1, 1, none⟩) rfl _)
      generalize (wc.setCell ⟨w.heap.size + 1, 0, none⟩ (.slice (some ⟨g, 0, none⟩) ns.length c)).setCell ⟨w.heap.size + 1, 1, none⟩ (.slice (some ⟨p, 0, none⟩) es.length d) = V at *
      refine bodyPost_ret (v := grV (.slice (some ⟨g, 0, none⟩) ns.length c) (.slice (some ⟨p, 0, none⟩) es.length d)) (by simp [results, Try.results9, asAddr, Result.andThen, go_sem, e0, e1]) rfl ⟨⟨g, c, p, d, ?_, ?_, ?_⟩, ?_⟩
      · rfl
      · exact row_low (row_fr HR1.out HF.out (fun j hj e => by have := (HR1.out.lt j hj).1; omega)) (by omega)
      · exact row_low (row_fr HR2.out HF.out (fun j hj e => by have := (HR2.out.lt j hj).1; omega)) (by omega)
      · exact HBd.out.trans (HF.out.below HBd.out.size (fun k hk => by omega))
end Go.Proofs.Ytpifkhcjogilfaa
