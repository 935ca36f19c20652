/- From's closure. From: who keeps what is known; its answer. table.inOrder. Of: the first one of a list that has the node. Plain numbers: the sum of bytes (16 bits, cyclic), and what it finds. -/
import Derived.Test.YtgeoghhajjlofaaGreatDoorVQ0
import Derived.Test.YtgeoghhajjlofaaGreatDoorTA2
import Derived.Shelf.SlSortCmp.NoneTotal
import Derived.Laws.BitsAllLaws
namespace Go.Proofs.YtgeoghhajjlofaaGreatDoor
open Go.RowKit

/-- Twenty-five rows of five cells. -/
def gl (cs : Nat → List Value) : List Value := fl cs (List.range 25)
theorem gl_len {cs : Nat → List Value} (hc : ∀ i, (cs i).length = 5) : (gl cs).length = 125 := by unfold gl; rw [fl_length hc]; simp
theorem gl_get {cs : Nat → List Value} (hc : ∀ i, (cs i).length = 5) {j k : Nat} (hj : j < 25) (hk : k < 5) : (gl cs)[j * 5 + k]? = (cs j)[k]? := by
  unfold gl
  exact fl_get hc _ j k j (List.getElem?_range hj) hk
theorem putV_len {cs : Nat → List Value} (hc : ∀ i, (cs i).length = 5) (j : Nat) {l : List Value} (hl : l.length = 5) : ∀ i, (putV cs j l i).length = 5 := by
  intro i
  unfold putV
  split
  · exact hl
  · exact hc i
theorem gl_set {cs : Nat → List Value} (hc : ∀ i, (cs i).length = 5) {j k : Nat} (hj : j < 25) (hk : k < 5) (u : Value) : (gl cs).set (j * 5 + k) u = gl (putV cs j ((cs j).set k u)) := by
  have hc' := putV_len hc j (l := (cs j).set k u) (by rw [List.length_set]; exact hc j)
  apply List.ext_getElem?
  intro m
  rw [List.getElem?_set]
  by_cases hm : m < 125
  · obtain ⟨q, s, hq, hs, rfl⟩ : ∃ q s, q < 25 ∧ s < 5 ∧ m = q * 5 + s := ⟨m / 5, m % 5, by omega, by omega, by omega⟩
    rw [gl_get hc hq hs, gl_get hc' hq hs, gl_len hc]
    by_cases hqj : q = j
    · subst hqj
      rw [putV_same, List.getElem?_set]
      by_cases hsk : k = s
      · subst hsk
        rw [if_pos rfl, if_pos hm, if_pos rfl, if_pos (by rw [hc]; exact hk)]
      · rw [if_neg (by omega), if_neg hsk]
    · rw [if_neg (by omega), putV_other _ _ hqj]
  · rw [List.getElem?_eq_none (by rw [gl_len hc]; omega), List.getElem?_eq_none (by rw [gl_len hc']; omega), if_neg (by omega)]
/-- A list of its own, or nil; apart from block B. -/
def NxAt (w : World) (lo B : Nat) (v : Value) (l : List Int) : Prop :=
  (l = [] ∧ v = .slice none 0 0) ∨ ∃ g o cap, v = .slice (some ⟨g, o, none⟩) l.length cap ∧ l.length ≤ cap ∧ g ≠ B ∧ lo ≤ g ∧ (∃ cur, w.heap[g]? = some (.cells cur 3)) ∧ ∀ j z, l[j]? = some z → w.cell? ⟨g, o + j, none⟩ = some (.int .i64 z)
theorem NxAt.fr {w w' : World} {lo B : Nat} {v : Value} {l : List Int} (h : NxAt w lo B v l) (hF : Fr (fun k => k = B) w w') : NxAt w' lo B v l := by
  rcases h with h | ⟨g, o, cap, rfl, hc, hne, hlo, ⟨cur, hcu⟩, hcell⟩
  · exact .inl h
  · have hk := hF.block g (block_lt hcu) hne
    refine .inr ⟨g, o, cap, rfl, hc, hne, hlo, ⟨cur, hk.trans hcu⟩, fun j z hz => ?_⟩
    rw [World.cell?_of_block (a := ⟨g, o + j, none⟩) hk]
    exact hcell j z hz
theorem NxAt.sl {w : World} {lo B : Nat} {v : Value} {l : List Int} (h : NxAt w lo B v l) (hl : l.length ≤ 10000) : SlAt ic 1 w v l ∧ NilOk v := by
  rcases h with ⟨rfl, rfl⟩ | ⟨g, o, cap, rfl, hc, hne, hlo, ⟨cur, hcu⟩, hcell⟩
  · exact ⟨slAt_nil _ _ _, .inr rfl⟩
  · refine ⟨⟨_, cap, rfl, by omega, hc, fun _ => ⟨g, o, rfl, block_lt hcu, fun j z hz i u hu => ?_⟩⟩, .inl ⟨_, _, _, rfl⟩⟩
    have hi : i = 0 := by
      have := (List.getElem?_eq_some_iff.1 hu).1
      simp at this
      exact this
    subst hi
    simp at hu
    subst hu
    rw [Nat.mul_one, Nat.add_zero]
    exact hcell j z hz
theorem nxAt_row {w : World} {base lo B : Nat} {v : Value} {l : List Int} (hr : w.ownsRow base 3 1 v l.length (fl ic l)) (hB : B < base) (hlo : lo ≤ base) : NxAt w lo B v l := by
  rcases hr.2 with ⟨h1, h2⟩ | ⟨g, cap, cur, rfl, hg, hh, h1, _⟩
  · exact .inl ⟨List.length_eq_zero_iff.1 h2, h1⟩
  · refine .inr ⟨g, 0, cap, rfl, h1, by omega, by omega, ⟨cur, hh⟩, fun j z hz => ?_⟩
    have := hr.cells (g := g) rfl j (.int .i64 z) (by rw [ints_map, List.getElem?_map, hz]; rfl)
    rw [Addr.add_mid, Nat.zero_add] at this
    rw [Nat.zero_add]
    exact this
abbrev rrc (x : Rr) (v : Value) : List Value := [.int .i64 x.node, .int .i64 x.cost, .int .i64 x.least, .int .i64 x.most, v]
/-- The memory of From: what is known of each node. -/
def RcM (w : World) (lo B : Nat) (R : Nat → Rr) : Prop := ∃ vs : Nat → Value, Arr w B 94 (gl fun i => rrc (R i) (vs i)) ∧ ∀ i, i < 25 → NxAt w lo B (vs i) (R i).next
theorem RcM.keep {w w' : World} {lo B : Nat} {R : Nat → Rr} (h : RcM w lo B R) (hb : Below w.heap.size w w') : RcM w' lo B R := by
  obtain ⟨vs, hA, hW⟩ := h
  exact ⟨vs, hA.keep hb hA.lt, fun i hi => (hW i hi).fr (Fr.of_below hb)⟩
theorem NxAt.shape {w : World} {lo B : Nat} {v : Value} {l : List Int} (h : NxAt w lo B v l) : ∃ a cap, v = .slice a l.length cap := by
  rcases h with ⟨rfl, rfl⟩ | ⟨g, o, cap, rfl, _⟩
  · exact ⟨none, 0, rfl⟩
  · exact ⟨_, _, rfl⟩
/-- The array, one row put anew. -/
theorem gl_row {R : Nat → Rr} {vs : Nat → Value} {j : Nat} {x : Rr} {v : Value} {cs : Nat → List Value} (h : ∀ k, cs k = if k = j then rrc x v else rrc (R k) (vs k)) : gl cs = gl fun k => rrc (putV R j x k) (putV vs j v k) := by
  have : cs = fun k => rrc (putV R j x k) (putV vs j v k) := by
    funext k
    rw [h k]
    by_cases hk : k = j
    · subst hk; rw [if_pos rfl, putV_same, putV_same]
    · rw [if_neg hk, putV_other _ _ hk, putV_other _ _ hk]
  rw [this]
theorem Arr.five {w : World} {B j : Nat} {R : Nat → Rr} {vs : Nat → Value} (h : Arr w B 94 (gl fun i => rrc (R i) (vs i))) (hj : j < 25) (x : Rr) (v : Value) :
    Arr (((((w.setCell ⟨B, j * 5, none⟩ (.int .i64 x.node)).setCell ⟨B, j * 5 + 1, none⟩ (.int .i64 x.cost)).setCell ⟨B, j * 5 + 2, none⟩ (.int .i64 x.least)).setCell ⟨B, j * 5 + 3, none⟩ (.int .i64 x.most)).setCell ⟨B, j * 5 + 4, none⟩ v) B 94 (gl fun k => rrc (putV R j x k) (putV vs j v k)) := by
  have hc : ∀ i, ((fun i => rrc (R i) (vs i)) i).length = 5 := fun _ => rfl
  have h1 := ((((h.set (j * 5 + 0) (.int .i64 x.node)).set (j * 5 + 1) (.int .i64 x.cost)).set (j * 5 + 2) (.int .i64 x.least)).set (j * 5 + 3) (.int .i64 x.most)).set (j * 5 + 4) v
  rw [gl_set hc hj (by omega)] at h1
  rw [gl_set (putV_len hc j rfl) hj (by omega)] at h1
  rw [gl_set (putV_len (putV_len hc j rfl) j (by rw [putV_same]; rfl)) hj (by omega)] at h1
  rw [gl_set (putV_len (putV_len (putV_len hc j rfl) j (by rw [putV_same]; rfl)) j (by rw [putV_same, putV_same]; rfl)) hj (by omega)] at h1
  rw [gl_set (putV_len (putV_len (putV_len (putV_len hc j rfl) j (by rw [putV_same]; rfl)) j (by rw [putV_same, putV_same]; rfl)) j (by rw [putV_same, putV_same, putV_same]; rfl)) hj (by omega)] at h1
  rw [gl_row (R := R) (vs := vs) (j := j) (x := x) (v := v) (fun k => ?_)] at h1
  · exact h1
  · by_cases hk : k = j
    · subst hk
      simp only [putV_same, if_true]
      rfl
    · simp only [putV_other _ _ hk, if_neg hk]
theorem Arr.oneR {w : World} {B j f : Nat} {R : Nat → Rr} {vs : Nat → Value} (h : Arr w B 94 (gl fun i => rrc (R i) (vs i))) (hj : j < 25) (hf : f < 5) (u : Value) (x : Rr) (v : Value) (hx : (rrc (R j) (vs j)).set f u = rrc x v) :
    Arr (w.setCell ⟨B, j * 5 + f, none⟩ u) B 94 (gl fun k => rrc (putV R j x k) (putV vs j v k)) := by
  have h1 := h.set (j * 5 + f) u
  rw [gl_set (cs := fun i => rrc (R i) (vs i)) (fun _ => rfl) hj hf] at h1
  rw [gl_row (R := R) (vs := vs) (j := j) (x := x) (v := v) (fun k => ?_)] at h1
  · exact h1
  · by_cases hk : k = j
    · subst hk
      rw [putV_same, if_pos rfl]
      exact hx
    · rw [putV_other _ _ hk, if_neg hk]
theorem putV_self {α : Type} (c : Nat → α) (i : Nat) : putV c i (c i) = c := by
  funext k
  unfold putV
  split
  · rename_i h; rw [h]
  · rfl
theorem putV_putV {α : Type} (c : Nat → α) (i : Nat) (x y : α) : putV (putV c i x) i y = putV c i y := by
  funext k
  unfold putV
  split <;> rfl
set_option maxRecDepth 100000 in
set_option maxHeartbeats 8000000 in
theorem from1_any {lo B rb : Nat} {R : Nat → Rr} {C : Nat → Int} {a b d r : Int} {w : World} {N : Nat} (ha : 1 ≤ a ∧ a ≤ 24) (hb : 1 ≤ b ∧ b ≤ 24) (hM : RcM w lo B R) (hR : ∀ i, RrOk N (R i)) (hN : N ≤ 10000) (hlo : lo ≤ w.heap.size) (hrb : w.heap[rb]? = some (.cells #[.int .i64 r] 3)) :
    Calls Tryz.prog 39 #[edV (a, b, d), .int .i64 (C b.toNat), .pointer (some ⟨B, 0, none⟩), .pointer (some ⟨rb, 0, none⟩)] w fun x w' => (∃ v, x = .returned v) ∧ RcM w' lo B (rchE r C R (a, b, d)) ∧ Fr (fun k => k = B) w w' := by
  obtain ⟨i, rfl⟩ : ∃ i : Nat, a = (i : Int) := ⟨a.toNat, by omega⟩
  obtain ⟨j, rfl⟩ : ∃ j : Nat, b = (j : Int) := ⟨b.toNat, by omega⟩
  rw [Int.toNat_natCast]
  have hi : i < 25 := by omega
  have hj : j < 25 := by omega
  have hii : (i : Int) < 25 := by omega
  have hji : (j : Int) < 25 := by omega
  obtain ⟨vs, hA, hW⟩ := hM
  have hc5 : ∀ i, (rrc (R i) (vs i)).length = 5 := fun _ => rfl
  obtain ⟨W1, hW1⟩ : ∃ W1, w.alloc (.cells #[.int .i64 (i : Int), .int .i64 (j : Int), .int .i64 d] 97) = W1 := ⟨_, rfl⟩
  have bA : Below w.heap.size w W1 := by rw [← hW1]; exact (Below.refl _ w).alloc (Nat.le_refl _) _
  have hE : W1.heap[w.heap.size]? = some (.cells #[.int .i64 (i : Int), .int .i64 (j : Int), .int .i64 d] 97) := by rw [← hW1]; exact heap_alloc_last w _
  have hA1 := hA.keep bA hA.lt
  have hne : w.heap.size ≠ B := by have := hA.lt; omega
  have l0 := cell_of_row _ _ 0 _ _ _ hE
  simp at l0
  have m0 := hA1.cell (i * 5 + 0)
  have m1 := hA1.cell (i * 5 + 1)
  have m2 := hA1.cell (i * 5 + 2)
  have m3 := hA1.cell (i * 5 + 3)
  have m4 := hA1.cell (i * 5 + 4)
  rw [gl_get hc5 hi (by omega)] at m0 m1 m2 m3 m4
  simp at m0 m1 m2 m3 m4
  obtain ⟨va, vcap, hvi⟩ := (hW i hi).shape
  rw [hvi] at m4
  have HW := hidIn hW1
  clear hW1
  go_enter Tryz.func39, Tryz.ntmps39
  go_upto_region 1 with fail
  rw [HW.out]
  clear HW
  have HFW : Hid (Fr (fun k => k = B) w W1) := hidIn (Fr.of_below bA)
  generalize hbe : w.heap.size = be at *
  clear m0 m1 m2 m3 m4 l0
  have hS0 : W1.drew.heap[be]? = some (.cells #[.int .i64 (i : Int), .int .i64 (j : Int), .int .i64 d] 97) ∧ Arr W1.drew B 94 (gl fun i => rrc (R i) (vs i)) := ⟨hE, hA1⟩
  go_cut [6, 7] (fun x y wx => (∃ bw, x = .pointer (some ⟨bw, 0, none⟩) ∧ wx.heap[bw]? = some (.cells #[.int .i64 (R i).node, .int .i64 (R i).cost, .int .i64 (R i).least, .int .i64 (R i).most, .slice va (R i).next.length vcap] 64) ∧ W1.heap.size ≤ bw) ∧ y = .slice va (R i).next.length vcap ∧ Below W1.heap.size W1 wx)
  case first =>
    refine wp_region_held_drew (S := fun wx => wx.heap[be]? = some (.cells #[.int .i64 (i : Int), .int .i64 (j : Int), .int .i64 d] 97) ∧ Arr wx B 94 (gl fun i => rrc (R i) (vs i))) (by kernel_rfl) hS0 (fun hHeld => ?_)
    refine wpAnyH_take (i := 0) (v := ?_) rfl (by kernel_rfl) (by kernel_rfl) (by kernel_rfl) (fun _ _ _ h => h) (Or.inl ⟨by rfl, ?_⟩) (by assumption) ?_
    rotate_left
    · intro wq hSw
      clear hSw
      go_simp
      try (with_reducible rfl)
    refine wpAnyH_take (i := 1) (v := ?_) rfl (by kernel_rfl) (by kernel_rfl) (by kernel_rfl) (fun _ _ _ h => h) (Or.inl ⟨by rfl, ?_⟩) (by assumption) ?_
    rotate_left
    · intro wq hSw
      have z0 := cell_of_row _ _ 0 _ _ _ hSw.1
      simp at z0
      clear hSw
      go_simp
      try (with_reducible rfl)
    refine wpAnyH_take (i := 2) (v := ?_) rfl (by kernel_rfl) (by kernel_rfl) (by kernel_rfl) (fun _ _ _ h => h) (Or.inl ⟨by rfl, ?_⟩) (by assumption) ?_
    rotate_left
    · intro wq hSw
      clear hSw
      go_simp
      try (with_reducible rfl)
    refine wpAnyH_take (i := 3) (v := ?_) rfl (by kernel_rfl) (by kernel_rfl) (by kernel_rfl) (fun _ _ _ h => h) (Or.inl ⟨by rfl, ?_⟩) (by assumption) ?_
    rotate_left
    · intro wq hSw
      have z0 := hSw.2.cell (i * 5 + 0)
      have z1 := hSw.2.cell (i * 5 + 1)
      have z2 := hSw.2.cell (i * 5 + 2)
      have z3 := hSw.2.cell (i * 5 + 3)
      have z4 := hSw.2.cell (i * 5 + 4)
      rw [gl_get hc5 hi (by omega)] at z0 z1 z2 z3 z4
      simp at z0 z1 z2 z3 z4
      rw [hvi] at z4
      clear hSw
      go_simp
      try (with_reducible rfl)
    refine wpAnyH_take (i := 4) (v := ?_) rfl (by kernel_rfl) (by kernel_rfl) (by kernel_rfl) (fun _ _ _ h => h) (Or.inl ⟨by rfl, ?_⟩) (by assumption) ?_
    rotate_left
    · intro wq hSw
      clear hSw
      go_simp
      try (with_reducible rfl)
    refine wpAnyH_take (i := 5) (v := ?_) rfl (by kernel_rfl) (by kernel_rfl) (by kernel_rfl) (fun _ _ _ h => h) (Or.inl ⟨by rfl, ?_⟩) (by assumption) ?_
    rotate_left
    · intro wq hSw
      have z0 := cell_of_row _ _ 0 _ _ _ hSw.1
      simp at z0
      clear hSw
      go_simp
      try (with_reducible rfl)
    refine wpAnyH_take (i := 6) (v := ?_) rfl (by kernel_rfl) (by kernel_rfl) (by kernel_rfl) (fun _ _ _ h => h) (Or.inl ⟨by rfl, ?_⟩) (by assumption) ?_
    rotate_left
    · intro wq hSw
      clear hSw
      go_simp
      try (with_reducible rfl)
    refine wpAnyH_take (i := 7) (v := ?_) rfl (by kernel_rfl) (by kernel_rfl) (by kernel_rfl) (fun _ _ _ h => h) (Or.inl ⟨by rfl, ?_⟩) (by assumption) ?_
    rotate_left
    · intro wq hSw
      clear hSw
      go_simp
      try (with_reducible rfl)
    refine wpAnyH_take (i := 8) (v := ?_) rfl (by kernel_rfl) (by kernel_rfl) (by kernel_rfl) (fun _ _ _ h => h) (Or.inl ⟨by rfl, ?_⟩) (by assumption) ?_
    rotate_left
    · intro wq hSw
      have z0 := hSw.2.cell (i * 5 + 0)
      have z1 := hSw.2.cell (i * 5 + 1)
      have z2 := hSw.2.cell (i * 5 + 2)
      have z3 := hSw.2.cell (i * 5 + 3)
      have z4 := hSw.2.cell (i * 5 + 4)
      rw [gl_get hc5 hi (by omega)] at z0 z1 z2 z3 z4
      simp at z0 z1 z2 z3 z4
      rw [hvi] at z4
      clear hSw
      go_simp
      try (with_reducible rfl)
    refine wpAnyH_ready (rs := [9]) (by kernel_rfl) (by simp) ?_
    refine AllReadyH.cons rfl (fun K hK => ?_) AllReadyH.nil
    go_simp
    have hS1 : (W1.alloc (Obj.cells #[.int .i64 0, .int .i64 0, .int .i64 0, .int .i64 0, .slice none 0 0] 64)).drew.heap[be]? = some (.cells #[.int .i64 (i : Int), .int .i64 (j : Int), .int .i64 d] 97) ∧ Arr (W1.alloc (Obj.cells #[.int .i64 0, .int .i64 0, .int .i64 0, .int .i64 0, .slice none 0 0] 64)).drew B 94 (gl fun i => rrc (R i) (vs i)) := ⟨(Below.heap_alloc _ _ _ (block_lt hE)).trans hE, (Below.heap_alloc _ _ _ hA1.lt).trans hA1⟩
    refine hK.out _ _ hS1 (fun _ => ?_)
    clear hK K
    refine wpAnyH_ready (rs := [10]) (by kernel_rfl) (by simp) ?_
    refine AllReadyH.cons rfl (fun K hK => ?_) AllReadyH.nil
    go_simp
    have hS2 : (W1.alloc (Obj.cells #[.int .i64 (R i).node, .int .i64 (R i).cost, .int .i64 (R i).least, .int .i64 (R i).most, .slice va (R i).next.length vcap] 64)).drew.heap[be]? = some (.cells #[.int .i64 (i : Int), .int .i64 (j : Int), .int .i64 d] 97) ∧ Arr (W1.alloc (Obj.cells #[.int .i64 (R i).node, .int .i64 (R i).cost, .int .i64 (R i).least, .int .i64 (R i).most, .slice va (R i).next.length vcap] 64)).drew B 94 (gl fun i => rrc (R i) (vs i)) := ⟨(Below.heap_alloc _ _ _ (block_lt hE)).trans hE, (Below.heap_alloc _ _ _ hA1.lt).trans hA1⟩
    refine hK.out _ _ hS2 (fun _ => ?_)
    clear hK K
    refine wpAnyH_ready (rs := [11]) (by kernel_rfl) (by simp) ?_
    refine AllReadyH.cons rfl (fun K hK => ?_) AllReadyH.nil
    go_simp
    refine hK.out _ _ hS2 (fun _ => ?_)
    clear hK K
    refine wpAnyH_done (by kernel_rfl) ?_ _
    go_wp2_with fail
    go_meet
    exact ⟨⟨_, rfl, heap_alloc_last W1 _, Nat.le_refl _⟩, rfl, ((Below.refl _ W1).alloc (Nat.le_refl _) _).drew⟩
  case rest =>
    obtain ⟨⟨bw, rfl, hbw, hbwl⟩, rfl, hBc⟩ := hcut
    have hFc : Fr (fun k => k = B) w wc := HFW.out.trans (Fr.of_below hBc)
    have hEc := (hBc.block _ (block_lt hE)).trans hE
    have hAc := hA1.keep hBc hA1.lt
    have hrc : wc.heap[rb]? = some (.cells #[.int .i64 r] 3) := (hBc.block _ (Nat.lt_of_lt_of_le (block_lt hrb) bA.size)).trans ((bA.block _ (by rw [← hbe]; exact block_lt hrb)).trans hrb)
    have HWc : Hid (∀ k, k < 25 → NxAt wc lo B (vs k) (R k).next) := hidIn fun k hk => (hW k hk).fr hFc
    have hbeL : be < W1.heap.size := block_lt hE
    have hBL : B < W1.heap.size := hA1.lt
    have hloW : lo ≤ W1.heap.size := by have := bA.size; omega
    have l0 := cell_of_row _ _ 0 _ _ _ hEc
    have l1 := cell_of_row _ _ 1 _ _ _ hEc
    have r0 := cell_of_row _ _ 0 _ _ _ hrc
    simp at l0 l1 r0
    have HFc := hidIn hFc
    have HEc := hidIn hEc
    have HAc := hidIn hAc
    have HBc := hidIn hBc
    have Hbw := hidIn hbw
    have hlen : (R i).next.length ≤ 24 := rise_len (hR i).np (hR i).nb
    have hnx := HWc.out i hi
    rw [hvi] at hnx
    have HNx := hidIn hnx
    clear hFc hEc hAc hrc hBc hbw hnx hS0 hE hA1 bA hA hW hrb
    obtain ⟨nx, hnxd⟩ : ∃ nx, (if (i : Int) = r then [(j : Int)] else (R i).next) = nx := ⟨_, rfl⟩
    have HNd := hidIn hnxd
    have hnxl : nx.length ≤ 24 := by rw [← hnxd]; split; simp; exact hlen
    clear hnxd
    generalize wc = wd at *
    go_upto_if 21 with fail
    go_cut [7] (fun y wx => (∃ ya ycap, y = .slice ya nx.length ycap ∧ Hid (NxAt wx lo B (.slice ya nx.length ycap) nx)) ∧ Hid (Below wd.heap.size wd wx))
    case first =>
      by_cases hir : (i : Int) = r
      · have t1 : ((i : Int) == r) = true := by simpa using hir
        have hnxe : nx = [(j : Int)] := by rw [← HNd.out, if_pos hir]
        subst hnxe
        clear hir HNd
        go_wp2_with fail
        go_meet
        exact ⟨⟨_, _, rfl, hidIn (.inr ⟨wd.heap.size, 0, 1, rfl, by simp, by have := HAc.out.lt; omega, by have := HBc.out.size; omega, ⟨_, heap_alloc_last wd _⟩, fun q z hz => by rw [Nat.zero_add, cell_of_row _ _ q _ _ _ (heap_alloc_last wd _), show (#[Value.int .i64 (j : Int)] : Array Value)[q]? = ([(j : Int)].map (Value.int .i64))[q]? from by simp, List.getElem?_map, hz]; rfl⟩)⟩, hidIn ((Below.refl _ wd).alloc (Nat.le_refl _) _)⟩
      · have t1 : ((i : Int) == r) = false := by simpa using hir
        have hnxe : nx = (R i).next := by rw [← HNd.out, if_neg hir]
        subst hnxe
        clear hir HNd
        go_wp2_with fail
        go_meet
        exact ⟨⟨_, _, rfl, HNx⟩, hidIn (Below.refl _ _)⟩
    case rest =>
      obtain ⟨⟨ya, ycap, rfl, HY⟩, HBd⟩ := hcut
      have hF2 : Fr (fun k => k = B) wd wc := Fr.of_below HBd.out
      have hE2 := (HBd.out.block _ (block_lt HEc.out)).trans HEc.out
      have hA2 := HAc.out.keep HBd.out HAc.out.lt
      have hw2 := (HBd.out.block _ (block_lt Hbw.out)).trans Hbw.out
      have HW2 : Hid (∀ k, k < 25 → NxAt wc lo B (vs k) (R k).next) := hidIn fun k hk => (HWc.out k hk).fr hF2
      have HF2 := hidIn (HFc.out.trans hF2)
      have hbwB : bw ≠ B := by omega
      have hs2 : W1.heap.size ≤ wc.heap.size := Nat.le_trans HBc.out.size HBd.out.size
      clear l0 l1 r0 HWc HFc HEc HAc HBc Hbw HNx hF2 HBd
      have l1 := cell_of_row _ _ 1 _ _ _ hE2
      have x2 := cell_of_row _ _ 2 _ _ _ hw2
      simp at l1 x2
      have m0 := hA2.cell (j * 5 + 0)
      have m1 := hA2.cell (j * 5 + 1)
      have m2 := hA2.cell (j * 5 + 2)
      have m3 := hA2.cell (j * 5 + 3)
      have m4 := hA2.cell (j * 5 + 4)
      rw [gl_get hc5 hj (by omega)] at m0 m1 m2 m3 m4
      simp at m0 m1 m2 m3 m4
      obtain ⟨vja, vjc, hvj⟩ := (HW2.out j hj).shape
      rw [hvj] at m4
      have n0 := hA2.frozen (j * 5 + 0)
      have n1 := hA2.frozen (j * 5 + 1)
      have n2 := hA2.frozen (j * 5 + 2)
      have n3 := hA2.frozen (j * 5 + 3)
      have n4 := hA2.frozen (j * 5 + 4)
      simp only [Nat.add_zero] at n0
      have hRi := hR i
      have hl0 := hRi.l0
      have hl1 := hRi.l1
      have hm0 := hRi.m0
      have hm1 := hRi.m1
      have hwl : IntKind.i64.wrap ((R i).least + 1) = (R i).least + 1 := by rw [IntKind.wrap_i64]; omega
      have HE2 := hidIn hE2
      have HA2 := hidIn hA2
      have Hw2 := hidIn hw2
      obtain ⟨r1, hr1⟩ : ∃ r1 : Rr, (if (R j).node = 0 then ⟨(j : Int), C j, (R i).least + 1, 0, []⟩ else R j) = r1 := ⟨_, rfl⟩
      have Hr1 := hidIn hr1
      clear hr1 hE2 hA2 hw2 hRi
      generalize wc = we at *
      go_upto_if 32 with fail
      go_cut [33] (fun _ wx => Hid (∃ vs1 : Nat → Value, Arr wx B 94 (gl fun k => rrc (putV R j r1 k) (vs1 k)) ∧ (∀ k, k < 25 → NxAt wx lo B (vs1 k) (putV R j r1 k).next) ∧ Fr (fun k => k = B) we wx))
      case first =>
        by_cases hz : (R j).node = 0
        · have t1 : ((R j).node == 0) = true := by simpa using hz
          have Hz := hidIn hz
          clear hz
          have HF3 := (((((Fr.refl (fun k => k = B) we).set (p := ⟨B, j * 5, none⟩) rfl (.int .i64 (j : Int))).set (p := ⟨B, j * 5 + 1, none⟩) rfl (.int .i64 (C j))).set (p := ⟨B, j * 5 + 2, none⟩) rfl (.int .i64 ((R i).least + 1))).set (p := ⟨B, j * 5 + 3, none⟩) rfl (.int .i64 0)).set (p := ⟨B, j * 5 + 4, none⟩) rfl (.slice none 0 0)
          have H3 := hidIn HF3
          clear HF3
          go_wp2_with fail
          go_meet
          refine hidIn ⟨putV vs j (.slice none 0 0), ?_, fun k hk => ?_, H3.out⟩
          · have := HA2.out.five hj r1 (.slice none 0 0)
            rw [← Hr1.out, if_pos Hz.out] at this ⊢
            exact this
          · by_cases hkj : k = j
            · subst hkj
              rw [putV_same, putV_same, ← Hr1.out, if_pos Hz.out]
              exact .inl ⟨rfl, rfl⟩
            · rw [putV_other _ _ hkj, putV_other _ _ hkj]
              exact (HW2.out k hk).fr H3.out
        · have t1 : ((R j).node == 0) = false := by simpa using hz
          have hrr : r1 = R j := by rw [← Hr1.out, if_neg hz]
          have Hrr := hidIn hrr
          clear hz hrr
          go_wp2_with fail
          go_meet
          refine hidIn ⟨vs, ?_, fun k hk => ?_, Fr.refl _ _⟩
          · rw [Hrr.out, putV_self]; exact HA2.out
          · rw [Hrr.out, putV_self]; exact HW2.out k hk
      case rest =>
        obtain ⟨vs1, hA3, hW3, hF3⟩ := hcut.out
        clear hcut m0 m1 m2 m3 m4 n0 n1 n2 n3 n4 l1 x2 HW2 HA2 hvj
        have hc51 : ∀ k, (rrc (putV R j r1 k) (vs1 k)).length = 5 := fun _ => rfl
        have hw3 := (hF3.block bw (block_lt Hw2.out) hbwB).trans Hw2.out
        have x2 := cell_of_row _ _ 2 _ _ _ hw3
        simp at x2
        have m2 := hA3.cell (j * 5 + 2)
        rw [gl_get hc51 hj (by omega)] at m2
        simp only [putV_same] at m2
        simp at m2
        have n2 := hA3.frozen (j * 5 + 2)
        have HA3 := hidIn hA3
        have HW3 := hidIn hW3
        have HF3 := hidIn hF3
        clear hA3 hW3 hF3 hw3
        generalize wc = wf at *
        go_upto_region 7 with fail
        go_region
        have HA4 : Hid (Arr (wf.setCell ⟨B, j * 5 + 2, none⟩ (.int .i64 (min r1.least ((R i).least + 1)))).drew B 94 (gl fun k => rrc (putV R j ⟨r1.node, r1.cost, min r1.least ((R i).least + 1), r1.most, r1.next⟩ k) (vs1 k))) := hidIn (by
          have := HA3.out.oneR hj (show 2 < 5 by omega) (.int .i64 (min r1.least ((R i).least + 1))) ⟨r1.node, r1.cost, min r1.least ((R i).least + 1), r1.most, r1.next⟩ (vs1 j) (by rw [putV_same]; rfl)
          rw [putV_putV, putV_self] at this
          exact this)
        have HF4 := hidIn (((Fr.refl (fun k => k = B) wf).set (p := ⟨B, j * 5 + 2, none⟩) rfl (.int .i64 (min r1.least ((R i).least + 1)))).drew)
        clear m2 n2 x2 hwl
        generalize World.drew _ = wg at HA4 HF4 ⊢
        obtain ⟨r2, hr2⟩ : ∃ r2 : Rr, (⟨r1.node, r1.cost, min r1.least ((R i).least + 1), r1.most, r1.next⟩ : Rr) = r2 := ⟨_, rfl⟩
        have hr2m : r2.most = r1.most := by rw [← hr2]
        rw [hr2] at HA4
        have Hr2 := hidIn hr2
        have hw4 := (HF4.out.block bw (by have := HF3.out.size; have := block_lt Hw2.out; omega) hbwB).trans ((HF3.out.block bw (block_lt Hw2.out) hbwB).trans Hw2.out)
        have x3 := cell_of_row _ _ 3 _ _ _ hw4
        simp at x3
        have m3 := HA4.out.cell (j * 5 + 3)
        rw [gl_get (cs := fun k => rrc (putV R j r2 k) (vs1 k)) (fun _ => rfl) hj (by omega)] at m3
        simp only [putV_same] at m3
        simp at m3
        rw [hr2m] at m3
        have n3 := HA4.out.frozen (j * 5 + 3)
        have hwm : IntKind.i64.wrap ((R i).most + 1) = (R i).most + 1 := by rw [IntKind.wrap_i64]; omega
        clear hr2 hr2m hw4
        go_upto_region 8 with fail
        go_region
        have HA5 : Hid (Arr (wg.setCell ⟨B, j * 5 + 3, none⟩ (.int .i64 (max r1.most ((R i).most + 1)))).drew B 94 (gl fun k => rrc (putV R j ⟨r2.node, r2.cost, r2.least, max r1.most ((R i).most + 1), r2.next⟩ k) (vs1 k))) := hidIn (by
          have := HA4.out.oneR hj (show 3 < 5 by omega) (.int .i64 (max r1.most ((R i).most + 1))) ⟨r2.node, r2.cost, r2.least, max r1.most ((R i).most + 1), r2.next⟩ (vs1 j) (by rw [putV_same]; rfl)
          rw [putV_putV, putV_self] at this
          exact this)
        have HF5 := hidIn (HF4.out.trans (((Fr.refl (fun k => k = B) wg).set (p := ⟨B, j * 5 + 3, none⟩) rfl (.int .i64 (max r1.most ((R i).most + 1)))).drew))
        clear m3 n3 x3 hwm
        generalize World.drew _ = wh at HA5 HF5 ⊢
        obtain ⟨r3, hr3⟩ : ∃ r3 : Rr, (⟨r2.node, r2.cost, r2.least, max r1.most ((R i).most + 1), r2.next⟩ : Rr) = r3 := ⟨_, rfl⟩
        rw [hr3] at HA5
        have hr3e : r3 = ⟨r1.node, r1.cost, min r1.least ((R i).least + 1), max r1.most ((R i).most + 1), r1.next⟩ := by rw [← hr3, ← Hr2.out]
        have Hr3 := hidIn hr3e
        have hFh := HF3.out.trans HF5.out
        have hj1 := (HW3.out j hj).fr HF5.out
        rw [putV_same] at hj1
        have hy1 := HY.out.fr hFh
        have hr1n : r1.next.length ≤ 24 := by
          rw [← Hr1.out]
          split
          · simp
          · exact rise_len (hR j).np (hR j).nb
        have HJ := hidIn (joined_any (hj1.sl (by omega)).1 (hy1.sl (by omega)).1 (hj1.sl (by omega)).2 (hy1.sl (by omega)).2 (by omega) (by omega))
        have HWh : Hid (∀ k, k < 25 → NxAt wh lo B (vs1 k) (putV R j r1 k).next) := hidIn fun k hk => (HW3.out k hk).fr HF5.out
        obtain ⟨vka, vkc, hvk⟩ := hj1.shape
        have m4 := HA5.out.cell (j * 5 + 4)
        rw [gl_get (cs := fun k => rrc (putV R j r3 k) (vs1 k)) (fun _ => rfl) hj (by omega)] at m4
        simp at m4
        rw [hvk] at m4 HJ
        have HFh := hidIn hFh
        have hBh : B < wh.heap.size := HA5.out.lt
        have hloh : lo ≤ wh.heap.size := by have h1 := hFh.size; omega
        have Hvk := hidIn hvk
        clear hr3 hr3e hFh hj1 hy1 hvk
        go_wp2_with fail
        refine HJ.out.mono ?_
        rintro e w9 ⟨⟨ja, jcap, rfl, hrow⟩, hb9⟩
        have hA9 := HA5.out.keep hb9 HA5.out.lt
        have HN9 := hidIn (nxAt_row (lo := lo) (B := B) hrow hBh hloh)
        have m4' := hA9.cell (j * 5 + 4)
        rw [gl_get (cs := fun k => rrc (putV R j r3 k) (vs1 k)) (fun _ => rfl) hj (by omega)] at m4'
        simp at m4'
        have n4 := hA9.frozen (j * 5 + 4)
        have HA9 := hidIn hA9
        have HF9 : Hid (Fr (fun k => k = B) wh w9) := hidIn (Fr.of_below hb9)
        clear m4 HJ hrow hb9 hA9
        obtain ⟨jl, hjl⟩ : ∃ jl, joinL r1.next nx = jl := ⟨_, rfl⟩
        rw [hjl] at HN9 ⊢
        have Hjl := hidIn hjl
        clear hjl
        go_wp2_with fail
        go_returns
        have hrch : rchE r C R ((i : Int), (j : Int), d) = putV R j ⟨r1.node, r1.cost, min r1.least ((R i).least + 1), max r1.most ((R i).most + 1), jl⟩ := by
          unfold rchE
          simp only [Int.toNat_natCast]
          rw [Hr1.out, HNd.out, Hjl.out]
        have hFs := (Fr.refl (fun k => k = B) w9).set (p := ⟨B, j * 5 + 4, none⟩) rfl (.slice ja jl.length jcap)
        refine ⟨⟨_, rfl⟩, ?_, ((HF2.out.trans HFh.out).trans HF9.out).trans hFs⟩
        rw [hrch]
        refine ⟨putV vs1 j (.slice ja jl.length jcap), ?_, fun k hk => ?_⟩
        · have := HA9.out.oneR hj (show 4 < 5 by omega) (.slice ja jl.length jcap) ⟨r1.node, r1.cost, min r1.least ((R i).least + 1), max r1.most ((R i).most + 1), jl⟩ (.slice ja jl.length jcap) (by rw [putV_same, Hr3.out]; rfl)
          rw [putV_putV] at this
          exact this
        · by_cases hkj : k = j
          · subst hkj
            rw [putV_same, putV_same]
            exact HN9.out.fr hFs
          · have h1 := ((HWh.out k hk).fr HF9.out).fr hFs
            rw [putV_other _ _ hkj] at h1
            rw [putV_other _ _ hkj, putV_other _ _ hkj]
            exact h1
end Go.Proofs.YtgeoghhajjlofaaGreatDoor
namespace Go.Proofs.YtgeoghhajjlofaaGreatDoor
open Go.RowKit

theorem enter31 (args : Array Value) (w : World) : (callFunc 39 args).run Tryz.prog w = .ok (Next.enter 39 args) w := by kernel_rfl
/-- Who keeps what is known of the nodes. -/
def fromS {ns : List Int} {es : List Ed} (hok : graphOk ns es = true) (r : Int) (lo B rb : Nat) (hne : rb ≠ B) : TellS es r where
  f := 39
  caps := #[.pointer (some ⟨B, 0, none⟩), .pointer (some ⟨rb, 0, none⟩)]
  C := fun k => k = B
  I := fun T w => ∃ C : Nat → Int, (∀ e ∈ T, e ∈ es ∧ Ds es r e.2.1 (C e.2.1.toNat)) ∧ RcM w lo B (rchT r C T) ∧ w.heap[rb]? = some (.cells #[.int .i64 r] 3) ∧ lo ≤ w.heap.size
  call := fun T e c w hT ht hI => by
    obtain ⟨a, b, d⟩ := e
    obtain ⟨C, hC, hM, hrb, hlo⟩ := hI
    have hbd := graphOk_bd hok
    have he := hbd.2.1 _ ht.1
    have ha := hbd.1 _ he.1
    have hb := hbd.1 _ he.2
    simp only at ha hb
    have hagree : ∀ e ∈ T, C e.2.1.toNat = putV C b.toNat c e.2.1.toNat := fun e hme => by
      by_cases heb : e.2.1.toNat = b.toNat
      · rw [heb, putV_same]
        have h1 := (hC e hme).2
        have h2 := hbd.1 _ (hbd.2.1 _ (hC e hme).1).2
        have h3 : e.2.1 = b := by omega
        rw [h3] at h1
        exact h1.uniq ht.2.2
      · rw [putV_other _ _ heb]
    rw [rchT_congr hagree] at hM
    have hok' := rchT_ok r (putV C b.toNat c) T (fun e hme => hbd.1 _ (hbd.2.1 _ (hC e hme).1).2)
    have hcall := from1_any (C := putV C b.toNat c) (d := d) ha hb hM hok' hT hlo hrb
    rw [putV_same] at hcall
    refine hcall.mono fun x w' h => ⟨h.1, ⟨putV C b.toNat c, ?_, ?_, ?_, Nat.le_trans hlo h.2.2.size⟩, h.2.2⟩
    · intro e hme
      rcases List.mem_append.1 hme with h1 | h1
      · exact ⟨(hC e h1).1, by rw [← hagree e h1]; exact (hC e h1).2⟩
      · rw [List.mem_singleton.1 h1]
        exact ⟨ht.1, by show Ds es r b _; rw [show (((a, b, d) : Ed).2.1).toNat = b.toNat from rfl, putV_same]; exact ht.2.2⟩
    · rw [rchT_snoc]
      exact h.2.1
    · exact (h.2.2.block rb (block_lt hrb) hne).trans hrb
  keep := fun T w w' hI hb => by
    obtain ⟨C, hC, hM, hrb, hlo⟩ := hI
    exact ⟨C, hC, hM.keep hb, (hb.block _ (block_lt hrb)).trans hrb, Nat.le_trans hlo hb.size⟩
  enter := enter31
theorem infoR25 : (Tryz.prog.info? 94).map (fun i => (i.zero, i.size)) = some (some (.agg (gl fun _ => rrc noR (.slice none 0 0)).toArray), 125) := by kernel_rfl
theorem zeroR25 (w : World) : (zeroValue 94).run Tryz.prog w = .ok (.agg (gl fun _ => rrc noR (.slice none 0 0)).toArray) w := (zero_of_info infoR25).1 w
theorem underR25 : Tryz.prog.underlying 94 = some (.array 25 64) := by kernel_rfl
theorem sizeR25 {cs : Nat → List Value} (hc : ∀ i, (cs i).length = 5) : (Tryz.prog.info? 94).map (·.size) = some (gl cs).length := by rw [gl_len hc]; kernel_rfl
theorem l_loadR25 {ops : Array Oper} {rest : List Oper} {o : Oper} {a : Act} {w : World} {Q : Exit → Act → World → Prop} (hgd : o.guard = none) (x : Operand) (ho : o.op = .load 94 x)
    (b : Nat) (cs : Nat → List Value) (hc : ∀ i, (cs i).length = 5) (hx : a.eval x = .pointer (some ⟨b, 0, none⟩)) (hA : Arr w b 94 (gl cs))
    (h : wpList Tryz.prog ops Q rest (a.put o.dst (.agg (gl cs).toArray)) w) : wpList Tryz.prog ops Q (o :: rest) a w :=
  wpList_load_mid hgd 94 x ho b 0 hx (gl cs) (.array 25 64) hA.range underR25 rfl (sizeR25 hc) h
theorem infoReach : (Tryz.prog.info? 64).map (fun i => (i.zero, i.size, i.bytes)) = some (some (.agg #[.int .i64 0, .int .i64 0, .int .i64 0, .int .i64 0, .slice none 0 0]), 5, 56) := by kernel_rfl
theorem underReach : ∃ fs, Tryz.prog.underlying 64 = some (.struct fs) := ⟨_, Tryz.underlying64⟩
theorem indexR25 (cs : Nat → List Value) (hc : ∀ i, (cs i).length = 5) {k : Nat} (hk : k < 25) (w : World) : (Instr.index 94 (.agg (gl cs).toArray) (.int .i64 k)).run Tryz.prog w = .ok (.agg (cs k).toArray) w := by
  obtain ⟨i0, hi, hz0, hz1, hz2⟩ := info_parts infoReach
  have hkl : (k : Int) < 25 := by omega
  simp [Instr.index, asIntOf, go_sem, run_underlying underR25, hk]
  apply List.ext_getElem?
  intro m
  rw [List.getElem?_take]
  by_cases hm : m < 5
  · rw [if_pos hm, List.getElem?_drop, gl_get hc hk hm]
  · rw [if_neg hm, List.getElem?_eq_none (by rw [hc]; omega)]
abbrev rwc (x : Rr × Value) : List Value := rrc x.1 x.2
/-- One more. -/
theorem append_rch {W : World} {base k : Nat} {u : Value} {l : List (Rr × Value)} (hr : W.ownsRow base 64 5 u k (fl rwc l)) (x : Rr × Value) (hx : x.2.oneCell' = true) (hk : (k + 1) * 56 ≤ 140737488355328) (hbase : base ≤ W.heap.size) :
    ∃ g cap w6, (Builtin.append_ #[57, 57] 57 #[u, .slice (some ⟨W.heap.size, 0, none⟩) 1 1]).run Tryz.prog (W.alloc (.cells (rwc x).toArray 64)) = .ok (.slice (some ⟨g, 0, none⟩) (k + 1) cap) w6 ∧
      w6.ownsRow base 64 5 (.slice (some ⟨g, 0, none⟩) (k + 1) cap) (k + 1) (fl rwc (l ++ [x])) ∧ Below base W w6 := by
  obtain ⟨i0, hi, hz0, hz1, hz2⟩ := info_parts infoReach
  obtain ⟨g, cap, w6, hrun, hown, hgrow, _, _⟩ := run_append_lies (P := Tryz.prog) (W.alloc (.cells (rwc x).toArray 64)) 57 57 base 64 i0 _ 5 56 Tryz.underlying57 hi hz0 hz1 hz2 rfl (by decide) u k (fl rwc l) (hr.alloc _) ⟨W.heap.size, 0, none⟩ 1 1 (rwc x) rfl (fun j v hv => by
    rw [Addr.add_mid, Nat.zero_add, cell_of_row _ _ j (rwc x).toArray 64 (0, 0) (heap_alloc_last W _)]
    simpa using hv) (by simp only [rwc, rrc, List.mem_cons, List.not_mem_nil, or_false]; rintro u (rfl | rfl | rfl | rfl | rfl) <;> first | rfl | exact hx) (by omega) (by unfold maxLen; omega) hk (by simp; omega) (W.heap.size + 1) (by simp)
  refine ⟨g, cap, w6, hrun, by rw [fl_snoc]; exact hown, ?_⟩
  exact ((Below.refl _ W).alloc hbase _).grown hgrow (by simp; omega) (fun j e => by
    rcases hr.2 with ⟨rfl, _⟩ | ⟨g', cap', cur, rfl, hb, _⟩
    · simp [Value.ownBlock] at e
    · simp [Value.ownBlock] at e; omega)
/-- The nodes that are come to, with what is known of them. -/
def outR (R : Nat → Rr) (vs : Nat → Value) (n : Nat) : List (Rr × Value) := ((List.range n).filter fun i => !decide ((R i).node = 0)).map fun i => (R i, vs i)
theorem outR_succ (R : Nat → Rr) (vs : Nat → Value) (n : Nat) : outR R vs (n + 1) = outR R vs n ++ (if (R n).node = 0 then [] else [(R n, vs n)]) := by
  by_cases h : (R n).node = 0 <;> simp [outR, List.range_succ, List.filter_append, h]
theorem outR_len (R : Nat → Rr) (vs : Nat → Value) (n : Nat) : (outR R vs n).length ≤ n := by
  unfold outR
  rw [List.length_map]
  exact Nat.le_trans (List.length_filter_le _ _) (by simp)
/-- What From answers where nothing is wrong. -/
def FromAns (w w' : World) (es : List Ed) (r : Int) (e : Ending) : Prop :=
  ∃ P C vs, IsNear es r P ∧ NdOk P ∧ (∀ e ∈ told es P P, e ∈ es ∧ Ds es r e.2.1 (C e.2.1.toNat)) ∧ ∃ u mid B, e = .returned (.tuple #[u, .int .i64 0]) ∧ w.heap.size ≤ mid ∧ w'.ownsRow mid 64 5 u (outR (rchT r C (told es P P)) vs 25).length (fl rwc (outR (rchT r C (told es P P)) vs 25)) ∧ ∀ i, i < 25 → NxAt w' w.heap.size B (vs i) (rchT r C (told es P P) i).next ∧ ∀ k, (vs i).ownBlock = some k → k < mid
set_option maxRecDepth 100000 in
set_option maxHeartbeats 4000000 in
theorem from_any {ns : List Int} {es : List Ed} {vn ve : Value} {w : World} (h : GrAt w vn ve ns es) (r : Int) :
    Calls Tryz.prog 17 #[grV vn ve, .int .i64 r] w fun e w' => ((ndAll ns es [r] = false ∧ e = .returned (.tuple #[.slice none 0 0, .int .i64 2])) ∨ (ndAll ns es [r] = true ∧ FromAns w w' es r e)) ∧ Below w.heap.size w w' := by
  have HG0 := hidIn h
  obtain ⟨ea, eca, rfl, _⟩ := h.e
  obtain ⟨na, nca, rfl, _⟩ := h.n
  have hz := zeroR25
  obtain ⟨W1, hW1⟩ : ∃ W1, (w.alloc (.cells #[.slice na ns.length nca, .slice ea es.length eca] 53)).alloc (.cells #[.int .i64 r] 3) = W1 := ⟨_, rfl⟩
  have bA : Below w.heap.size w W1 := by rw [← hW1]; exact ((Below.refl _ w).alloc (Nat.le_refl _) _).alloc (by simp) _
  have hGB : W1.heap[w.heap.size]? = some (.cells #[.slice na ns.length nca, .slice ea es.length eca] 53) := by rw [← hW1, Below.heap_alloc _ _ _ (by simp)]; exact heap_alloc_last w _
  have hRB : W1.heap[w.heap.size + 1]? = some (.cells #[.int .i64 r] 3) := by
    rw [← hW1]
    have := heap_alloc_last (w.alloc (.cells #[.slice na ns.length nca, .slice ea es.length eca] 53)) (.cells #[.int .i64 r] 3)
    rw [World.size_alloc] at this
    exact this
  have HK : Hid (∀ wq, Below W1.heap.size W1 wq → ((wq.cell? ⟨w.heap.size, 0, none⟩ = some (.slice na ns.length nca) ∧ wq.cell? ⟨w.heap.size, 1, none⟩ = some (.slice ea es.length eca)) ∧ wq.heap[w.heap.size + 1]? = some (.cells #[.int .i64 r] 3)) ∧ Below w.heap.size w wq) := hidIn fun wq h => by
    have j0 := (h.block _ (block_lt hGB)).trans hGB
    exact ⟨⟨⟨cell_of_row _ _ 0 _ _ _ j0, cell_of_row _ _ 1 _ _ _ j0⟩, (h.block _ (block_lt hRB)).trans hRB⟩, bA.trans (h.mono bA.size)⟩
  obtain ⟨b1, hb1⟩ : ∃ b1, ndAll ns es [r] = b1 := ⟨_, rfl⟩
  have b2 := bA.alloc (o := .cells #[.int .i64 r] 3) bA.size
  have hC := areNodes_any (l := [r]) (HG0.out.keep b2 (Nat.le_refl _)) (slAt_block (cs := ic) (sz := 1) (fun _ => rfl) (T := 3) (heap_alloc_last W1 (.cells #[.int .i64 r] 3)) (by simp))
  rw [hb1] at hC
  have HC := hidIn hC
  have Hb1 := hidIn hb1
  have HW := hidIn hW1
  have hlt1 := block_lt hRB
  clear hW1 bA hGB hRB h hb1 hC b2
  obtain ⟨⟨⟨g0, g1⟩, hr0⟩, _⟩ := HK.out W1 (Below.refl _ _)
  have r0 := cell_of_row _ _ 0 _ _ _ hr0
  simp at r0
  clear hr0
  go_enter Tryz.func17, Tryz.ntmps17
  go_upto_region 1 with fail
  rw [HW.out]
  clear HW
  go_wp2_with fail
  refine HC.out.mono ?_
  rintro e w2 ⟨rfl, hb2⟩
  have HB2 : Hid (Below W1.heap.size W1 w2) := hidIn (((Below.refl _ W1).alloc (Nat.le_refl _) _).trans (hb2.mono (by simp)))
  clear hb2 HC g0 g1 r0
  obtain ⟨⟨⟨g0, g1⟩, hr0⟩, hbw⟩ := HK.out w2 HB2.out
  cases b1
  · have HBw := hidIn hbw
    clear hbw hr0
    go_wp2_with fail
    go_ret2
    exact ⟨.inl ⟨Hb1.out, rfl⟩, HBw.out⟩
  have hnd := Hb1.out
  simp only [ndAll, List.all_cons, List.all_nil, Bool.and_true, Bool.and_eq_true] at hnd
  obtain ⟨hok, ha⟩ := hnd
  have har := (graphOk_bd hok).1 _ (hasN_iff.1 ha)
  have Hok := hidIn hok
  have HMa := hidIn (hasN_iff.1 ha)
  clear hok ha
  obtain ⟨i, rfl⟩ : ∃ i : Nat, r = (i : Int) := ⟨r.toNat, by omega⟩
  have hi : i < 25 := by omega
  have hii : (i : Int) < 25 := by omega
  obtain ⟨V2, hV2⟩ : ∃ V2, w2.alloc (.cells (gl fun _ => rrc noR (.slice none 0 0)).toArray 94) = V2 := ⟨_, rfl⟩
  have hA2 : Arr V2 w2.heap.size 94 (gl fun _ => rrc noR (.slice none 0 0)) := by rw [← hV2]; exact arr_new w2 _ _
  have bV : Below w2.heap.size w2 V2 := by rw [← hV2]; exact (Below.refl _ w2).alloc (Nat.le_refl _) _
  have hbl2 : w.heap.size + 1 < w2.heap.size := block_lt hr0
  have hrV := (bV.block _ hbl2).trans hr0
  have r0 := cell_of_row _ _ 0 _ _ _ hrV
  simp at r0
  have mA := hA2.cell (i * 5 + 0)
  rw [gl_get (cs := fun _ => rrc noR (.slice none 0 0)) (fun _ => rfl) hi (by omega)] at mA
  simp at mA
  have mF := hA2.frozen (i * 5 + 0)
  simp only [Nat.add_zero] at mF
  have HW := hidIn hV2
  clear hV2 hr0 g0 g1
  go_upto_region 4 with fail
  rw [HW.out]
  clear HW hz
  obtain ⟨W3, hW3⟩ : ∃ W3, V2.setCell ⟨w2.heap.size, i * 5, none⟩ (.int .i64 (i : Int)) = W3 := ⟨_, rfl⟩
  have hA3 : Arr W3 w2.heap.size 94 (gl fun k => rrc (rchT (i : Int) (fun _ => 0) [] k) (.slice none 0 0)) := by
    rw [← hW3]
    have h1 := Arr.oneR (R := fun _ => noR) (vs := fun _ => .slice none 0 0) hA2 hi (show 0 < 5 by omega) (.int .i64 (i : Int)) ⟨(i : Int), 0, 0, 0, []⟩ (.slice none 0 0) rfl
    rw [show putV (fun _ => Value.slice none 0 0) i (.slice none 0 0) = fun _ => Value.slice none 0 0 from putV_self (fun _ => Value.slice none 0 0) i] at h1
    exact h1
  have b23 : Below w2.heap.size w2 W3 := by rw [← hW3]; exact bV.setCell (p := ⟨w2.heap.size, i * 5, none⟩) (Nat.le_refl _) _
  have HB3 := hidIn (HB2.out.trans (b23.mono HB2.out.size))
  obtain ⟨⟨⟨g0, g1⟩, hr3⟩, hbw3⟩ := HK.out W3 HB3.out
  have hM3 : RcM W3 w.heap.size w2.heap.size (rchT (i : Int) (fun _ => 0) []) := ⟨fun _ => .slice none 0 0, hA3, fun k hk => .inl ⟨by unfold rchT putV; simp only [List.foldl_nil]; split <;> rfl, rfl⟩⟩
  have hne : w.heap.size + 1 ≠ w2.heap.size := by omega
  have HAl := hidIn (along_any (w0 := w) (w := W3) HG0.out Hok.out HMa.out hbw3 (fromS Hok.out (i : Int) w.heap.size w2.heap.size (w.heap.size + 1) hne) (fun k hk => by have hk' : k = w2.heap.size := hk; have := hbw.size; have := hA3.lt; omega) ⟨fun _ => 0, fun e he => by simp at he, hM3, hr3, hbw3.size⟩)
  have r3 := cell_of_row _ _ 0 _ _ _ hr3
  simp at r3
  have HW := hidIn hW3
  have hws := hbw.size
  have hwl := hA3.lt
  clear hW3 hA3 hA2 bV b23 hbw hM3 hr3 hrV
  go_upto_region 5 with fail
  rw [HW.out]
  clear HW mA mF r0
  go_wp2_with fail
  refine HAl.out.mono ?_
  rintro e w4 ⟨⟨v4, rfl⟩, ⟨P, hP, hN, C, hC, hM4, hr4, hlo4⟩, hF⟩
  have HBw4 := hidIn (hbw3.trans (hF.below hbw3.size (fun k hk => by have hk' : k = w2.heap.size := hk; omega)))
  obtain ⟨vs, hA4, hW4⟩ := hM4
  have HPs := hidIn (And.intro hP (And.intro hN hC))
  obtain ⟨R, hR⟩ : ∃ R, rchT (i : Int) C (told es P P) = R := ⟨_, rfl⟩
  rw [hR] at hA4 hW4
  have HR := hidIn hR
  have HA4 := hidIn hA4
  have HW4 := hidIn hW4
  clear hP hN hC hr4 hF HAl g0 g1 r3 hA4 hW4 hR
  go_wp2_with (refine l_loadR25 rfl _ rfl _ (fun k => rrc (R k) (vs k)) (fun _ => rfl) rfl HA4.out ?_)
  have HIX : Hid (∀ k : Nat, k < 25 → ∀ w, (Instr.index 94 (.agg (gl fun k => rrc (R k) (vs k)).toArray) (.int .i64 k)).run Tryz.prog w = .ok (.agg (rrc (R k) (vs k)).toArray) w) := hidIn fun k hk w => indexR25 (fun k => rrc (R k) (vs k)) (fun _ => rfl) hk w
  generalize Value.agg (gl fun k => rrc (R k) (vs k)).toArray = AG at HIX ⊢
  clear HA4
  go_loopw [7, 24] (fun u j wr => ∃ k : Nat, k ≤ 25 ∧ j = .int .i64 k ∧ (∃ a cap, u = .slice a (outR R vs k).length cap ∧ Hid (wr.ownsRow w4.heap.size 64 5 (.slice a (outR R vs k).length cap) (outR R vs k).length (fl rwc (outR R vs k)))) ∧ Hid (Below w4.heap.size w4 wr)) (fun _ j _ => 25 - (intOf j).toNat)
  case atStart => exact ⟨0, Nat.zero_le _, rfl, ⟨none, 0, rfl, hidIn (World.ownsRow_nil _ _ _ _)⟩, hidIn (Below.refl _ _)⟩
  case round =>
    obtain ⟨k, hk25, rfl, ⟨ua, ucap, rfl, HU⟩, HB⟩ := hrel
    by_cases hk : k < 25
    · have hkk : (k : Int) < 25 := by omega
      obtain ⟨va, vcap, hvk⟩ := (HW4.out k hk).shape
      have hix := HIX.out k hk
      rw [hvk] at hix
      have HO := hidIn (outR_succ R vs k)
      have HL := hidIn (outR_len R vs k)
      obtain ⟨L, hL⟩ : ∃ L, outR R vs k = L := ⟨_, rfl⟩
      have Hvk := hidIn hvk
      rw [hL] at HU HO HL
      simp only [hL]
      clear hvk
      obtain ⟨x, hx⟩ : ∃ x, R k = x := ⟨_, rfl⟩
      rw [hx] at hix HO
      have HX := hidIn hx
      have HLe := hidIn hL
      clear hL hx
      have hix' : ∀ w, (Instr.index 94 AG (.int .i64 k)).run Tryz.prog w = .ok (.agg #[.int .i64 x.node, .int .i64 x.cost, .int .i64 x.least, .int .i64 x.most, .slice va x.next.length vcap]) w := hix
      clear hix
      obtain ⟨V5, hV5⟩ : ∃ V5, wr.alloc (.cells #[.int .i64 x.node, .int .i64 x.cost, .int .i64 x.least, .int .i64 x.most, .slice va x.next.length vcap] 64) = V5 := ⟨_, rfl⟩
      have bV : Below w4.heap.size w4 V5 := by rw [← hV5]; exact HB.out.alloc HB.out.size _
      have hX5 : V5.heap[wr.heap.size]? = some (.cells #[.int .i64 x.node, .int .i64 x.cost, .int .i64 x.least, .int .i64 x.most, .slice va x.next.length vcap] 64) := by rw [← hV5]; exact heap_alloc_last wr _
      have hU5 := HU.out.alloc (.cells #[.int .i64 x.node, .int .i64 x.cost, .int .i64 x.least, .int .i64 x.most, .slice va x.next.length vcap] 64)
      rw [hV5] at hU5
      have x0 := cell_of_row _ _ 0 _ _ _ hX5
      have x1 := cell_of_row _ _ 1 _ _ _ hX5
      have x2 := cell_of_row _ _ 2 _ _ _ hX5
      have x3 := cell_of_row _ _ 3 _ _ _ hX5
      have x4 := cell_of_row _ _ 4 _ _ _ hX5
      simp at x0 x1 x2 x3 x4
      have HU5 := hidIn hU5
      have HB5 := hidIn bV
      have HW := hidIn hV5
      clear hV5 bV hU5 hX5 HU HB
      go_upto_region 10 with fail
      rw [HW.out]
      clear HW hix'
      by_cases h0 : x.node = 0
      · have HE : Hid (outR R vs (k + 1) = L) := hidIn (by rw [HO.out, if_pos h0, List.append_nil])
        go_wp2_with fail
        go_roundw
        case rel => exact ⟨k + 1, by omega, by go_num, ⟨_, _, by rw [HE.out], hidIn (by rw [HE.out]; exact HU5.out)⟩, HB5⟩
        case measure => simp [intOf]; omega
      · have HE : Hid (outR R vs (k + 1) = L ++ [(x, .slice va x.next.length vcap)]) := hidIn (by rw [HO.out, if_neg h0, Hvk.out, HX.out])
        have hll := HL.out
        obtain ⟨g, gcap, w6, hrun, hown, hb6⟩ := append_rch HU5.out (x, .slice va x.next.length vcap) rfl (by omega) HB5.out.size
        have HRun := hidIn hrun
        have HO6 := hidIn hown
        have HB6 := hidIn (HB5.out.trans hb6)
        clear hrun hown hb6
        go_wp2_with (refine l_append rfl _ _ 57 rfl HRun.out ?_)
        go_roundw
        case rel => exact ⟨k + 1, by omega, by go_num, ⟨_, _, by rw [HE.out, List.length_append]; rfl, hidIn (by rw [HE.out, List.length_append]; exact HO6.out)⟩, HB6⟩
        case measure => simp [intOf]; omega
    · have hk2 : k = 25 := by omega
      subst hk2
      have hni : ¬ ((25 : Int) < 25) := by omega
      have HBw := hidIn (HBw4.out.trans (HB.out.mono HBw4.out.size))
      have HAns : Hid (FromAns w wr es (i : Int) (.returned (.tuple #[.slice ua (outR R vs 25).length ucap, .int .i64 0]))) := hidIn (by
        obtain ⟨hP, hN, hC⟩ := HPs.out
        refine ⟨P, C, vs, hP, hN, hC, _, w4.heap.size, w2.heap.size, rfl, HBw4.out.size, by rw [HR.out]; exact HU.out, fun n hn => ?_⟩
        rw [HR.out]
        refine ⟨(HW4.out n hn).fr (Fr.of_below HB.out), fun q hq => ?_⟩
        rcases HW4.out n hn with ⟨_, e⟩ | ⟨g, o, cap, e, _, _, _, ⟨cur, hcu⟩, _⟩
        · rw [e] at hq; simp [Value.ownBlock] at hq
        · have hlt := block_lt hcu
          rw [e] at hq; simp [Value.ownBlock] at hq; omega)
      clear HU HB
      go_wp2_with fail
      go_ret2
      exact ⟨.inr ⟨Hb1.out, HAns.out⟩, HBw.out⟩
end Go.Proofs.YtgeoghhajjlofaaGreatDoor
namespace Go.Proofs.YtgeoghhajjlofaaGreatDoor
open Go.RowKit

/-- By their places, none behind a later one. -/
def Plc (l : List Rw) : Prop := l.Pairwise fun x y => ¬ (y.1 < x.1 ∨ (y.1 = x.1 ∧ y.2.1 < x.2.1))
abbrev cmpF : Value := .func (.func 46) #[] #[]
theorem sortU_any {w : World} {base : Nat} {u : Value} {l : List Rw} (h : w.ownsRow base 67 4 u l.length (fl rwcs l)) (hl : l.length ≤ 100000) :
    Calls Tryz.prog 45 #[u, cmpF] w fun e w' => e = .returned (.tuple #[]) ∧ ∃ l' : List Rw, l'.Perm l ∧ Plc l' ∧ w'.ownsRow base 67 4 u l.length (fl rwcs l') ∧ Fr (fun j => u.ownBlock = some j) w w' := by
  rcases h.2 with ⟨rfl, h0⟩ | ⟨g, cap, cur, rfl, _⟩
  · have hn : l = [] := List.length_eq_zero_iff.1 h0
    subst hn
    have hcon := AnyF.slices_SortFunc_none Tryz.sortR none 0 cmpF w
    change Calls Tryz.prog 45 _ _ _ at hcon
    refine hcon.mono fun e w' ⟨he, hw⟩ => ⟨he, [], List.Perm.refl _, List.Pairwise.nil, ?_, ?_⟩
    · rw [hw]; exact h
    · rw [hw]; exact Fr.refl _ _
  · refine (sortR_any h hl).mono fun e w' ⟨he, l', h1, h2, h3, h4⟩ => ⟨he, l', h1, h2, h3, h4.mono fun k _ hk => ?_⟩
    rw [hk]
    rfl
theorem infoEnt : (Tryz.prog.info? 46).map (fun i => (i.zero, i.size, i.bytes)) = some (some (.agg #[.int .i64 0, .int .i64 0, .int .i64 0, .slice none 0 0]), 4, 48) := by kernel_rfl
/-- One entry more. -/
theorem append_ent {W : World} {base k : Nat} {u : Value} {l : List Rw} (hr : W.ownsRow base 46 4 u k (fl rwcs l)) (x : Rw) (hk : (k + 1) * 48 ≤ 140737488355328) (hbase : base ≤ W.heap.size) :
    ∃ g cap w6, (Builtin.append_ #[27, 27] 27 #[u, .slice (some ⟨W.heap.size, 0, none⟩) 1 1]).run Tryz.prog (W.alloc (.cells (rwcs x).toArray 46)) = .ok (.slice (some ⟨g, 0, none⟩) (k + 1) cap) w6 ∧
      w6.ownsRow base 46 4 (.slice (some ⟨g, 0, none⟩) (k + 1) cap) (k + 1) (fl rwcs (l ++ [x])) ∧ Below base W w6 := by
  obtain ⟨i0, hi, hz0, hz1, hz2⟩ := info_parts infoEnt
  obtain ⟨g, cap, w6, hrun, hown, hgrow, _, _⟩ := run_append_lies (P := Tryz.prog) (W.alloc (.cells (rwcs x).toArray 46)) 27 27 base 46 i0 _ 4 48 Tryz.underlying27 hi hz0 hz1 hz2 rfl (by decide) u k (fl rwcs l) (hr.alloc _) ⟨W.heap.size, 0, none⟩ 1 1 (rwcs x) rfl (fun j v hv => by
    rw [Addr.add_mid, Nat.zero_add, cell_of_row _ _ j (rwcs x).toArray 46 (0, 0) (heap_alloc_last W _)]
    simpa using hv) (by simp only [rwcs, List.mem_cons, List.not_mem_nil, or_false]; rintro u (rfl | rfl | rfl | rfl) <;> rfl) (by omega) (by unfold maxLen; omega) hk (by simp; omega) (W.heap.size + 1) (by simp)
  refine ⟨g, cap, w6, hrun, by rw [fl_snoc]; exact hown, ?_⟩
  exact ((Below.refl _ W).alloc hbase _).grown hgrow (by simp; omega) (fun j e => by
    rcases hr.2 with ⟨rfl, _⟩ | ⟨g', cap', cur, rfl, hb, _⟩
    · simp [Value.ownBlock] at e
    · simp [Value.ownBlock] at e; omega)
theorem SlAt.rws {w : World} {v : Value} {l : List Rw} (h : SlAt rwcs 4 w v l) : ∃ a cap, v = .slice a l.length cap ∧ l.length ≤ 9223372036854775807 ∧ l.length ≤ cap ∧ (0 < l.length → ∃ bk o, a = some ⟨bk, o, none⟩ ∧ bk < w.heap.size ∧ ∀ j x, l[j]? = some x → w.cell? ⟨bk, o + j * 4, none⟩ = some (.int .i64 x.1) ∧ w.cell? ⟨bk, o + j * 4 + 1, none⟩ = some (.int .i64 x.2.1) ∧ w.cell? ⟨bk, o + j * 4 + 2, none⟩ = some (.int .i64 x.2.2.1) ∧ w.cell? ⟨bk, o + j * 4 + 3, none⟩ = some (rwS x)) := by
  obtain ⟨a, cap, rfl, h0, h1, h2⟩ := h
  refine ⟨a, cap, rfl, h0, h1, fun hp => ?_⟩
  obtain ⟨bk, o, h3, h4, h5⟩ := h2 hp
  exact ⟨bk, o, h3, h4, fun j x hx => ⟨h5 j x hx 0 _ rfl, h5 j x hx 1 _ rfl, h5 j x hx 2 _ rfl, h5 j x hx 3 _ rfl⟩⟩
set_option maxRecDepth 100000 in
set_option maxHeartbeats 4000000 in
theorem inOrder_any {w : World} {base : Nat} {u : Value} {l : List Rw} (h : w.ownsRow base 67 4 u l.length (fl rwcs l)) (hl : l.length ≤ 100000) :
    Calls Tryz.prog 20 #[u] w fun e w' => (∃ l' u', e = .returned u' ∧ l'.Perm l ∧ Plc l' ∧ w'.ownsRow w.heap.size 46 4 u' l'.length (fl rwcs l')) ∧ Fr (fun j => u.ownBlock = some j) w w' := by
  obtain ⟨ua, uc, rfl⟩ := row_shape h
  have HS := hidIn (sortU_any h hl)
  obtain ⟨ln, hln⟩ : ∃ ln, l.length = ln := ⟨_, rfl⟩
  rw [hln] at HS hl ⊢
  have Hln := hidIn hln
  clear h hln
  go_enter Tryz.func20, Tryz.ntmps20
  go_wp2_with fail
  refine HS.out.mono ?_
  rintro e w2 ⟨rfl, l', hp, hs, hr, hF⟩
  have hl' : l'.length = ln := by rw [hp.length_eq]; exact Hln.out
  have HP := hidIn (And.intro hp hs)
  have HF := hidIn hF
  have HR := hidIn (slAt_of_row (cs := rwcs) (fun _ => rfl) hr hl')
  have Hl' := hidIn hl'
  clear hp hs hr hF hl' HS
  go_wp2_with fail
  go_loopw [3, 10] (fun ov j wr => ∃ (k : Nat) (oa : Option Addr) (oc : Nat), k ≤ ln ∧ j = .int .i64 k ∧ ov = .slice oa k oc ∧ Hid (Below w2.heap.size w2 wr ∧ wr.ownsRow w2.heap.size 46 4 (.slice oa k oc) k (fl rwcs (l'.take k)))) (fun _ j _ => ln - (intOf j).toNat)
  case atStart => exact ⟨0, none, 0, Nat.zero_le _, rfl, rfl, hidIn ⟨Below.refl _ _, World.ownsRow_nil _ _ _ _⟩⟩
  case round =>
    obtain ⟨k, oa, oc, hk, rfl, rfl, HM⟩ := hrel
    obtain ⟨hb, hro⟩ := HM.out
    clear HM
    by_cases hlt : k < ln
    · have hki : (k : Int) < (ln : Int) := by omega
      obtain ⟨a', c', he, _, _, hc⟩ := (HR.out.keep hb (Nat.le_refl _)).rws
      obtain ⟨bk, o, h1, hbk, hcell⟩ := hc (by have := Hl'.out; omega)
      simp only [Value.slice.injEq] at he
      obtain ⟨hea, hxx, hyy⟩ := he
      rw [h1] at hea
      subst hea
      clear hxx h1 hyy
      obtain ⟨x, hx⟩ : ∃ x, l'[k]? = some x := ⟨l'[k]'(by have := Hl'.out; omega), List.getElem?_eq_getElem _⟩
      obtain ⟨t0, t1, t2, t3⟩ := hcell k x hx
      have Ht : Hid (l'.take (k + 1) = l'.take k ++ [x]) := hidIn (take_snoc hx)
      obtain ⟨x0, x1, x2, x3, x4, x5⟩ := x
      simp only at t0 t1 t2 t3
      obtain ⟨w3, hw3⟩ : ∃ w3, wr.alloc (.cells #[.int .i64 x0, .int .i64 x1, .int .i64 x2, .slice x3 x4 x5] 67) = w3 := ⟨_, rfl⟩
      have b3 : Below wr.heap.size wr w3 := by rw [← hw3]; exact (Below.refl _ wr).alloc (Nat.le_refl _) _
      have hz : w3.heap[wr.heap.size]? = some (.cells #[.int .i64 x0, .int .i64 x1, .int .i64 x2, .slice x3 x4 x5] 67) := by rw [← hw3]; exact heap_alloc_last wr _
      have hB3 := hb.trans (b3.mono hb.size)
      obtain ⟨q3, hq3⟩ : ∃ q3, wr.heap.size = q3 := ⟨_, rfl⟩
      rw [hq3] at hz
      have z0 := cell_of_row _ _ 0 _ _ _ hz
      have z1 := cell_of_row _ _ 1 _ _ _ hz
      have z2 := cell_of_row _ _ 2 _ _ _ hz
      have z3 := cell_of_row _ _ 3 _ _ _ hz
      simp at z0 z1 z2 z3
      obtain ⟨g9, gc9, w9, hrun, hown, hb9⟩ := append_ent (row_below hro b3 (Nat.le_refl _)) (x0, x1, x2, x3, x4, x5) (by omega) hB3.size
      have HRun := hidIn hrun
      have HO := hidIn (And.intro (hB3.trans hb9) hown)
      have HW3 := hidIn hw3
      clear hcell hx hc hrun hown hb9 hB3 b3 hw3 hz hb hro hbk
      go_upto_region 6 with fail
      rw [HW3.out]
      clear HW3 hq3 t0 t1 t2 t3
      go_wp2_with (refine l_append rfl _ _ 27 rfl HRun.out ?_)
      go_roundw
      case rel => exact ⟨k + 1, _, gc9, by omega, by go_num, rfl, hidIn (by rw [Ht.out]; exact HO.out)⟩
      case measure => simp [intOf]; omega
    · have hki : ¬ ((k : Int) < (ln : Int)) := by omega
      have hkl : k = ln := by omega
      have HE : Hid ((∃ l'' u', Ending.returned (.slice oa k oc) = .returned u' ∧ l''.Perm l ∧ Plc l'' ∧ wr.ownsRow w.heap.size 46 4 u' l''.length (fl rwcs l'')) ∧ Fr (fun j => (Value.slice ua ln uc).ownBlock = some j) w wr) := hidIn (by
        rw [List.take_of_length_le (by have := Hl'.out; omega)] at hro
        refine ⟨⟨l', _, rfl, HP.out.1, HP.out.2, ?_⟩, HF.out.trans (Fr.of_below hb)⟩
        have h9 := row_low hro HF.out.size
        rw [Hl'.out]
        rw [hkl] at h9 ⊢
        exact h9)
      clear hb hro hkl
      go_wp2_with fail
      go_ret
      exact HE.out
end Go.Proofs.YtgeoghhajjlofaaGreatDoor
namespace Go.Proofs.YtgeoghhajjlofaaGreatDoor
open Go.RowKit

theorem SlAt.rchs {w : World} {v : Value} {l : List (Rr × Value)} (h : SlAt rwc 5 w v l) : ∃ a cap, v = .slice a l.length cap ∧ l.length ≤ 9223372036854775807 ∧ l.length ≤ cap ∧ (0 < l.length → ∃ bk o, a = some ⟨bk, o, none⟩ ∧ bk < w.heap.size ∧ ∀ j x, l[j]? = some x → w.cell? ⟨bk, o + j * 5, none⟩ = some (.int .i64 x.1.node) ∧ w.cell? ⟨bk, o + j * 5 + 1, none⟩ = some (.int .i64 x.1.cost) ∧ w.cell? ⟨bk, o + j * 5 + 2, none⟩ = some (.int .i64 x.1.least) ∧ w.cell? ⟨bk, o + j * 5 + 3, none⟩ = some (.int .i64 x.1.most) ∧ w.cell? ⟨bk, o + j * 5 + 4, none⟩ = some x.2) := by
  obtain ⟨a, cap, rfl, hl, hc, h⟩ := h
  refine ⟨a, cap, rfl, hl, hc, fun h0 => ?_⟩
  obtain ⟨bk, o, rfl, hb, h⟩ := h h0
  exact ⟨bk, o, rfl, hb, fun j x hx => ⟨h j x hx 0 _ rfl, h j x hx 1 _ rfl, h j x hx 2 _ rfl, h j x hx 3 _ rfl, h j x hx 4 _ rfl⟩⟩
theorem SlAt.shape {w : World} {v : Value} {l : List Int} (h : SlAt ic 1 w v l) : ∃ a cap, v = .slice a l.length cap := by
  obtain ⟨a, cap, rfl, _⟩ := h
  exact ⟨a, cap, rfl⟩
/-- A copy. -/
theorem clone_any {w : World} {v : Value} {l : List Int} (h : SlAt ic 1 w v l) (hn : NilOk v) (hl : l.length * 8 ≤ 140737488355328) :
    Calls Tryz.prog 62 #[v] w fun e w' => (∃ v', e = .returned v' ∧ w'.ownsRow w.heap.size 3 1 v' l.length (fl ic l)) ∧ Below w.heap.size w w' := by
  obtain ⟨a, cap, rfl, _, _, hc⟩ := h.ints
  rcases hn with ⟨p, n, c, he⟩ | he
  · simp only [Value.slice.injEq] at he
    obtain ⟨rfl, rfl, rfl⟩ := he
    by_cases h0 : 0 < l.length
    · obtain ⟨bk, o, hp, hb, hc2⟩ := hc h0
      simp only [Option.some.injEq] at hp
      subst hp
      refine (Tryz.slices_Clone_int bk o l.length cap l w (Nat.le_refl _) hl (fun j hj => ?_)).mono ?_
      · rw [hc2 j l[j] (List.getElem?_eq_getElem hj)]
        simp [List.getD_eq_getElem?_getD, List.getElem?_eq_getElem hj]
      · rintro e w' ⟨v', rfl, hr, _, hb'⟩
        rw [List.take_length, ← ints_map] at hr
        exact ⟨⟨v', rfl, hr⟩, hb'⟩
    · have hl0 : l = [] := List.length_eq_zero_iff.1 (by omega)
      subst hl0
      refine (Tryz.slices_Clone_int_zero p cap w).mono ?_
      rintro e w' ⟨v', rfl, hr, _, hb'⟩
      exact ⟨⟨v', rfl, hr⟩, hb'⟩
  · simp only [Value.slice.injEq] at he
    obtain ⟨rfl, h0, rfl⟩ := he
    have hl0 : l = [] := List.length_eq_zero_iff.1 h0
    subst hl0
    refine (Tryz.slices_Clone_int_nil 0 0 w).mono ?_
    rintro e w' ⟨rfl, rfl⟩
    exact ⟨⟨_, rfl, World.ownsRow_nil _ _ _ _⟩, Below.refl _ _⟩
abbrev rchV (x : Rr) (v : Value) : Value := .agg #[.int .i64 x.node, .int .i64 x.cost, .int .i64 x.least, .int .i64 x.most, v]
theorem of1_any {x : Rr} {a : Option Addr} {n c tb : Nat} {t : Int} {w : World} (h : w.heap[tb]? = some (.cells #[.int .i64 t] 3)) :
    Calls Tryz.prog 61 #[rchV x (.slice a n c), .pointer (some ⟨tb, 0, none⟩)] w fun e w' => e = .returned (.bool (x.node == t)) ∧ Below w.heap.size w w' := by
  obtain ⟨W1, hW1⟩ : ∃ W1, w.alloc (.cells #[.int .i64 x.node, .int .i64 x.cost, .int .i64 x.least, .int .i64 x.most, .slice a n c] 64) = W1 := ⟨_, rfl⟩
  have bA : Below w.heap.size w W1 := by rw [← hW1]; exact (Below.refl _ w).alloc (Nat.le_refl _) _
  have hX : W1.heap[w.heap.size]? = some (.cells #[.int .i64 x.node, .int .i64 x.cost, .int .i64 x.least, .int .i64 x.most, .slice a n c] 64) := by rw [← hW1]; exact heap_alloc_last w _
  have t0 := cell_of_row _ _ 0 _ _ _ ((bA.block _ (block_lt h)).trans h)
  have x0 := cell_of_row _ _ 0 _ _ _ hX
  simp at t0 x0
  have HB := hidIn bA
  have HW := hidIn hW1
  clear hW1 bA hX h
  go_enter Tryz.func61, Tryz.ntmps61
  go_upto_region 1 with fail
  rw [HW.out]
  clear HW
  go_wp2_with fail
  go_returns
  exact ⟨rfl, HB.out⟩
theorem enter37 (args : Array Value) (w : World) : (callFunc 61 args).run Tryz.prog w = .ok (Next.enter 61 args) w := by kernel_rfl
theorem indexF_any {l : List (Rr × Value)} {v : Value} {tb : Nat} {t : Int} {w0 w : World} (h : SlAt rwc 5 w0 v l) (hs : ∀ p ∈ l, ∃ a cap, p.2 = .slice a p.1.next.length cap) (hb : Below w0.heap.size w0 w) (ht : w.heap[tb]? = some (.cells #[.int .i64 t] 3)) :
    Calls Tryz.prog 60 #[v, .func (.func 61) #[] #[.pointer (some ⟨tb, 0, none⟩)]] w fun e w' =>
      ((∃ k x, l[k]? = some x ∧ x.1.node = t ∧ (∀ y ∈ l.take k, y.1.node ≠ t) ∧ e = .returned (.int .i64 (k : Nat))) ∨ ((∀ y ∈ l, y.1.node ≠ t) ∧ e = .returned (.int .i64 (-1)))) ∧ Below w.heap.size w w' := by
  obtain ⟨aa, ca, rfl, hla, _, hca⟩ := h.rchs
  have Hc := hidIn hca
  have Hs := hidIn hs
  have Hb := hidIn hb
  have Ht := hidIn ht
  have hE := enter37
  clear hca hs h hb ht
  go_enter Tryz.func60, Tryz.ntmps60
  go_wp2_with fail
  go_loopw [8] (fun i wr => ∃ k : Nat, k ≤ l.length ∧ i = .int .i64 k ∧ Hid (Below w.heap.size w wr ∧ ∀ y ∈ l.take k, y.1.node ≠ t)) (fun i _ => l.length - (intOf i).toNat)
  case atStart => exact ⟨0, Nat.zero_le _, rfl, hidIn ⟨Below.refl _ _, fun y hy => by simp at hy⟩⟩
  case round =>
    obtain ⟨k, hk, rfl, HR⟩ := hrel
    by_cases hlt : k < l.length
    · obtain ⟨bk, o, rfl, hbk, hc⟩ := Hc.out (by omega)
      obtain ⟨⟨x, xv⟩, hx⟩ : ∃ z, l[k]? = some z := ⟨l[k], List.getElem?_eq_getElem hlt⟩
      obtain ⟨va, vcap, hxv⟩ := Hs.out _ (List.mem_of_getElem? hx)
      simp only at hxv
      subst hxv
      have hbw := Hb.out.trans (HR.out.1.mono Hb.out.size)
      obtain ⟨q0, q1, q2, q3, q4⟩ := hc k _ hx
      have c0 := (hbw.cell (p := ⟨bk, o + k * 5, none⟩) hbk).trans q0
      have c1 := (hbw.cell (p := ⟨bk, o + k * 5 + 1, none⟩) hbk).trans q1
      have c2 := (hbw.cell (p := ⟨bk, o + k * 5 + 2, none⟩) hbk).trans q2
      have c3 := (hbw.cell (p := ⟨bk, o + k * 5 + 3, none⟩) hbk).trans q3
      have c4 := (hbw.cell (p := ⟨bk, o + k * 5 + 4, none⟩) hbk).trans q4
      simp only at c0 c1 c2 c3 c4
      have hki : (k : Int) < (l.length : Int) := by omega
      have HX := hidIn hx
      have HC := hidIn (of1_any (x := x) (a := va) (n := x.next.length) (c := vcap) ((HR.out.1.block _ (block_lt Ht.out)).trans Ht.out))
      clear hx hbw q0 q1 q2 q3 q4 hc
      go_wp2_with fail
      refine HC.out.mono ?_
      rintro e w3 ⟨rfl, hb3⟩
      have HB3 := hidIn (HR.out.1.trans (hb3.mono HR.out.1.size))
      clear hb3 HC c0 c1 c2 c3 c4
      by_cases hxt : x.node = t
      · have hbt : (x.node == t) = true := by simpa using hxt
        have HXt := hidIn hxt
        rw [hbt]
        clear hbt hxt
        go_wp2_with fail
        go_returns
        exact ⟨.inl ⟨k, _, HX.out, HXt.out, HR.out.2, rfl⟩, HB3.out⟩
      · have hbt : (x.node == t) = false := by simpa using hxt
        have HXt := hidIn hxt
        rw [hbt]
        clear hbt hxt
        go_wp2_with fail
        go_roundw
        case rel =>
          refine ⟨k + 1, by omega, by go_num, hidIn ⟨HB3.out, fun y hy => ?_⟩⟩
          rw [take_snoc HX.out] at hy
          rcases List.mem_append.1 hy with h1 | h1
          · exact HR.out.2 y h1
          · rw [List.mem_singleton.1 h1]
            exact HXt.out
        case measure => simp [intOf]; omega
    · have hk2 : k = l.length := by omega
      subst hk2
      have hni : ¬ ((l.length : Int) < (l.length : Int)) := by omega
      have HN : Hid (∀ y ∈ l, y.1.node ≠ t) := hidIn (by have := HR.out.2; rw [List.take_length] at this; exact this)
      go_wp2_with fail
      go_ret
      exact ⟨.inr ⟨fun a b h => HN.out _ h, rfl⟩, HR.out.1⟩
/-- What lies in a list of what is told. -/
structure RlAt (w : World) (v : Value) (l : List (Rr × Value)) : Prop where
  s : SlAt rwc 5 w v l
  n : ∀ p ∈ l, SlAt ic 1 w p.2 p.1.next ∧ NilOk p.2 ∧ p.1.next.length ≤ 10000
theorem RlAt.keep {w w' : World} {v : Value} {l : List (Rr × Value)} {B : Nat} (h : RlAt w v l) (hb : Below B w w') (hB : w.heap.size ≤ B) : RlAt w' v l :=
  ⟨h.s.keep hb hB, fun p hp => ⟨(h.n p hp).1.keep hb hB, (h.n p hp).2⟩⟩
theorem zeroRch (w : World) : (zeroValue 64).run Tryz.prog w = .ok (.agg #[.int .i64 0, .int .i64 0, .int .i64 0, .int .i64 0, .slice none 0 0]) w := (zero_of_info (by kernel_rfl : (Tryz.prog.info? 64).map (fun i => (i.zero, i.size)) = some (some (.agg #[.int .i64 0, .int .i64 0, .int .i64 0, .int .i64 0, .slice none 0 0]), 5))).1 w
theorem set5 {w : World} {b : Nat} {T : TypeId} {c0 c1 c2 c3 c4 : Value} (v0 v1 v2 v3 v4 : Value) (h : w.heap[b]? = some (.cells #[c0, c1, c2, c3, c4] T)) :
    (((((w.setCell ⟨b, 0, none⟩ v0).setCell ⟨b, 1, none⟩ v1).setCell ⟨b, 2, none⟩ v2).setCell ⟨b, 3, none⟩ v3).setCell ⟨b, 4, none⟩ v4).heap[b]? = some (.cells #[v0, v1, v2, v3, v4] T) := by
  have h1 := heap_setCell_same _ b 4 _ T v4 (heap_setCell_same _ b 3 _ T v3 (heap_setCell_same _ b 2 _ T v2 (heap_setCell_same _ b 1 _ T v1 (heap_setCell_same w b 0 _ T v0 h))))
  simpa using h1
theorem below5 {w w' : World} {B b : Nat} (v0 v1 v2 v3 v4 : Value) (h : Below B w w') (hb : B ≤ b) :
    Below B w (((((w'.setCell ⟨b, 0, none⟩ v0).setCell ⟨b, 1, none⟩ v1).setCell ⟨b, 2, none⟩ v2).setCell ⟨b, 3, none⟩ v3).setCell ⟨b, 4, none⟩ v4) :=
  ((((h.setCell (p := ⟨b, 0, none⟩) hb _).setCell (p := ⟨b, 1, none⟩) hb _).setCell (p := ⟨b, 2, none⟩) hb _).setCell (p := ⟨b, 3, none⟩) hb _).setCell (p := ⟨b, 4, none⟩) hb _
/-- What Of answers. -/
def OfAns (w' : World) (l : List (Rr × Value)) (t : Int) (e : Ending) : Prop :=
  (∃ k x v, l[k]? = some x ∧ x.1.node = t ∧ (∀ y ∈ l.take k, y.1.node ≠ t) ∧ e = .returned (.tuple #[rchV x.1 v, .bool true]) ∧ SlAt ic 1 w' v x.1.next ∧ NilOk v) ∨
  ((∀ y ∈ l, y.1.node ≠ t) ∧ e = .returned (.tuple #[rchV noR (.slice none 0 0), .bool false]))
/-- What Of answers, the first steps in a row of their own. -/
def OfRow (w w' : World) (l : List (Rr × Value)) (t : Int) (e : Ending) : Prop :=
  (∃ k x v B, l[k]? = some x ∧ x.1.node = t ∧ (∀ y ∈ l.take k, y.1.node ≠ t) ∧ e = .returned (.tuple #[rchV x.1 v, .bool true]) ∧ w.heap.size ≤ B ∧ w'.ownsRow B 3 1 v x.1.next.length (fl ic x.1.next)) ∨
  ((∀ y ∈ l, y.1.node ≠ t) ∧ e = .returned (.tuple #[rchV noR (.slice none 0 0), .bool false]))
theorem pof_row {l : List (Rr × Value)} {v : Value} {t : Int} {w : World} (h : RlAt w v l) :
    Calls Tryz.prog 41 #[v, .int .i64 t] w fun e w' => OfRow w w' l t e ∧ Below w.heap.size w w' := by
  have HR := hidIn h
  obtain ⟨aa, ca, rfl, hla, _, hca⟩ := h.s.rchs
  have Hc := hidIn hca
  obtain ⟨W1, hW1⟩ : ∃ W1, (w.alloc (.cells #[.int .i64 t] 3)).alloc (.cells #[.int .i64 0, .int .i64 0, .int .i64 0, .int .i64 0, .slice none 0 0] 64) = W1 := ⟨_, rfl⟩
  have bA : Below w.heap.size w W1 := by rw [← hW1]; exact ((Below.refl _ w).alloc (Nat.le_refl _) _).alloc (by simp) _
  have hT : W1.heap[w.heap.size]? = some (.cells #[.int .i64 t] 3) := by rw [← hW1, Below.heap_alloc _ _ _ (by simp)]; exact heap_alloc_last w _
  have hX : W1.heap[w.heap.size + 1]? = some (.cells #[.int .i64 0, .int .i64 0, .int .i64 0, .int .i64 0, .slice none 0 0] 64) := by
    rw [← hW1]
    have := heap_alloc_last (w.alloc (.cells #[.int .i64 t] 3)) (.cells #[.int .i64 0, .int .i64 0, .int .i64 0, .int .i64 0, .slice none 0 0] 64)
    rw [World.size_alloc] at this
    exact this
  have HI := hidIn (indexF_any h.s (fun p hp => (h.n p hp).1.shape) bA hT)
  have hz := zeroRch
  have HB := hidIn bA
  have HX := hidIn hX
  have HW := hidIn hW1
  clear h hca hW1 bA hT hX
  go_enter Tryz.func41, Tryz.ntmps41
  go_upto_region 1 with fail
  rw [HW.out]
  clear HW
  go_wp2_with fail
  refine HI.out.mono ?_
  rintro e w2 ⟨h2, hb2⟩
  have HX2 := hidIn ((hb2.block _ (block_lt HX.out)).trans HX.out)
  have HB2 := hidIn (HB.out.trans (hb2.mono HB.out.size))
  clear hb2 HI
  have x0 := cell_of_row _ _ 0 _ _ _ HX2.out
  have x1 := cell_of_row _ _ 1 _ _ _ HX2.out
  have x2 := cell_of_row _ _ 2 _ _ _ HX2.out
  have x3 := cell_of_row _ _ 3 _ _ _ HX2.out
  have x4 := cell_of_row _ _ 4 _ _ _ HX2.out
  simp at x0 x1 x2 x3 x4
  have f0 := frozen_new HX2.out 0
  have f1 := frozen_new HX2.out 1
  have f2 := frozen_new HX2.out 2
  have f3 := frozen_new HX2.out 3
  have f4 := frozen_new HX2.out 4
  rcases h2 with ⟨k, ⟨x, xv⟩, hx, hxt, hbe, rfl⟩ | ⟨hno, rfl⟩
  rotate_left
  · have HN := hidIn hno
    clear hno
    go_wp2_with fail
    have hV := set5 (.int .i64 0) (.int .i64 0) (.int .i64 0) (.int .i64 0) (.slice none 0 0) HX2.out
    have HBV := hidIn (below5 (b := w.heap.size + 1) (.int .i64 0) (.int .i64 0) (.int .i64 0) (.int .i64 0) (.slice none 0 0) HB2.out (by omega))
    generalize ((((w2.setCell _ _).setCell _ _).setCell _ _).setCell _ _).setCell _ _ = V at hV HBV ⊢
    clear x0 x1 x2 x3 x4 f0 f1 f2 f3 f4
    have e0 := cell_of_row _ _ 0 _ _ _ hV
    have e1 := cell_of_row _ _ 1 _ _ _ hV
    have e2 := cell_of_row _ _ 2 _ _ _ hV
    have e3 := cell_of_row _ _ 3 _ _ _ hV
    have e4 := cell_of_row _ _ 4 _ _ _ hV
    simp at e0 e1 e2 e3 e4
    exact bodyPost_ret (v := .tuple #[rchV noR (.slice none 0 0), .bool false]) (by simp [results, Tryz.results41, asAddr, Result.andThen, go_sem, e0, e1, e2, e3, e4, noR]) rfl ⟨.inr ⟨HN.out, rfl⟩, HBV.out⟩
  · obtain ⟨hs, hn, hl⟩ := HR.out.n _ (List.mem_of_getElem? hx)
    obtain ⟨va, vcap, hxv⟩ := hs.shape
    simp only at hs hn hl hxv
    subst hxv
    have hkl : k < l.length := (List.getElem?_eq_some_iff.1 hx).1
    have hki : (k : Int) < (l.length : Int) := by omega
    have hk0 : ¬ ((k : Int) < 0) := by omega
    obtain ⟨bk, o, rfl, hbk, hc⟩ := Hc.out (by omega)
    obtain ⟨q0, q1, q2, q3, q4⟩ := hc k _ hx
    have c0 := (HB2.out.cell (p := ⟨bk, o + k * 5, none⟩) hbk).trans q0
    have c1 := (HB2.out.cell (p := ⟨bk, o + k * 5 + 1, none⟩) hbk).trans q1
    have c2 := (HB2.out.cell (p := ⟨bk, o + k * 5 + 2, none⟩) hbk).trans q2
    have c3 := (HB2.out.cell (p := ⟨bk, o + k * 5 + 3, none⟩) hbk).trans q3
    have c4 := (HB2.out.cell (p := ⟨bk, o + k * 5 + 4, none⟩) hbk).trans q4
    simp only at c0 c1 c2 c3 c4
    obtain ⟨V3, hV3⟩ : ∃ V3, w2.alloc (.cells #[.int .i64 x.node, .int .i64 x.cost, .int .i64 x.least, .int .i64 x.most, .slice va x.next.length vcap] 64) = V3 := ⟨_, rfl⟩
    have b3 : Below w2.heap.size w2 V3 := by rw [← hV3]; exact (Below.refl _ w2).alloc (Nat.le_refl _) _
    have hY : V3.heap[w2.heap.size]? = some (.cells #[.int .i64 x.node, .int .i64 x.cost, .int .i64 x.least, .int .i64 x.most, .slice va x.next.length vcap] 64) := by rw [← hV3]; exact heap_alloc_last w2 _
    have hw2 : w.heap.size + 1 < w2.heap.size := block_lt HX2.out
    have HXB := hidIn (And.intro hx (And.intro hxt hbe))
    have HB3 := hidIn (HB2.out.trans (b3.mono HB2.out.size))
    have HX3 := hidIn ((b3.block _ hw2).trans HX2.out)
    have HCl := hidIn (clone_any (hs.keep HB3.out (Nat.le_refl _)) hn (by omega))
    have HY := hidIn hY
    have y4 := cell_of_row _ _ 4 _ _ _ hY
    simp at y4
    have HW := hidIn hV3
    clear hx hxt hbe hc q0 q1 q2 q3 q4 hV3 b3 hY hs hn x0 x1 x2 x3 x4 f0 f1 f2 f3 f4
    go_upto_region 5 with fail
    rw [HW.out]
    clear HW c0 c1 c2 c3 c4
    go_wp2_with fail
    refine HCl.out.mono ?_
    rintro e w4 ⟨⟨v', rfl, hrow⟩, hb4⟩
    obtain ⟨ra, rcap, rfl⟩ := row_shape hrow
    have hY4 := (hb4.block _ (block_lt HY.out)).trans HY.out
    have hX4 := (hb4.block _ (block_lt HX3.out)).trans HX3.out
    have f4 := frozen_new hY4 4
    have y4' := cell_of_row _ _ 4 _ _ _ hY4
    simp at y4'
    have HB4 := hidIn (HB3.out.trans (hb4.mono HB3.out.size))
    have hys : w2.heap.size < V3.heap.size := block_lt HY.out
    have HRow := hidIn hrow
    have HY4 := hidIn hY4
    have HX4 := hidIn hX4
    clear hrow hb4 HCl y4 hY4 hX4
    go_upto_region 6 with fail
    have hY5 := heap_setCell_same _ w2.heap.size 4 _ _ (.slice ra x.next.length rcap) HY4.out
    simp at hY5
    have hX5 := (Below.heap_setCell w4 ⟨w2.heap.size, 4, none⟩ (.slice ra x.next.length rcap) (w.heap.size + 1) (by show w.heap.size + 1 ≠ w2.heap.size; omega)).trans HX4.out
    have HB5 := hidIn (HB4.out.setCell (p := ⟨w2.heap.size, 4, none⟩) (by show w.heap.size ≤ w2.heap.size; omega) (.slice ra x.next.length rcap))
    have HF5 : Hid (Fr (fun k => k < V3.heap.size) w4 (w4.setCell ⟨w2.heap.size, 4, none⟩ (.slice ra x.next.length rcap))) := hidIn ((Fr.refl _ w4).set (p := ⟨w2.heap.size, 4, none⟩) hys _)
    generalize w4.setCell ⟨w2.heap.size, 4, none⟩ (.slice ra x.next.length rcap) = W5 at hY5 hX5 HB5 HF5 ⊢
    clear y4' f4 HY4 HX4
    have y0 := cell_of_row _ _ 0 _ _ _ hY5
    have y1 := cell_of_row _ _ 1 _ _ _ hY5
    have y2 := cell_of_row _ _ 2 _ _ _ hY5
    have y3 := cell_of_row _ _ 3 _ _ _ hY5
    have y4 := cell_of_row _ _ 4 _ _ _ hY5
    have x0 := cell_of_row _ _ 0 _ _ _ hX5
    have x1 := cell_of_row _ _ 1 _ _ _ hX5
    have x2 := cell_of_row _ _ 2 _ _ _ hX5
    have x3 := cell_of_row _ _ 3 _ _ _ hX5
    have x4 := cell_of_row _ _ 4 _ _ _ hX5
    simp at x0 x1 x2 x3 x4 y0 y1 y2 y3 y4
    have f0 := frozen_new hX5 0
    have f1 := frozen_new hX5 1
    have f2 := frozen_new hX5 2
    have f3 := frozen_new hX5 3
    have f4 := frozen_new hX5 4
    have HX5 := hidIn hX5
    clear hX5 hY5
    go_wp2_with fail
    have hV := set5 (.int .i64 x.node) (.int .i64 x.cost) (.int .i64 x.least) (.int .i64 x.most) (.slice ra x.next.length rcap) HX5.out
    have HBV := hidIn (below5 (b := w.heap.size + 1) (.int .i64 x.node) (.int .i64 x.cost) (.int .i64 x.least) (.int .i64 x.most) (.slice ra x.next.length rcap) HB5.out (by omega))
    have hc1 : w.heap.size + 1 < V3.heap.size := by omega
    have HFV := hidIn (((((HF5.out.set (p := ⟨w.heap.size + 1, 0, none⟩) hc1 (.int .i64 x.node)).set (p := ⟨w.heap.size + 1, 1, none⟩) hc1 (.int .i64 x.cost)).set (p := ⟨w.heap.size + 1, 2, none⟩) hc1 (.int .i64 x.least)).set (p := ⟨w.heap.size + 1, 3, none⟩) hc1 (.int .i64 x.most)).set (p := ⟨w.heap.size + 1, 4, none⟩) hc1 (.slice ra x.next.length rcap))
    generalize ((((W5.setCell _ _).setCell _ _).setCell _ _).setCell _ _).setCell _ _ = V at hV HBV HFV ⊢
    clear x0 x1 x2 x3 x4 f0 f1 f2 f3 f4
    have e0 := cell_of_row _ _ 0 _ _ _ hV
    have e1 := cell_of_row _ _ 1 _ _ _ hV
    have e2 := cell_of_row _ _ 2 _ _ _ hV
    have e3 := cell_of_row _ _ 3 _ _ _ hV
    have e4 := cell_of_row _ _ 4 _ _ _ hV
    simp at e0 e1 e2 e3 e4
    have hrow := row_fr HRow.out HFV.out (fun j hj e => by have := (HRow.out.lt j hj).1; have e' : j < V3.heap.size := e; omega)
    refine bodyPost_ret (v := .tuple #[rchV x (.slice ra x.next.length rcap), .bool true]) (by simp [results, Tryz.results41, asAddr, Result.andThen, go_sem, e0, e1, e2, e3, e4]) rfl ⟨.inl ⟨k, _, _, V3.heap.size, HXB.out.1, HXB.out.2.1, HXB.out.2.2, rfl, HB3.out.size, hrow⟩, HBV.out⟩
theorem pof_any {l : List (Rr × Value)} {v : Value} {t : Int} {w : World} (h : RlAt w v l) :
    Calls Tryz.prog 41 #[v, .int .i64 t] w fun e w' => OfAns w' l t e ∧ Below w.heap.size w w' := by
  refine (pof_row h).mono fun e w' ⟨h1, hb⟩ => ⟨?_, hb⟩
  rcases h1 with ⟨k, x, v, B, h1, h2, h3, h4, _, hrow⟩ | h1
  · refine .inl ⟨k, x, v, h1, h2, h3, h4, slAt_of_row (cs := ic) (fun _ => rfl) hrow rfl, ?_⟩
    rcases hrow.2 with ⟨h1, _⟩ | ⟨g, cap, cur, h1, _⟩
    · exact .inr h1
    · exact .inl ⟨_, _, _, h1⟩
  · exact .inr h1
end Go.Proofs.YtgeoghhajjlofaaGreatDoor
namespace Go.Proofs.YtgeoghhajjlofaaGreatDoor.Wi
open Go

/-- One bit up. -/
def sh1 (s : Nat) : Nat := if 32768 ≤ s then (s * 2 % 65536) ^^^ 4129 else s * 2 % 65536
def shN : Nat → Nat → Nat
  | 0, s => s
  | n + 1, s => sh1 (shN n s)
/-- One byte more. -/
def add1 (s c : Nat) : Nat := shN 8 (s ^^^ (c * 256))
/-- The sum of bytes, begun at s. -/
def crc (s : Nat) (l : List UInt8) : Nat := l.foldl (fun s c => add1 s c.toNat) s

theorem sh1_lt (s : Nat) : sh1 s < 65536 := by
  unfold sh1
  split
  · exact Nat.xor_lt_two_pow (n := 16) (Nat.mod_lt _ (by decide)) (by decide)
  · exact Nat.mod_lt _ (by decide)
theorem shN_lt (n s : Nat) (h : s < 65536) : shN n s < 65536 := by
  cases n with
  | zero => exact h
  | succ n => exact sh1_lt _
theorem in_lt {s c : Nat} (h : s < 65536) (hc : c < 256) : s ^^^ (c * 256) < 65536 := Nat.xor_lt_two_pow (n := 16) h (show c * 256 < 2 ^ 16 by omega)
theorem add1_lt {s c : Nat} (h : s < 65536) (hc : c < 256) : add1 s c < 65536 := shN_lt _ _ (in_lt h hc)
theorem crc_nil (s : Nat) : crc s [] = s := by unfold crc; rw [List.foldl_nil]
theorem crc_cons (s : Nat) (c : UInt8) (l : List UInt8) : crc s (c :: l) = crc (add1 s c.toNat) l := by unfold crc; rw [List.foldl_cons]
theorem crc_lt {s : Nat} (h : s < 65536) (l : List UInt8) : crc s l < 65536 := by
  induction l generalizing s with
  | nil => rw [crc_nil]; exact h
  | cons c l ih => rw [crc_cons]; exact ih (add1_lt h (by have := c.toNat_lt; omega))
theorem crc_append (s : Nat) (a b : List UInt8) : crc s (a ++ b) = crc (crc s a) b := by unfold crc; rw [List.foldl_append]
theorem crc_one (s : Nat) (c : UInt8) : crc s [c] = add1 s c.toNat := by rw [crc_cons, crc_nil]
theorem shN_add (m n s : Nat) : shN (m + n) s = shN m (shN n s) := by
  induction m with
  | zero => simp [shN]
  | succ m ih => rw [Nat.succ_add]; simp only [shN]; rw [ih]

/-- The model's words. -/
theorem u16_in (s c : Nat) (h : s < 65536) (hc : c < 256) : bits .xor .u16 (s : Int) (c * 256 % 65536 : Int) = ((s ^^^ (c * 256) : Nat) : Int) := by
  have e : ((c : Int) * 256 % 65536) = ((c * 256 : Nat) : Int) := by omega
  rw [e, u16_xor_nat _ _ h (by omega)]
theorem u16_high (s : Nat) (h : s < 65536) : bits .and .u16 (s : Int) 32768 = if 32768 ≤ s then 32768 else 0 := by
  have := u16_and_nat s 32768 h (by decide)
  rw [show ((32768 : Nat) : Int) = 32768 from rfl] at this
  rw [this, show (32768 : Nat) = 2 ^ 15 from rfl, nat_bit]
  have : s / 2 ^ 15 = 0 ∨ s / 2 ^ 15 = 1 := by omega
  split <;> omega
theorem u16_poly (s : Nat) (_ : s < 65536) : bits .xor .u16 (s * 2 % 65536 : Int) 4129 = (((s * 2 % 65536) ^^^ 4129 : Nat) : Int) := by
  have e : ((s : Int) * 2 % 65536) = ((s * 2 % 65536 : Nat) : Int) := by omega
  rw [e, show (4129 : Int) = ((4129 : Nat) : Int) from rfl, u16_xor_nat _ _ (Nat.mod_lt _ (by decide)) (by decide)]

/-- The top bit. -/
theorem top_iff {s : Nat} (h : s < 65536) : (32768 ≤ s) ↔ s.testBit 15 = true := by
  have hs : s / 32768 = 0 ∨ s / 32768 = 1 := by omega
  rw [Nat.testBit_eq_decide_div_mod_eq]
  simp only [decide_eq_true_eq]
  omega
theorem dbl_xor (a b : Nat) : (a ^^^ b) * 2 % 65536 = (a * 2 % 65536) ^^^ (b * 2 % 65536) := by
  have k : ∀ x : Nat, x * 2 % 65536 = (x <<< 1) % 2 ^ 16 := fun x => by rw [Nat.shiftLeft_eq]
  rw [k, k, k, Nat.shiftLeft_xor_distrib, Nat.xor_mod_two_pow]
theorem sh1_xor {a b : Nat} (ha : a < 65536) (hb : b < 65536) : sh1 (a ^^^ b) = sh1 a ^^^ sh1 b := by
  have hab : a ^^^ b < 65536 := Nat.xor_lt_two_pow (n := 16) ha hb
  have ta := top_iff ha
  have tb := top_iff hb
  have tc := top_iff hab
  rw [Nat.testBit_xor] at tc
  unfold sh1
  rw [dbl_xor]
  generalize a * 2 % 65536 = x
  generalize b * 2 % 65536 = y
  cases h1 : a.testBit 15 <;> cases h2 : b.testBit 15 <;> rw [h1] at ta tc <;> rw [h2] at tb tc <;> simp at ta tb tc
  · rw [if_neg (by omega), if_neg (by omega), if_neg (by omega)]
  · rw [if_pos (by omega), if_neg (by omega), if_pos (by omega), Nat.xor_assoc]
  · rw [if_pos (by omega), if_pos (by omega), if_neg (by omega), Nat.xor_assoc, Nat.xor_assoc, Nat.xor_comm y]
  · rw [if_neg (by omega), if_pos (by omega), if_pos (by omega), Nat.xor_assoc x, ← Nat.xor_assoc 4129, Nat.xor_comm 4129 y, Nat.xor_assoc y, Nat.xor_self, Nat.xor_zero]
theorem sh1_zero : sh1 0 = 0 := by decide
theorem sh1_ne {a : Nat} (ha : a < 65536) (h : a ≠ 0) : sh1 a ≠ 0 := by
  unfold sh1
  split
  · intro e
    have : ((a * 2 % 65536) ^^^ 4129).testBit 0 = true := by
      rw [Nat.testBit_xor, Nat.testBit_eq_decide_div_mod_eq]
      have : a * 2 % 65536 / 2 ^ 0 % 2 = 0 := by omega
      rw [this]
      decide
    rw [e] at this
    simp at this
  · omega
theorem shN_xor (n : Nat) {a b : Nat} (ha : a < 65536) (hb : b < 65536) : shN n (a ^^^ b) = shN n a ^^^ shN n b := by
  induction n with
  | zero => rfl
  | succ n ih => simp only [shN]; rw [ih, sh1_xor (shN_lt _ _ ha) (shN_lt _ _ hb)]
theorem shN_zero (n : Nat) : shN n 0 = 0 := by
  induction n with
  | zero => rfl
  | succ n ih => simp only [shN]; rw [ih]; decide
theorem shN_ne (n : Nat) {a : Nat} (ha : a < 65536) (h : a ≠ 0) : shN n a ≠ 0 := by
  induction n with
  | zero => exact h
  | succ n ih => exact sh1_ne (shN_lt _ _ ha) ih
theorem shN_inj (n : Nat) {a b : Nat} (ha : a < 65536) (hb : b < 65536) (h : shN n a = shN n b) : a = b := by
  have hab : a ^^^ b < 65536 := Nat.xor_lt_two_pow (n := 16) ha hb
  have hz : shN n (a ^^^ b) = 0 := by rw [shN_xor n ha hb, h, Nat.xor_self]
  have h0 : a ^^^ b = 0 := Decidable.byContradiction fun hne => shN_ne n hab hne hz
  have : a ^^^ b ^^^ b = b := by rw [h0, Nat.zero_xor]
  rwa [Nat.xor_assoc, Nat.xor_self, Nat.xor_zero] at this
end Go.Proofs.YtgeoghhajjlofaaGreatDoor.Wi
