/- From's closure. -/
import Derived.Test.YtbggingacoheiaaGreatDoorVQ0
namespace Go.Proofs.YtbggingacoheiaaGreatDoor
open Go.RowKit

/-- Twenty-five rows of five cells. -/
def gl (cs : Nat → List Value) : List Value := fl cs (List.range 25)
theorem gl_len {cs : Nat → List Value} (hc : ∀ i, (cs i).length = 5) : (gl cs).length = 125 := by unfold gl; rw [fl_length hc]; simp
theorem gl_get {cs : Nat → List Value} (hc : ∀ i, (cs i).length = 5) {j k : Nat} (hj : j < 25) (hk : k < 5) : (gl cs)[j * 5 + k]? = (cs j)[k]? := by
  unfold gl
  exact fl_get hc _ j k j (List.getElem?_range hj) hk
theorem putV_len {cs : Nat → List Value} (hc : ∀ i, (cs i).length = 5) (j : Nat) {l : List Value} (hl : l.length = 5) : ∀ i, (putV cs j l i).length = 5 := by
  intro i
  unfold putV
  split
  · exact hl
  · exact hc i
theorem gl_set {cs : Nat → List Value} (hc : ∀ i, (cs i).length = 5) {j k : Nat} (hj : j < 25) (hk : k < 5) (u : Value) : (gl cs).set (j * 5 + k) u = gl (putV cs j ((cs j).set k u)) := by
  have hc' := putV_len hc j (l := (cs j).set k u) (by rw [List.length_set]; exact hc j)
  apply List.ext_getElem?
  intro m
  rw [List.getElem?_set]
  by_cases hm : m < 125
  · obtain ⟨q, s, hq, hs, rfl⟩ : ∃ q s, q < 25 ∧ s < 5 ∧ m = q * 5 + s := ⟨m / 5, m % 5, by omega, by omega, by omega⟩
    rw [gl_get hc hq hs, gl_get hc' hq hs, gl_len hc]
    by_cases hqj : q = j
    · subst hqj
      rw [putV_same, List.getElem?_set]
      by_cases hsk : k = s
      · subst hsk
        rw [if_pos rfl, if_pos hm, if_pos rfl, if_pos (by rw [hc]; exact hk)]
      · rw [if_neg (by omega), if_neg hsk]
    · rw [if_neg (by omega), putV_other _ _ hqj]
  · rw [List.getElem?_eq_none (by rw [gl_len hc]; omega), List.getElem?_eq_none (by rw [gl_len hc']; omega), if_neg (by omega)]
/-- A list of its own, or nil; apart from block B. -/
def NxAt (w : World) (lo B : Nat) (v : Value) (l : List Int) : Prop :=
  (l = [] ∧ v = .slice none 0 0) ∨ ∃ g o cap, v = .slice (some ⟨g, o, none⟩) l.length cap ∧ l.length ≤ cap ∧ g ≠ B ∧ lo ≤ g ∧ (∃ cur, w.heap[g]? = some (.cells cur 3)) ∧ ∀ j z, l[j]? = some z → w.cell? ⟨g, o + j, none⟩ = some (.int .i64 z)
theorem NxAt.fr {w w' : World} {lo B : Nat} {v : Value} {l : List Int} (h : NxAt w lo B v l) (hF : Fr (fun k => k = B) w w') : NxAt w' lo B v l := by
  rcases h with h | ⟨g, o, cap, rfl, hc, hne, hlo, ⟨cur, hcu⟩, hcell⟩
  · exact .inl h
  · have hk := hF.block g (block_lt hcu) hne
    refine .inr ⟨g, o, cap, rfl, hc, hne, hlo, ⟨cur, hk.trans hcu⟩, fun j z hz => ?_⟩
    rw [World.cell?_of_block (a := ⟨g, o + j, none⟩) hk]
    exact hcell j z hz
theorem NxAt.sl {w : World} {lo B : Nat} {v : Value} {l : List Int} (h : NxAt w lo B v l) (hl : l.length ≤ 10000) : SlAt ic 1 w v l ∧ NilOk v := by
  rcases h with ⟨rfl, rfl⟩ | ⟨g, o, cap, rfl, hc, hne, hlo, ⟨cur, hcu⟩, hcell⟩
  · exact ⟨slAt_nil _ _ _, .inr rfl⟩
  · refine ⟨⟨_, cap, rfl, by omega, hc, fun _ => ⟨g, o, rfl, block_lt hcu, fun j z hz i u hu => ?_⟩⟩, .inl ⟨_, _, _, rfl⟩⟩
    have hi : i = 0 := by
      have := (List.getElem?_eq_some_iff.1 hu).1
      simp at this
      exact this
    subst hi
    simp at hu
    subst hu
    rw [Nat.mul_one, Nat.add_zero]
    exact hcell j z hz
theorem nxAt_row {w : World} {base lo B : Nat} {v : Value} {l : List Int} (hr : w.ownsRow base 3 1 v l.length (fl ic l)) (hB : B < base) (hlo : lo ≤ base) : NxAt w lo B v l := by
  rcases hr.2 with ⟨h1, h2⟩ | ⟨g, cap, cur, rfl, hg, hh, h1, _⟩
  · exact .inl ⟨List.length_eq_zero_iff.1 h2, h1⟩
  · refine .inr ⟨g, 0, cap, rfl, h1, by omega, by omega, ⟨cur, hh⟩, fun j z hz => ?_⟩
    have := hr.cells (g := g) rfl j (.int .i64 z) (by rw [ints_map, List.getElem?_map, hz]; rfl)
    rw [Addr.add_mid, Nat.zero_add] at this
    rw [Nat.zero_add]
    exact this
abbrev rrc (x : Rr) (v : Value) : List Value := [.int .i64 x.node, .int .i64 x.cost, .int .i64 x.least, .int .i64 x.most, v]
/-- The memory of From: what is known of each node. -/
def RcM (w : World) (lo B : Nat) (R : Nat → Rr) : Prop := ∃ vs : Nat → Value, Arr w B 124 (gl fun i => rrc (R i) (vs i)) ∧ ∀ i, i < 25 → NxAt w lo B (vs i) (R i).next
theorem RcM.keep {w w' : World} {lo B : Nat} {R : Nat → Rr} (h : RcM w lo B R) (hb : Below w.heap.size w w') : RcM w' lo B R := by
  obtain ⟨vs, hA, hW⟩ := h
  exact ⟨vs, hA.keep hb hA.lt, fun i hi => (hW i hi).fr (Fr.of_below hb)⟩
theorem NxAt.shape {w : World} {lo B : Nat} {v : Value} {l : List Int} (h : NxAt w lo B v l) : ∃ a cap, v = .slice a l.length cap := by
  rcases h with ⟨rfl, rfl⟩ | ⟨g, o, cap, rfl, _⟩
  · exact ⟨none, 0, rfl⟩
  · exact ⟨_, _, rfl⟩
/-- The array, one row put anew. -/
theorem gl_row {R : Nat → Rr} {vs : Nat → Value} {j : Nat} {x : Rr} {v : Value} {cs : Nat → List Value} (h : ∀ k, cs k = if k = j then rrc x v else rrc (R k) (vs k)) : gl cs = gl fun k => rrc (putV R j x k) (putV vs j v k) := by
  have : cs = fun k => rrc (putV R j x k) (putV vs j v k) := by
    funext k
    rw [h k]
    by_cases hk : k = j
    · subst hk; rw [if_pos rfl, putV_same, putV_same]
    · rw [if_neg hk, putV_other _ _ hk, putV_other _ _ hk]
  rw [this]
theorem Arr.five {w : World} {B j : Nat} {R : Nat → Rr} {vs : Nat → Value} (h : Arr w B 124 (gl fun i => rrc (R i) (vs i))) (hj : j < 25) (x : Rr) (v : Value) :
    Arr (((((w.setCell ⟨B, j * 5, none⟩ (.int .i64 x.node)).setCell ⟨B, j * 5 + 1, none⟩ (.int .i64 x.cost)).setCell ⟨B, j * 5 + 2, none⟩ (.int .i64 x.least)).setCell ⟨B, j * 5 + 3, none⟩ (.int .i64 x.most)).setCell ⟨B, j * 5 + 4, none⟩ v) B 124 (gl fun k => rrc (putV R j x k) (putV vs j v k)) := by
  have hc : ∀ i, ((fun i => rrc (R i) (vs i)) i).length = 5 := fun _ => rfl
  have h1 := ((((h.set (j * 5 + 0) (.int .i64 x.node)).set (j * 5 + 1) (.int .i64 x.cost)).set (j * 5 + 2) (.int .i64 x.least)).set (j * 5 + 3) (.int .i64 x.most)).set (j * 5 + 4) v
  rw [gl_set hc hj (by omega)] at h1
  rw [gl_set (putV_len hc j rfl) hj (by omega)] at h1
  rw [gl_set (putV_len (putV_len hc j rfl) j (by rw [putV_same]; rfl)) hj (by omega)] at h1
  rw [gl_set (putV_len (putV_len (putV_len hc j rfl) j (by rw [putV_same]; rfl)) j (by rw [putV_same, putV_same]; rfl)) hj (by omega)] at h1
  rw [gl_set (putV_len (putV_len (putV_len (putV_len hc j rfl) j (by rw [putV_same]; rfl)) j (by rw [putV_same, putV_same]; rfl)) j (by rw [putV_same, putV_same, putV_same]; rfl)) hj (by omega)] at h1
  rw [gl_row (R := R) (vs := vs) (j := j) (x := x) (v := v) (fun k => ?_)] at h1
  · exact h1
  · by_cases hk : k = j
    · subst hk
      simp only [putV_same, if_true]
      rfl
    · simp only [putV_other _ _ hk, if_neg hk]
theorem Arr.oneR {w : World} {B j f : Nat} {R : Nat → Rr} {vs : Nat → Value} (h : Arr w B 124 (gl fun i => rrc (R i) (vs i))) (hj : j < 25) (hf : f < 5) (u : Value) (x : Rr) (v : Value) (hx : (rrc (R j) (vs j)).set f u = rrc x v) :
    Arr (w.setCell ⟨B, j * 5 + f, none⟩ u) B 124 (gl fun k => rrc (putV R j x k) (putV vs j v k)) := by
  have h1 := h.set (j * 5 + f) u
  rw [gl_set (cs := fun i => rrc (R i) (vs i)) (fun _ => rfl) hj hf] at h1
  rw [gl_row (R := R) (vs := vs) (j := j) (x := x) (v := v) (fun k => ?_)] at h1
  · exact h1
  · by_cases hk : k = j
    · subst hk
      rw [putV_same, if_pos rfl]
      exact hx
    · rw [putV_other _ _ hk, if_neg hk]
theorem putV_self {α : Type} (c : Nat → α) (i : Nat) : putV c i (c i) = c := by
  funext k
  unfold putV
  split
  · rename_i h; rw [h]
  · rfl
theorem putV_putV {α : Type} (c : Nat → α) (i : Nat) (x y : α) : putV (putV c i x) i y = putV c i y := by
  funext k
  unfold putV
  split <;> rfl
set_option maxRecDepth 100000 in
set_option maxHeartbeats 8000000 in
theorem from1_any {lo B rb : Nat} {R : Nat → Rr} {C : Nat → Int} {a b d r : Int} {w : World} {N : Nat} (ha : 1 ≤ a ∧ a ≤ 24) (hb : 1 ≤ b ∧ b ≤ 24) (hM : RcM w lo B R) (hR : ∀ i, RrOk N (R i)) (hN : N ≤ 10000) (hlo : lo ≤ w.heap.size) (hrb : w.heap[rb]? = some (.cells #[.int .i64 r] 3)) :
    Calls Tryz.prog 80 #[edV (a, b, d), .int .i64 (C b.toNat), .pointer (some ⟨B, 0, none⟩), .pointer (some ⟨rb, 0, none⟩)] w fun x w' => (∃ v, x = .returned v) ∧ RcM w' lo B (rchE r C R (a, b, d)) ∧ Fr (fun k => k = B) w w' := by
  obtain ⟨i, rfl⟩ : ∃ i : Nat, a = (i : Int) := ⟨a.toNat, by omega⟩
  obtain ⟨j, rfl⟩ : ∃ j : Nat, b = (j : Int) := ⟨b.toNat, by omega⟩
  rw [Int.toNat_natCast]
  have hi : i < 25 := by omega
  have hj : j < 25 := by omega
  have hii : (i : Int) < 25 := by omega
  have hji : (j : Int) < 25 := by omega
  obtain ⟨vs, hA, hW⟩ := hM
  have hc5 : ∀ i, (rrc (R i) (vs i)).length = 5 := fun _ => rfl
  obtain ⟨W1, hW1⟩ : ∃ W1, w.alloc (.cells #[.int .i64 (i : Int), .int .i64 (j : Int), .int .i64 d] 122) = W1 := ⟨_, rfl⟩
  have bA : Below w.heap.size w W1 := by rw [← hW1]; exact (Below.refl _ w).alloc (Nat.le_refl _) _
  have hE : W1.heap[w.heap.size]? = some (.cells #[.int .i64 (i : Int), .int .i64 (j : Int), .int .i64 d] 122) := by rw [← hW1]; exact heap_alloc_last w _
  have hA1 := hA.keep bA hA.lt
  have hne : w.heap.size ≠ B := by have := hA.lt; omega
  have l0 := cell_of_row _ _ 0 _ _ _ hE
  simp at l0
  have m0 := hA1.cell (i * 5 + 0)
  have m1 := hA1.cell (i * 5 + 1)
  have m2 := hA1.cell (i * 5 + 2)
  have m3 := hA1.cell (i * 5 + 3)
  have m4 := hA1.cell (i * 5 + 4)
  rw [gl_get hc5 hi (by omega)] at m0 m1 m2 m3 m4
  simp at m0 m1 m2 m3 m4
  obtain ⟨va, vcap, hvi⟩ := (hW i hi).shape
  rw [hvi] at m4
  have HW := hidIn hW1
  clear hW1
  go_enter Tryz.func80, Tryz.ntmps80
  go_upto_region 1 with fail
  rw [HW.out]
  clear HW
  have HFW : Hid (Fr (fun k => k = B) w W1) := hidIn (Fr.of_below bA)
  generalize hbe : w.heap.size = be at *
  clear m0 m1 m2 m3 m4 l0
  have hS0 : W1.drew.heap[be]? = some (.cells #[.int .i64 (i : Int), .int .i64 (j : Int), .int .i64 d] 122) ∧ Arr W1.drew B 124 (gl fun i => rrc (R i) (vs i)) := ⟨hE, hA1⟩
  go_cut [6, 7] (fun x y wx => (∃ bw, x = .pointer (some ⟨bw, 0, none⟩) ∧ wx.heap[bw]? = some (.cells #[.int .i64 (R i).node, .int .i64 (R i).cost, .int .i64 (R i).least, .int .i64 (R i).most, .slice va (R i).next.length vcap] 73) ∧ W1.heap.size ≤ bw) ∧ y = .slice va (R i).next.length vcap ∧ Below W1.heap.size W1 wx)
  case first =>
    refine wp_region_held_drew (S := fun wx => wx.heap[be]? = some (.cells #[.int .i64 (i : Int), .int .i64 (j : Int), .int .i64 d] 122) ∧ Arr wx B 124 (gl fun i => rrc (R i) (vs i))) (by kernel_rfl) hS0 (fun hHeld => ?_)
    refine wpAnyH_take (i := 0) (v := ?_) rfl (by kernel_rfl) (by kernel_rfl) (by kernel_rfl) (fun _ _ _ h => h) (Or.inl ⟨by rfl, ?_⟩) (by assumption) ?_
    rotate_left
    · intro wq hSw
      clear hSw
      go_simp
      try (with_reducible rfl)
    refine wpAnyH_take (i := 1) (v := ?_) rfl (by kernel_rfl) (by kernel_rfl) (by kernel_rfl) (fun _ _ _ h => h) (Or.inl ⟨by rfl, ?_⟩) (by assumption) ?_
    rotate_left
    · intro wq hSw
      have z0 := cell_of_row _ _ 0 _ _ _ hSw.1
      simp at z0
      clear hSw
      go_simp
      try (with_reducible rfl)
    refine wpAnyH_take (i := 2) (v := ?_) rfl (by kernel_rfl) (by kernel_rfl) (by kernel_rfl) (fun _ _ _ h => h) (Or.inl ⟨by rfl, ?_⟩) (by assumption) ?_
    rotate_left
    · intro wq hSw
      clear hSw
      go_simp
      try (with_reducible rfl)
    refine wpAnyH_take (i := 3) (v := ?_) rfl (by kernel_rfl) (by kernel_rfl) (by kernel_rfl) (fun _ _ _ h => h) (Or.inl ⟨by rfl, ?_⟩) (by assumption) ?_
    rotate_left
    · intro wq hSw
      have z0 := hSw.2.cell (i * 5 + 0)
      have z1 := hSw.2.cell (i * 5 + 1)
      have z2 := hSw.2.cell (i * 5 + 2)
      have z3 := hSw.2.cell (i * 5 + 3)
      have z4 := hSw.2.cell (i * 5 + 4)
      rw [gl_get hc5 hi (by omega)] at z0 z1 z2 z3 z4
      simp at z0 z1 z2 z3 z4
      rw [hvi] at z4
      clear hSw
      go_simp
      try (with_reducible rfl)
    refine wpAnyH_take (i := 4) (v := ?_) rfl (by kernel_rfl) (by kernel_rfl) (by kernel_rfl) (fun _ _ _ h => h) (Or.inl ⟨by rfl, ?_⟩) (by assumption) ?_
    rotate_left
    · intro wq hSw
      clear hSw
      go_simp
      try (with_reducible rfl)
    refine wpAnyH_take (i := 5) (v := ?_) rfl (by kernel_rfl) (by kernel_rfl) (by kernel_rfl) (fun _ _ _ h => h) (Or.inl ⟨by rfl, ?_⟩) (by assumption) ?_
    rotate_left
    · intro wq hSw
      have z0 := cell_of_row _ _ 0 _ _ _ hSw.1
      simp at z0
      clear hSw
      go_simp
      try (with_reducible rfl)
    refine wpAnyH_take (i := 6) (v := ?_) rfl (by kernel_rfl) (by kernel_rfl) (by kernel_rfl) (fun _ _ _ h => h) (Or.inl ⟨by rfl, ?_⟩) (by assumption) ?_
    rotate_left
    · intro wq hSw
      clear hSw
      go_simp
      try (with_reducible rfl)
    refine wpAnyH_take (i := 7) (v := ?_) rfl (by kernel_rfl) (by kernel_rfl) (by kernel_rfl) (fun _ _ _ h => h) (Or.inl ⟨by rfl, ?_⟩) (by assumption) ?_
    rotate_left
    · intro wq hSw
      clear hSw
      go_simp
      try (with_reducible rfl)
    refine wpAnyH_take (i := 8) (v := ?_) rfl (by kernel_rfl) (by kernel_rfl) (by kernel_rfl) (fun _ _ _ h => h) (Or.inl ⟨by rfl, ?_⟩) (by assumption) ?_
    rotate_left
    · intro wq hSw
      have z0 := hSw.2.cell (i * 5 + 0)
      have z1 := hSw.2.cell (i * 5 + 1)
      have z2 := hSw.2.cell (i * 5 + 2)
      have z3 := hSw.2.cell (i * 5 + 3)
      have z4 := hSw.2.cell (i * 5 + 4)
      rw [gl_get hc5 hi (by omega)] at z0 z1 z2 z3 z4
      simp at z0 z1 z2 z3 z4
      rw [hvi] at z4
      clear hSw
      go_simp
      try (with_reducible rfl)
    refine wpAnyH_ready (rs := [9]) (by kernel_rfl) (by simp) ?_
    refine AllReadyH.cons rfl (fun K hK => ?_) AllReadyH.nil
    go_simp
    have hS1 : (W1.alloc (Obj.cells #[.int .i64 0, .int .i64 0, .int .i64 0, .int .i64 0, .slice none 0 0] 73)).drew.heap[be]? = some (.cells #[.int .i64 (i : Int), .int .i64 (j : Int), .int .i64 d] 122) ∧ Arr (W1.alloc (Obj.cells #[.int .i64 0, .int .i64 0, .int .i64 0, .int .i64 0, .slice none 0 0] 73)).drew B 124 (gl fun i => rrc (R i) (vs i)) := ⟨(Below.heap_alloc _ _ _ (block_lt hE)).trans hE, (Below.heap_alloc _ _ _ hA1.lt).trans hA1⟩
    refine hK.out _ _ hS1 (fun _ => ?_)
    clear hK K
    refine wpAnyH_ready (rs := [10]) (by kernel_rfl) (by simp) ?_
    refine AllReadyH.cons rfl (fun K hK => ?_) AllReadyH.nil
    go_simp
    have hS2 : (W1.alloc (Obj.cells #[.int .i64 (R i).node, .int .i64 (R i).cost, .int .i64 (R i).least, .int .i64 (R i).most, .slice va (R i).next.length vcap] 73)).drew.heap[be]? = some (.cells #[.int .i64 (i : Int), .int .i64 (j : Int), .int .i64 d] 122) ∧ Arr (W1.alloc (Obj.cells #[.int .i64 (R i).node, .int .i64 (R i).cost, .int .i64 (R i).least, .int .i64 (R i).most, .slice va (R i).next.length vcap] 73)).drew B 124 (gl fun i => rrc (R i) (vs i)) := ⟨(Below.heap_alloc _ _ _ (block_lt hE)).trans hE, (Below.heap_alloc _ _ _ hA1.lt).trans hA1⟩
    refine hK.out _ _ hS2 (fun _ => ?_)
    clear hK K
    refine wpAnyH_ready (rs := [11]) (by kernel_rfl) (by simp) ?_
    refine AllReadyH.cons rfl (fun K hK => ?_) AllReadyH.nil
    go_simp
    refine hK.out _ _ hS2 (fun _ => ?_)
    clear hK K
    refine wpAnyH_done (by kernel_rfl) ?_ _
    go_wp2_with fail
    go_meet
    exact ⟨⟨_, rfl, heap_alloc_last W1 _, Nat.le_refl _⟩, rfl, ((Below.refl _ W1).alloc (Nat.le_refl _) _).drew⟩
  case rest =>
    obtain ⟨⟨bw, rfl, hbw, hbwl⟩, rfl, hBc⟩ := hcut
    have hFc : Fr (fun k => k = B) w wc := HFW.out.trans (Fr.of_below hBc)
    have hEc := (hBc.block _ (block_lt hE)).trans hE
    have hAc := hA1.keep hBc hA1.lt
    have hrc : wc.heap[rb]? = some (.cells #[.int .i64 r] 3) := (hBc.block _ (Nat.lt_of_lt_of_le (block_lt hrb) bA.size)).trans ((bA.block _ (by rw [← hbe]; exact block_lt hrb)).trans hrb)
    have HWc : Hid (∀ k, k < 25 → NxAt wc lo B (vs k) (R k).next) := hidIn fun k hk => (hW k hk).fr hFc
    have hbeL : be < W1.heap.size := block_lt hE
    have hBL : B < W1.heap.size := hA1.lt
    have hloW : lo ≤ W1.heap.size := by have := bA.size; omega
    have l0 := cell_of_row _ _ 0 _ _ _ hEc
    have l1 := cell_of_row _ _ 1 _ _ _ hEc
    have r0 := cell_of_row _ _ 0 _ _ _ hrc
    simp at l0 l1 r0
    have HFc := hidIn hFc
    have HEc := hidIn hEc
    have HAc := hidIn hAc
    have HBc := hidIn hBc
    have Hbw := hidIn hbw
    have hlen : (R i).next.length ≤ 24 := rise_len (hR i).np (hR i).nb
    have hnx := HWc.out i hi
    rw [hvi] at hnx
    have HNx := hidIn hnx
    clear hFc hEc hAc hrc hBc hbw hnx hS0 hE hA1 bA hA hW hrb
    obtain ⟨nx, hnxd⟩ : ∃ nx, (if (i : Int) = r then [(j : Int)] else (R i).next) = nx := ⟨_, rfl⟩
    have HNd := hidIn hnxd
    have hnxl : nx.length ≤ 24 := by rw [← hnxd]; split; simp; exact hlen
    clear hnxd
    generalize wc = wd at *
    go_upto_if 21 with fail
    go_cut [7] (fun y wx => (∃ ya ycap, y = .slice ya nx.length ycap ∧ Hid (NxAt wx lo B (.slice ya nx.length ycap) nx)) ∧ Hid (Below wd.heap.size wd wx))
    case first =>
      by_cases hir : (i : Int) = r
      · have t1 : ((i : Int) == r) = true := by simpa using hir
        have hnxe : nx = [(j : Int)] := by rw [← HNd.out, if_pos hir]
        subst hnxe
        clear hir HNd
        go_wp2_with fail
        go_meet
        exact ⟨⟨_, _, rfl, hidIn (.inr ⟨wd.heap.size, 0, 1, rfl, by simp, by have := HAc.out.lt; omega, by have := HBc.out.size; omega, ⟨_, heap_alloc_last wd _⟩, fun q z hz => by rw [Nat.zero_add, cell_of_row _ _ q _ _ _ (heap_alloc_last wd _), show (#[Value.int .i64 (j : Int)] : Array Value)[q]? = ([(j : Int)].map (Value.int .i64))[q]? from by simp, List.getElem?_map, hz]; rfl⟩)⟩, hidIn ((Below.refl _ wd).alloc (Nat.le_refl _) _)⟩
      · have t1 : ((i : Int) == r) = false := by simpa using hir
        have hnxe : nx = (R i).next := by rw [← HNd.out, if_neg hir]
        subst hnxe
        clear hir HNd
        go_wp2_with fail
        go_meet
        exact ⟨⟨_, _, rfl, HNx⟩, hidIn (Below.refl _ _)⟩
    case rest =>
      obtain ⟨⟨ya, ycap, rfl, HY⟩, HBd⟩ := hcut
      have hF2 : Fr (fun k => k = B) wd wc := Fr.of_below HBd.out
      have hE2 := (HBd.out.block _ (block_lt HEc.out)).trans HEc.out
      have hA2 := HAc.out.keep HBd.out HAc.out.lt
      have hw2 := (HBd.out.block _ (block_lt Hbw.out)).trans Hbw.out
      have HW2 : Hid (∀ k, k < 25 → NxAt wc lo B (vs k) (R k).next) := hidIn fun k hk => (HWc.out k hk).fr hF2
      have HF2 := hidIn (HFc.out.trans hF2)
      have hbwB : bw ≠ B := by omega
      have hs2 : W1.heap.size ≤ wc.heap.size := Nat.le_trans HBc.out.size HBd.out.size
      clear l0 l1 r0 HWc HFc HEc HAc HBc Hbw HNx hF2 HBd
      have l1 := cell_of_row _ _ 1 _ _ _ hE2
      have x2 := cell_of_row _ _ 2 _ _ _ hw2
      simp at l1 x2
      have m0 := hA2.cell (j * 5 + 0)
      have m1 := hA2.cell (j * 5 + 1)
      have m2 := hA2.cell (j * 5 + 2)
      have m3 := hA2.cell (j * 5 + 3)
      have m4 := hA2.cell (j * 5 + 4)
      rw [gl_get hc5 hj (by omega)] at m0 m1 m2 m3 m4
      simp at m0 m1 m2 m3 m4
      obtain ⟨vja, vjc, hvj⟩ := (HW2.out j hj).shape
      rw [hvj] at m4
      have n0 := hA2.frozen (j * 5 + 0)
      have n1 := hA2.frozen (j * 5 + 1)
      have n2 := hA2.frozen (j * 5 + 2)
      have n3 := hA2.frozen (j * 5 + 3)
      have n4 := hA2.frozen (j * 5 + 4)
      simp only [Nat.add_zero] at n0
      have hRi := hR i
      have hl0 := hRi.l0
      have hl1 := hRi.l1
      have hm0 := hRi.m0
      have hm1 := hRi.m1
      have hwl : IntKind.i64.wrap ((R i).least + 1) = (R i).least + 1 := by rw [IntKind.wrap_i64]; omega
      have HE2 := hidIn hE2
      have HA2 := hidIn hA2
      have Hw2 := hidIn hw2
      obtain ⟨r1, hr1⟩ : ∃ r1 : Rr, (if (R j).node = 0 then ⟨(j : Int), C j, (R i).least + 1, 0, []⟩ else R j) = r1 := ⟨_, rfl⟩
      have Hr1 := hidIn hr1
      clear hr1 hE2 hA2 hw2 hRi
      generalize wc = we at *
      go_upto_if 32 with fail
      go_cut [33] (fun _ wx => Hid (∃ vs1 : Nat → Value, Arr wx B 124 (gl fun k => rrc (putV R j r1 k) (vs1 k)) ∧ (∀ k, k < 25 → NxAt wx lo B (vs1 k) (putV R j r1 k).next) ∧ Fr (fun k => k = B) we wx))
      case first =>
        by_cases hz : (R j).node = 0
        · have t1 : ((R j).node == 0) = true := by simpa using hz
          have Hz := hidIn hz
          clear hz
          have HF3 := (((((Fr.refl (fun k => k = B) we).set (p := ⟨B, j * 5, none⟩) rfl (.int .i64 (j : Int))).set (p := ⟨B, j * 5 + 1, none⟩) rfl (.int .i64 (C j))).set (p := ⟨B, j * 5 + 2, none⟩) rfl (.int .i64 ((R i).least + 1))).set (p := ⟨B, j * 5 + 3, none⟩) rfl (.int .i64 0)).set (p := ⟨B, j * 5 + 4, none⟩) rfl (.slice none 0 0)
          have H3 := hidIn HF3
          clear HF3
          go_wp2_with fail
          go_meet
          refine hidIn ⟨putV vs j (.slice none 0 0), ?_, fun k hk => ?_, H3.out⟩
          · have := HA2.out.five hj r1 (.slice none 0 0)
            rw [← Hr1.out, if_pos Hz.out] at this ⊢
            exact this
          · by_cases hkj : k = j
            · subst hkj
              rw [putV_same, putV_same, ← Hr1.out, if_pos Hz.out]
              exact .inl ⟨rfl, rfl⟩
            · rw [putV_other _ _ hkj, putV_other _ _ hkj]
              exact (HW2.out k hk).fr H3.out
        · have t1 : ((R j).node == 0) = false := by simpa using hz
          have hrr : r1 = R j := by rw [← Hr1.out, if_neg hz]
          have Hrr := hidIn hrr
          clear hz hrr
          go_wp2_with fail
          go_meet
          refine hidIn ⟨vs, ?_, fun k hk => ?_, Fr.refl _ _⟩
          · rw [Hrr.out, putV_self]; exact HA2.out
          · rw [Hrr.out, putV_self]; exact HW2.out k hk
      case rest =>
        obtain ⟨vs1, hA3, hW3, hF3⟩ := hcut.out
        clear hcut m0 m1 m2 m3 m4 n0 n1 n2 n3 n4 l1 x2 HW2 HA2 hvj
        have hc51 : ∀ k, (rrc (putV R j r1 k) (vs1 k)).length = 5 := fun _ => rfl
        have hw3 := (hF3.block bw (block_lt Hw2.out) hbwB).trans Hw2.out
        have x2 := cell_of_row _ _ 2 _ _ _ hw3
        simp at x2
        have m2 := hA3.cell (j * 5 + 2)
        rw [gl_get hc51 hj (by omega)] at m2
        simp only [putV_same] at m2
        simp at m2
        have n2 := hA3.frozen (j * 5 + 2)
        have HA3 := hidIn hA3
        have HW3 := hidIn hW3
        have HF3 := hidIn hF3
        clear hA3 hW3 hF3 hw3
        generalize wc = wf at *
        go_upto_region 7 with fail
        go_region
        have HA4 : Hid (Arr (wf.setCell ⟨B, j * 5 + 2, none⟩ (.int .i64 (min r1.least ((R i).least + 1)))).drew B 124 (gl fun k => rrc (putV R j ⟨r1.node, r1.cost, min r1.least ((R i).least + 1), r1.most, r1.next⟩ k) (vs1 k))) := hidIn (by
          have := HA3.out.oneR hj (show 2 < 5 by omega) (.int .i64 (min r1.least ((R i).least + 1))) ⟨r1.node, r1.cost, min r1.least ((R i).least + 1), r1.most, r1.next⟩ (vs1 j) (by rw [putV_same]; rfl)
          rw [putV_putV, putV_self] at this
          exact this)
        have HF4 := hidIn (((Fr.refl (fun k => k = B) wf).set (p := ⟨B, j * 5 + 2, none⟩) rfl (.int .i64 (min r1.least ((R i).least + 1)))).drew)
        clear m2 n2 x2 hwl
        generalize World.drew _ = wg at HA4 HF4 ⊢
        obtain ⟨r2, hr2⟩ : ∃ r2 : Rr, (⟨r1.node, r1.cost, min r1.least ((R i).least + 1), r1.most, r1.next⟩ : Rr) = r2 := ⟨_, rfl⟩
        have hr2m : r2.most = r1.most := by rw [← hr2]
        rw [hr2] at HA4
        have Hr2 := hidIn hr2
        have hw4 := (HF4.out.block bw (by have := HF3.out.size; have := block_lt Hw2.out; omega) hbwB).trans ((HF3.out.block bw (block_lt Hw2.out) hbwB).trans Hw2.out)
        have x3 := cell_of_row _ _ 3 _ _ _ hw4
        simp at x3
        have m3 := HA4.out.cell (j * 5 + 3)
        rw [gl_get (cs := fun k => rrc (putV R j r2 k) (vs1 k)) (fun _ => rfl) hj (by omega)] at m3
        simp only [putV_same] at m3
        simp at m3
        rw [hr2m] at m3
        have n3 := HA4.out.frozen (j * 5 + 3)
        have hwm : IntKind.i64.wrap ((R i).most + 1) = (R i).most + 1 := by rw [IntKind.wrap_i64]; omega
        clear hr2 hr2m hw4
        go_upto_region 8 with fail
        go_region
        have HA5 : Hid (Arr (wg.setCell ⟨B, j * 5 + 3, none⟩ (.int .i64 (max r1.most ((R i).most + 1)))).drew B 124 (gl fun k => rrc (putV R j ⟨r2.node, r2.cost, r2.least, max r1.most ((R i).most + 1), r2.next⟩ k) (vs1 k))) := hidIn (by
          have := HA4.out.oneR hj (show 3 < 5 by omega) (.int .i64 (max r1.most ((R i).most + 1))) ⟨r2.node, r2.cost, r2.least, max r1.most ((R i).most + 1), r2.next⟩ (vs1 j) (by rw [putV_same]; rfl)
          rw [putV_putV, putV_self] at this
          exact this)
        have HF5 := hidIn (HF4.out.trans (((Fr.refl (fun k => k = B) wg).set (p := ⟨B, j * 5 + 3, none⟩) rfl (.int .i64 (max r1.most ((R i).most + 1)))).drew))
        clear m3 n3 x3 hwm
        generalize World.drew _ = wh at HA5 HF5 ⊢
        obtain ⟨r3, hr3⟩ : ∃ r3 : Rr, (⟨r2.node, r2.cost, r2.least, max r1.most ((R i).most + 1), r2.next⟩ : Rr) = r3 := ⟨_, rfl⟩
        rw [hr3] at HA5
        have hr3e : r3 = ⟨r1.node, r1.cost, min r1.least ((R i).least + 1), max r1.most ((R i).most + 1), r1.next⟩ := by rw [← hr3, ← Hr2.out]
        have Hr3 := hidIn hr3e
        have hFh := HF3.out.trans HF5.out
        have hj1 := (HW3.out j hj).fr HF5.out
        rw [putV_same] at hj1
        have hy1 := HY.out.fr hFh
        have hr1n : r1.next.length ≤ 24 := by
          rw [← Hr1.out]
          split
          · simp
          · exact rise_len (hR j).np (hR j).nb
        have HJ := hidIn (joined_any (hj1.sl (by omega)).1 (hy1.sl (by omega)).1 (hj1.sl (by omega)).2 (hy1.sl (by omega)).2 (by omega) (by omega))
        have HWh : Hid (∀ k, k < 25 → NxAt wh lo B (vs1 k) (putV R j r1 k).next) := hidIn fun k hk => (HW3.out k hk).fr HF5.out
        obtain ⟨vka, vkc, hvk⟩ := hj1.shape
        have m4 := HA5.out.cell (j * 5 + 4)
        rw [gl_get (cs := fun k => rrc (putV R j r3 k) (vs1 k)) (fun _ => rfl) hj (by omega)] at m4
        simp at m4
        rw [hvk] at m4 HJ
        have HFh := hidIn hFh
        have hBh : B < wh.heap.size := HA5.out.lt
        have hloh : lo ≤ wh.heap.size := by have h1 := hFh.size; omega
        have Hvk := hidIn hvk
        clear hr3 hr3e hFh hj1 hy1 hvk
        go_wp2_with fail
        refine HJ.out.mono ?_
        rintro e w9 ⟨⟨ja, jcap, rfl, hrow⟩, hb9⟩
        have hA9 := HA5.out.keep hb9 HA5.out.lt
        have HN9 := hidIn (nxAt_row (lo := lo) (B := B) hrow hBh hloh)
        have m4' := hA9.cell (j * 5 + 4)
        rw [gl_get (cs := fun k => rrc (putV R j r3 k) (vs1 k)) (fun _ => rfl) hj (by omega)] at m4'
        simp at m4'
        have n4 := hA9.frozen (j * 5 + 4)
        have HA9 := hidIn hA9
        have HF9 : Hid (Fr (fun k => k = B) wh w9) := hidIn (Fr.of_below hb9)
        clear m4 HJ hrow hb9 hA9
        obtain ⟨jl, hjl⟩ : ∃ jl, joinL r1.next nx = jl := ⟨_, rfl⟩
        rw [hjl] at HN9 ⊢
        have Hjl := hidIn hjl
        clear hjl
        go_wp2_with fail
        go_returns
        have hrch : rchE r C R ((i : Int), (j : Int), d) = putV R j ⟨r1.node, r1.cost, min r1.least ((R i).least + 1), max r1.most ((R i).most + 1), jl⟩ := by
          unfold rchE
          simp only [Int.toNat_natCast]
          rw [Hr1.out, HNd.out, Hjl.out]
        have hFs := (Fr.refl (fun k => k = B) w9).set (p := ⟨B, j * 5 + 4, none⟩) rfl (.slice ja jl.length jcap)
        refine ⟨⟨_, rfl⟩, ?_, ((HF2.out.trans HFh.out).trans HF9.out).trans hFs⟩
        rw [hrch]
        refine ⟨putV vs1 j (.slice ja jl.length jcap), ?_, fun k hk => ?_⟩
        · have := HA9.out.oneR hj (show 4 < 5 by omega) (.slice ja jl.length jcap) ⟨r1.node, r1.cost, min r1.least ((R i).least + 1), max r1.most ((R i).most + 1), jl⟩ (.slice ja jl.length jcap) (by rw [putV_same, Hr3.out]; rfl)
          rw [putV_putV] at this
          exact this
        · by_cases hkj : k = j
          · subst hkj
            rw [putV_same, putV_same]
            exact HN9.out.fr hFs
          · have h1 := ((HWh.out k hk).fr HF9.out).fr hFs
            rw [putV_other _ _ hkj] at h1
            rw [putV_other _ _ hkj, putV_other _ _ hkj]
            exact h1
end Go.Proofs.YtbggingacoheiaaGreatDoor
