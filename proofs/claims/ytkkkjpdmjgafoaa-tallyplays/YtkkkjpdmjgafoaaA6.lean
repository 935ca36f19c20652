/- tally.Of, Note; the laws' done, example. -/
import Derived.Test.YtkkkjpdmjgafoaaA5
import Derived.Test.YtkkkjpdmjgafoaaW4
namespace Go.Proofs.Ytkkkjpdmjgafoaa
open Go.RowKit

abbrev dnV (L : Bool) (s : Value) (N M : Nat) : Value := .agg #[.bool L, s, .int .u64 (Bi.wd N 0), .int .u64 (Bi.wd N 1), .int .u64 (Bi.wd N 2), .int .u64 (Bi.wd N 3), .int .u64 (Bi.wd M 0), .int .u64 (Bi.wd M 1), .int .u64 (Bi.wd M 2), .int .u64 (Bi.wd M 3)]
abbrev dnO (L : Bool) (s : Value) (N M : Nat) : Obj := .cells #[.bool L, s, .int .u64 (Bi.wd N 0), .int .u64 (Bi.wd N 1), .int .u64 (Bi.wd N 2), .int .u64 (Bi.wd N 3), .int .u64 (Bi.wd M 0), .int .u64 (Bi.wd M 1), .int .u64 (Bi.wd M 2), .int .u64 (Bi.wd M 3)] 32
/-- A step's counts. -/
def stepC (L : Bool) (n x y : Nat) : Cn
  | 0 => 1
  | 1 => if L then 1 else 0
  | 2 => n
  | 3 => x
  | 4 => y
  | _ => 0
theorem stepC_ok (L : Bool) {n x y : Nat} (hn : n < 9223372036854775808) (hx : x ≤ 256) (hy : y ≤ 256) : OkC (stepC L n x y) := fun k => by
  match k with
  | 0 => simp [stepC]
  | 1 => cases L <;> simp [stepC]
  | 2 => simp only [stepC]; omega
  | 3 => simp only [stepC]; omega
  | 4 => simp only [stepC]; omega
  | _ + 5 => simp [stepC]
set_option maxRecDepth 100000 in
set_option maxHeartbeats 2000000 in
theorem tof_any (L : Bool) (a : Option Addr) (n c : Nat) (hn : n < 9223372036854775808) (N M : Nat) (w : World) :
    Calls Try.prog 9 #[dnV L (.slice a n c) N M] w fun e w' => e = .returned (cV (stepC L n (Bi.cntTo 256 N) (Bi.cntTo 256 M))) ∧ Below w.heap.size w w' := by
  have HC1 := hidIn (fun wx => Bi.count_any N wx)
  have HC2 := hidIn (fun wx => Bi.count_any M wx)
  have hx := Bi.cntTo_le 256 N
  have hy := Bi.cntTo_le 256 M
  unfold Bi.bs at HC1 HC2
  obtain ⟨x, hxx⟩ : ∃ x, Bi.cntTo 256 N = x := ⟨_, rfl⟩
  obtain ⟨y, hyy⟩ : ∃ y, Bi.cntTo 256 M = y := ⟨_, rfl⟩
  rw [hxx] at hx HC1 ⊢
  rw [hyy] at hy HC2 ⊢
  clear hxx hyy
  obtain ⟨n0, hn0⟩ : ∃ z, Bi.wd N 0 = z := ⟨_, rfl⟩
  obtain ⟨n1, hn1⟩ : ∃ z, Bi.wd N 1 = z := ⟨_, rfl⟩
  obtain ⟨n2, hn2⟩ : ∃ z, Bi.wd N 2 = z := ⟨_, rfl⟩
  obtain ⟨n3, hn3⟩ : ∃ z, Bi.wd N 3 = z := ⟨_, rfl⟩
  obtain ⟨m0, hm0⟩ : ∃ z, Bi.wd M 0 = z := ⟨_, rfl⟩
  obtain ⟨m1, hm1⟩ : ∃ z, Bi.wd M 1 = z := ⟨_, rfl⟩
  obtain ⟨m2, hm2⟩ : ∃ z, Bi.wd M 2 = z := ⟨_, rfl⟩
  obtain ⟨m3, hm3⟩ : ∃ z, Bi.wd M 3 = z := ⟨_, rfl⟩
  unfold dnV
  rw [hn0, hn1, hn2, hn3] at HC1 ⊢
  rw [hm0, hm1, hm2, hm3] at HC2 ⊢
  clear hn0 hn1 hn2 hn3 hm0 hm1 hm2 hm3
  have wn : IntKind.u64.wrap (n : Int) = (n : Int) := by rw [IntKind.wrap_u64]; omega
  have wx : IntKind.u64.wrap (x : Int) = (x : Int) := by rw [IntKind.wrap_u64]; omega
  have wy : IntKind.u64.wrap (y : Int) = (y : Int) := by rw [IntKind.wrap_u64]; omega
  obtain ⟨W1, hW1⟩ : ∃ W1, (w.alloc (.cells #[.bool L, .slice a n c, .int .u64 n0, .int .u64 n1, .int .u64 n2, .int .u64 n3, .int .u64 m0, .int .u64 m1, .int .u64 m2, .int .u64 m3] 32)).alloc cO0 = W1 := ⟨_, rfl⟩
  have bA : Below w.heap.size w W1 := by rw [← hW1]; exact ((Below.refl _ w).alloc (Nat.le_refl _) _).alloc (by simp) _
  have hK : W1.heap[w.heap.size]? = some (.cells #[.bool L, .slice a n c, .int .u64 n0, .int .u64 n1, .int .u64 n2, .int .u64 n3, .int .u64 m0, .int .u64 m1, .int .u64 m2, .int .u64 m3] 32) := by rw [← hW1, Below.heap_alloc _ _ _ (by simp)]; exact heap_alloc_last w _
  have hR : W1.heap[w.heap.size + 1]? = some cO0 := by
    rw [← hW1]
    have := heap_alloc_last (w.alloc (.cells #[.bool L, .slice a n c, .int .u64 n0, .int .u64 n1, .int .u64 n2, .int .u64 n3, .int .u64 m0, .int .u64 m1, .int .u64 m2, .int .u64 m3] 32)) cO0
    rwa [World.size_alloc] at this
  obtain ⟨q, hq⟩ : ∃ q, w.heap.size = q := ⟨_, rfl⟩
  rw [hq] at hK hR
  have Hq := hidIn hq
  have HW := hidIn hW1
  have HB1 := hidIn bA
  have HR := hidIn hR
  have Hlt := hidIn (block_lt hR)
  have HCl : Hid (∀ wq, Below W1.heap.size W1 wq → wq.cell? ⟨q, 0, none⟩ = some (.bool L) ∧ wq.cell? ⟨q, 1, none⟩ = some (.slice a n c) ∧ wq.cell? ⟨q, 2, none⟩ = some (.int .u64 n0) ∧ wq.cell? ⟨q, 3, none⟩ = some (.int .u64 n1) ∧ wq.cell? ⟨q, 4, none⟩ = some (.int .u64 n2) ∧ wq.cell? ⟨q, 5, none⟩ = some (.int .u64 n3) ∧ wq.cell? ⟨q, 6, none⟩ = some (.int .u64 m0) ∧ wq.cell? ⟨q, 7, none⟩ = some (.int .u64 m1) ∧ wq.cell? ⟨q, 8, none⟩ = some (.int .u64 m2) ∧ wq.cell? ⟨q, 9, none⟩ = some (.int .u64 m3)) := hidIn fun wq h => by
    have j := (h.block _ (block_lt hK)).trans hK
    exact ⟨cell_of_row _ _ 0 _ _ _ j, cell_of_row _ _ 1 _ _ _ j, cell_of_row _ _ 2 _ _ _ j, cell_of_row _ _ 3 _ _ _ j, cell_of_row _ _ 4 _ _ _ j, cell_of_row _ _ 5 _ _ _ j, cell_of_row _ _ 6 _ _ _ j, cell_of_row _ _ 7 _ _ _ j, cell_of_row _ _ 8 _ _ _ j, cell_of_row _ _ 9 _ _ _ j⟩
  clear hK hR hW1 bA
  go_enter Try.func9, Try.ntmps9
  go_upto_region 1 with fail
  rw [HW.out]
  clear HW hq
  go_cut [3] (fun p wx => ∃ g, p = .pointer (some ⟨g, 0, none⟩) ∧ Hid (W1.heap.size ≤ g ∧ wx.heap[g]? = some (.cells #[.int .u64 1, .int .u64 0, .int .u64 n, .int .u64 x, .int .u64 y, .int .u64 0] 37) ∧ Below W1.heap.size W1 wx))
  case first =>
    refine wp_region_held_drew (S := fun wx => Below W1.heap.size W1 wx) (by kernel_rfl) ((Below.refl _ W1).drew) (fun hHeld => ?_)
    have hd0 : Below W1.heap.size W1 W1.drew := hHeld
    obtain ⟨wd, hwd⟩ : ∃ wd, W1.drew = wd := ⟨_, rfl⟩
    rw [hwd] at hd0 ⊢
    clear hwd hHeld
    refine wpAnyH_take (i := 0) (v := .pointer (some ⟨q, 1, none⟩)) rfl (by kernel_rfl) (by kernel_rfl) (by kernel_rfl) (fun _ _ _ h => h) (Or.inl ⟨by kernel_rfl, fun _ _ => by kernel_rfl⟩) (by assumption) ?_
    refine wpAnyH_take (i := 1) (v := .slice a n c) rfl (by kernel_rfl) (by kernel_rfl) (by kernel_rfl) (fun _ _ _ h => h) (Or.inl ⟨by kernel_rfl, fun wq hSw => by
      obtain ⟨u0, u1, u2, u3, u4, u5, u6, u7, u8, u9⟩ := HCl.out wq hSw
      go_simp⟩) (by assumption) ?_
    refine wpAnyH_take (i := 2) (v := .int .i64 n) rfl (by kernel_rfl) (by kernel_rfl) (by kernel_rfl) (fun _ _ _ h => h) (Or.inl ⟨by kernel_rfl, fun _ _ => by kernel_rfl⟩) (by assumption) ?_
    refine wpAnyH_take (i := 3) (v := .int .u64 n) rfl (by kernel_rfl) (by kernel_rfl) (by kernel_rfl) (fun _ _ _ h => h) (Or.inl ⟨by kernel_rfl, fun _ _ => by go_simp⟩) (by assumption) ?_
    refine wpAnyH_take (i := 4) (v := .pointer (some ⟨q, 2, none⟩)) rfl (by kernel_rfl) (by kernel_rfl) (by kernel_rfl) (fun _ _ _ h => h) (Or.inl ⟨by kernel_rfl, fun _ _ => by kernel_rfl⟩) (by assumption) ?_
    refine wpAnyH_take (i := 5) (v := .agg #[.int .u64 n0, .int .u64 n1, .int .u64 n2, .int .u64 n3]) rfl (by kernel_rfl) (by kernel_rfl) (by kernel_rfl) (fun _ _ _ h => h) (Or.inl ⟨by kernel_rfl, fun wq hSw => by
      obtain ⟨u0, u1, u2, u3, u4, u5, u6, u7, u8, u9⟩ := HCl.out wq hSw
      go_simp⟩) (by assumption) ?_
    refine wpAnyH_take (i := 8) (v := .pointer (some ⟨q, 6, none⟩)) rfl (by kernel_rfl) (by kernel_rfl) (by kernel_rfl) (fun _ _ _ h => h) (Or.inl ⟨by kernel_rfl, fun _ _ => by kernel_rfl⟩) (by assumption) ?_
    refine wpAnyH_take (i := 9) (v := .agg #[.int .u64 m0, .int .u64 m1, .int .u64 m2, .int .u64 m3]) rfl (by kernel_rfl) (by kernel_rfl) (by kernel_rfl) (fun _ _ _ h => h) (Or.inl ⟨by kernel_rfl, fun wq hSw => by
      obtain ⟨u0, u1, u2, u3, u4, u5, u6, u7, u8, u9⟩ := HCl.out wq hSw
      go_simp⟩) (by assumption) ?_
    refine wpAnyH_ready (rs := [6, 13]) (by kernel_rfl) (by simp) ?_
    refine AllReadyH.cons (i := 6) rfl ?_ ?_
    · go_simp
      intro K hK
      refine (HC1.out wd).mono ?_
      rintro e wk1 ⟨rfl, hx1⟩
      have hb1 := hd0.trans (hx1.mono hd0.size)
      refine hK.out _ _ hb1 (fun _ => ?_)
      clear hK K hx1
      refine wpAnyH_take (i := 7) (v := .int .u64 x) rfl (by kernel_rfl) (by kernel_rfl) (by kernel_rfl) (fun _ _ _ h => h) (Or.inl ⟨by kernel_rfl, fun _ _ => by go_simp⟩) (by assumption) ?_
      refine wpAnyH_ready (rs := [10, 13]) (by kernel_rfl) (by simp) ?_
      refine AllReadyH.cons (i := 10) rfl ?_ ?_
      · go_simp
        intro K hK
        refine (HC2.out wk1).mono ?_
        rintro e wk2 ⟨rfl, hx2⟩
        have hb2 := hb1.trans (hx2.mono hb1.size)
        refine hK.out _ _ hb2 (fun _ => ?_)
        clear hK K hx2
        refine wpAnyH_take (i := 11) (v := .int .u64 y) rfl (by kernel_rfl) (by kernel_rfl) (by kernel_rfl) (fun _ _ _ h => h) (Or.inl ⟨by kernel_rfl, fun _ _ => by go_simp⟩) (by assumption) ?_
        refine wpAnyH_take (i := 12) (v := .agg #[.int .u64 1, .int .u64 0, .int .u64 n, .int .u64 x, .int .u64 y, .int .u64 0]) rfl (by kernel_rfl) (by kernel_rfl) (by kernel_rfl) (fun _ _ _ h => h) (Or.inl ⟨by kernel_rfl, fun _ _ => by kernel_rfl⟩) (by assumption) ?_
        refine wpAnyH_ready (rs := [13]) (by kernel_rfl) (by simp) ?_
        refine AllReadyH.cons (i := 13) rfl ?_ AllReadyH.nil
        go_simp
        intro K hK
        have hb3 := hb2.alloc (show W1.heap.size ≤ _ from hb2.size) cO0
        have hz3 := heap_alloc_last wk2 cO0
        have hg : W1.heap.size ≤ wk2.heap.size := hb2.size
        obtain ⟨g, hgg⟩ : ∃ g, wk2.heap.size = g := ⟨_, rfl⟩
        rw [hgg] at hz3 hg ⊢
        generalize World.alloc _ _ = wa3 at hb3 hz3 ⊢
        clear hgg
        refine hK.out _ _ hb3 (fun _ => ?_)
        clear hK K
        have c0 := cell_of_row _ _ 0 _ _ _ hz3
        have c1 := cell_of_row _ _ 1 _ _ _ hz3
        have c2 := cell_of_row _ _ 2 _ _ _ hz3
        have c3 := cell_of_row _ _ 3 _ _ _ hz3
        have c4 := cell_of_row _ _ 4 _ _ _ hz3
        have c5 := cell_of_row _ _ 5 _ _ _ hz3
        have fz0 := frozen_new hz3 0
        have fz1 := frozen_new hz3 1
        have fz2 := frozen_new hz3 2
        have fz3 := frozen_new hz3 3
        have fz4 := frozen_new hz3 4
        have fz5 := frozen_new hz3 5
        simp at c0 c1 c2 c3 c4 c5
        have hO := setK_block (x := noC) hz3 (stepC false n x y)
        have hBO := below_setK (b := g) hb3 hg (stepC false n x y)
        refine wpAnyH_ready (rs := [14]) (by kernel_rfl) (by simp) ?_
        refine AllReadyH.cons (i := 14) rfl ?_ AllReadyH.nil
        go_simp
        intro K hK
        refine hK.out _ _ hBO (fun _ => ?_)
        clear hK K c0 c1 c2 c3 c4 c5 fz0 fz1 fz2 fz3 fz4 fz5
        refine wpAnyH_done (by kernel_rfl) ?_ _
        go_wp2_with fail
        go_meet
        exact ⟨g, rfl, hidIn ⟨hg, hO, hBO⟩⟩
      refine AllReadyH.cons (i := 13) rfl ?_ AllReadyH.nil
      go_simp
      intro K hK
      have hb2 := hb1.alloc (show W1.heap.size ≤ _ from hb1.size) cO0
      have hz2 := heap_alloc_last wk1 cO0
      have hg : W1.heap.size ≤ wk1.heap.size := hb1.size
      obtain ⟨g, hgg⟩ : ∃ g, wk1.heap.size = g := ⟨_, rfl⟩
      rw [hgg] at hz2 hg ⊢
      generalize World.alloc _ _ = wa2 at hb2 hz2 ⊢
      clear hgg
      refine hK.out _ _ hb2 (fun _ => ?_)
      clear hK K
      refine wpAnyH_ready (rs := [10]) (by kernel_rfl) (by simp) ?_
      refine AllReadyH.cons (i := 10) rfl ?_ AllReadyH.nil
      go_simp
      intro K hK
      refine (HC2.out wa2).mono ?_
      rintro e wk3 ⟨rfl, hx3⟩
      have hb3 := hb2.trans (hx3.mono hb2.size)
      have hz3 := (hx3.block _ (block_lt hz2)).trans hz2
      refine hK.out _ _ hb3 (fun _ => ?_)
      clear hK K hx3
      refine wpAnyH_take (i := 11) (v := .int .u64 y) rfl (by kernel_rfl) (by kernel_rfl) (by kernel_rfl) (fun _ _ _ h => h) (Or.inl ⟨by kernel_rfl, fun _ _ => by go_simp⟩) (by assumption) ?_
      refine wpAnyH_take (i := 12) (v := .agg #[.int .u64 1, .int .u64 0, .int .u64 n, .int .u64 x, .int .u64 y, .int .u64 0]) rfl (by kernel_rfl) (by kernel_rfl) (by kernel_rfl) (fun _ _ _ h => h) (Or.inl ⟨by kernel_rfl, fun _ _ => by kernel_rfl⟩) (by assumption) ?_
      have c0 := cell_of_row _ _ 0 _ _ _ hz3
      have c1 := cell_of_row _ _ 1 _ _ _ hz3
      have c2 := cell_of_row _ _ 2 _ _ _ hz3
      have c3 := cell_of_row _ _ 3 _ _ _ hz3
      have c4 := cell_of_row _ _ 4 _ _ _ hz3
      have c5 := cell_of_row _ _ 5 _ _ _ hz3
      have fz0 := frozen_new hz3 0
      have fz1 := frozen_new hz3 1
      have fz2 := frozen_new hz3 2
      have fz3 := frozen_new hz3 3
      have fz4 := frozen_new hz3 4
      have fz5 := frozen_new hz3 5
      simp at c0 c1 c2 c3 c4 c5
      have hO := setK_block (x := noC) hz3 (stepC false n x y)
      have hBO := below_setK (b := g) hb3 hg (stepC false n x y)
      refine wpAnyH_ready (rs := [14]) (by kernel_rfl) (by simp) ?_
      refine AllReadyH.cons (i := 14) rfl ?_ AllReadyH.nil
      go_simp
      intro K hK
      refine hK.out _ _ hBO (fun _ => ?_)
      clear hK K c0 c1 c2 c3 c4 c5 fz0 fz1 fz2 fz3 fz4 fz5
      refine wpAnyH_done (by kernel_rfl) ?_ _
      go_wp2_with fail
      go_meet
      exact ⟨g, rfl, hidIn ⟨hg, hO, hBO⟩⟩
    refine AllReadyH.cons (i := 13) rfl ?_ AllReadyH.nil
    go_simp
    intro K hK
    have hb1 := hd0.alloc (show W1.heap.size ≤ _ from hd0.size) cO0
    have hz1 := heap_alloc_last wd cO0
    have hg : W1.heap.size ≤ wd.heap.size := hd0.size
    obtain ⟨g, hgg⟩ : ∃ g, wd.heap.size = g := ⟨_, rfl⟩
    rw [hgg] at hz1 hg ⊢
    generalize World.alloc _ _ = wa1 at hb1 hz1 ⊢
    clear hgg
    refine hK.out _ _ hb1 (fun _ => ?_)
    clear hK K
    refine wpAnyH_ready (rs := [6]) (by kernel_rfl) (by simp) ?_
    refine AllReadyH.cons (i := 6) rfl ?_ AllReadyH.nil
    go_simp
    intro K hK
    refine (HC1.out wa1).mono ?_
    rintro e wk2 ⟨rfl, hx2⟩
    have hb2 := hb1.trans (hx2.mono hb1.size)
    have hz2 := (hx2.block _ (block_lt hz1)).trans hz1
    refine hK.out _ _ hb2 (fun _ => ?_)
    clear hK K hx2
    refine wpAnyH_take (i := 7) (v := .int .u64 x) rfl (by kernel_rfl) (by kernel_rfl) (by kernel_rfl) (fun _ _ _ h => h) (Or.inl ⟨by kernel_rfl, fun _ _ => by go_simp⟩) (by assumption) ?_
    refine wpAnyH_ready (rs := [10]) (by kernel_rfl) (by simp) ?_
    refine AllReadyH.cons (i := 10) rfl ?_ AllReadyH.nil
    go_simp
    intro K hK
    refine (HC2.out wk2).mono ?_
    rintro e wk3 ⟨rfl, hx3⟩
    have hb3 := hb2.trans (hx3.mono hb2.size)
    have hz3 := (hx3.block _ (block_lt hz2)).trans hz2
    refine hK.out _ _ hb3 (fun _ => ?_)
    clear hK K hx3
    refine wpAnyH_take (i := 11) (v := .int .u64 y) rfl (by kernel_rfl) (by kernel_rfl) (by kernel_rfl) (fun _ _ _ h => h) (Or.inl ⟨by kernel_rfl, fun _ _ => by go_simp⟩) (by assumption) ?_
    refine wpAnyH_take (i := 12) (v := .agg #[.int .u64 1, .int .u64 0, .int .u64 n, .int .u64 x, .int .u64 y, .int .u64 0]) rfl (by kernel_rfl) (by kernel_rfl) (by kernel_rfl) (fun _ _ _ h => h) (Or.inl ⟨by kernel_rfl, fun _ _ => by kernel_rfl⟩) (by assumption) ?_
    have c0 := cell_of_row _ _ 0 _ _ _ hz3
    have c1 := cell_of_row _ _ 1 _ _ _ hz3
    have c2 := cell_of_row _ _ 2 _ _ _ hz3
    have c3 := cell_of_row _ _ 3 _ _ _ hz3
    have c4 := cell_of_row _ _ 4 _ _ _ hz3
    have c5 := cell_of_row _ _ 5 _ _ _ hz3
    have fz0 := frozen_new hz3 0
    have fz1 := frozen_new hz3 1
    have fz2 := frozen_new hz3 2
    have fz3 := frozen_new hz3 3
    have fz4 := frozen_new hz3 4
    have fz5 := frozen_new hz3 5
    simp at c0 c1 c2 c3 c4 c5
    have hO := setK_block (x := noC) hz3 (stepC false n x y)
    have hBO := below_setK (b := g) hb3 hg (stepC false n x y)
    refine wpAnyH_ready (rs := [14]) (by kernel_rfl) (by simp) ?_
    refine AllReadyH.cons (i := 14) rfl ?_ AllReadyH.nil
    go_simp
    intro K hK
    refine hK.out _ _ hBO (fun _ => ?_)
    clear hK K c0 c1 c2 c3 c4 c5 fz0 fz1 fz2 fz3 fz4 fz5
    refine wpAnyH_done (by kernel_rfl) ?_ _
    go_wp2_with fail
    go_meet
    exact ⟨g, rfl, hidIn ⟨hg, hO, hBO⟩⟩
  case rest =>
    obtain ⟨g, rfl, HG⟩ := hcut
    obtain ⟨hg, hG, hB⟩ := HG.out
    obtain ⟨u0, _, _, _, _, _, _, _, _, _⟩ := HCl.out _ hB
    have hr := (hB.block _ Hlt.out).trans HR.out
    have HBe := hidIn (HB1.out.trans (hB.mono HB1.out.size))
    have hne : g ≠ q + 1 := by have := Hlt.out; omega
    have hqw : w.heap.size ≤ g := by have := HB1.out.size; omega
    have Hqw := hidIn hqw
    clear HG hB hg hqw HCl HC1 HC2 HB1 HR
    cases L with
    | false =>
      have c0 := cell_of_row _ _ 0 _ _ _ hG
      have c1 := cell_of_row _ _ 1 _ _ _ hG
      have c2 := cell_of_row _ _ 2 _ _ _ hG
      have c3 := cell_of_row _ _ 3 _ _ _ hG
      have c4 := cell_of_row _ _ 4 _ _ _ hG
      have c5 := cell_of_row _ _ 5 _ _ _ hG
      have r0 := cell_of_row _ _ 0 _ _ _ hr
      have r1 := cell_of_row _ _ 1 _ _ _ hr
      have r2 := cell_of_row _ _ 2 _ _ _ hr
      have r3 := cell_of_row _ _ 3 _ _ _ hr
      have r4 := cell_of_row _ _ 4 _ _ _ hr
      have r5 := cell_of_row _ _ 5 _ _ _ hr
      simp at c0 c1 c2 c3 c4 c5 r0 r1 r2 r3 r4 r5
      have f0 := frozen_new hr 0
      have f1 := frozen_new hr 1
      have f2 := frozen_new hr 2
      have f3 := frozen_new hr 3
      have f4 := frozen_new hr 4
      have f5 := frozen_new hr 5
      have HL := hidIn (load_c (setK_block (x := noC) hr (stepC false n x y)))
      have HBo := hidIn (below_setK (b := q + 1) HBe.out (by have := Hq.out; omega) (stepC false n x y))
      clear hr hG
      go_wp2_with fail
      have hl := HL.out
      unfold setK at hl
      refine bodyPost_ret (v := cV (stepC false n x y)) (by simp [results, Try.results9, asAddr]; exact hl) rfl ⟨rfl, HBo.out⟩
    | true =>
      have f9 := frozen_new hG 1
      have HG2 : Hid ((wc.setCell ⟨g, 1, none⟩ (.int .u64 1)).heap[g]? = some (.cells #[.int .u64 1, .int .u64 1, .int .u64 n, .int .u64 x, .int .u64 y, .int .u64 0] 37)) := hidIn (heap_setCell_same wc g 1 _ _ (.int .u64 1) hG)
      have HR2 : Hid ((wc.setCell ⟨g, 1, none⟩ (.int .u64 1)).heap[q + 1]? = some cO0) := hidIn ((Below.heap_setCell _ _ _ _ (fun e => hne e.symm)).trans hr)
      have HB2 : Hid (Below w.heap.size w (wc.setCell ⟨g, 1, none⟩ (.int .u64 1))) := hidIn (HBe.out.setCell Hqw.out _)
      have c1 := cell_of_row _ _ 1 _ _ _ hG
      simp at c1
      clear hr hG
      go_upto_region 4 with fail
      generalize World.setCell _ _ _ = W5 at HG2 HR2 HB2 ⊢
      have hr := HR2.out
      have c0 := cell_of_row _ _ 0 _ _ _ HG2.out
      have c1 := cell_of_row _ _ 1 _ _ _ HG2.out
      have c2 := cell_of_row _ _ 2 _ _ _ HG2.out
      have c3 := cell_of_row _ _ 3 _ _ _ HG2.out
      have c4 := cell_of_row _ _ 4 _ _ _ HG2.out
      have c5 := cell_of_row _ _ 5 _ _ _ HG2.out
      have r0 := cell_of_row _ _ 0 _ _ _ hr
      have r1 := cell_of_row _ _ 1 _ _ _ hr
      have r2 := cell_of_row _ _ 2 _ _ _ hr
      have r3 := cell_of_row _ _ 3 _ _ _ hr
      have r4 := cell_of_row _ _ 4 _ _ _ hr
      have r5 := cell_of_row _ _ 5 _ _ _ hr
      simp at c0 c1 c2 c3 c4 c5 r0 r1 r2 r3 r4 r5
      have f0 := frozen_new hr 0
      have f1 := frozen_new hr 1
      have f2 := frozen_new hr 2
      have f3 := frozen_new hr 3
      have f4 := frozen_new hr 4
      have f5 := frozen_new hr 5
      have HL := hidIn (load_c (setK_block (x := noC) hr (stepC true n x y)))
      have HBo := hidIn (below_setK (b := q + 1) HB2.out (by have := Hq.out; omega) (stepC true n x y))
      clear hr
      go_wp2_with fail
      have hl := HL.out
      unfold setK at hl
      refine bodyPost_ret (v := cV (stepC true n x y)) (by simp [results, Try.results9, asAddr]; exact hl) rfl ⟨rfl, HBo.out⟩
end Go.Proofs.Ytkkkjpdmjgafoaa
