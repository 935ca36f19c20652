/- The law's own. -/
import Derived.Test.YtclnhohfiimcdaaXB
import Derived.Test.YtclnhohfiimcdaaGF
namespace Go.Proofs.Ytclnhohfiimcdaa
open Go.RowKit

/-- A record in memory of its own. -/
def OwnR (w w' : World) (r : Rc) (e : Ending) : Prop := ∃ g c, e = .returned (recV r (.slice (some ⟨g, 0, none⟩) r.adjs.length c)) ∧ w'.ownsRow w.heap.size 36 2 (.slice (some ⟨g, 0, none⟩) (r.adjs.length + 1) c) (r.adjs.length + 1) (fl ac (r.adjs ++ [(0, 77)]))
set_option maxRecDepth 100000 in
set_option maxHeartbeats 2000000 in
theorem own_any {r : Rc} {va : Value} {w : World} (hv : SlAt ac 2 w va r.adjs) (hn : NilOk va) (hl : (r.adjs.length + 1) * 16 ≤ 140737488355328) :
    Calls Try.prog 9 #[recV r va] w fun e w' => OwnR w w' r e ∧ Below w.heap.size w w' := by
  obtain ⟨W1, hW1⟩ : ∃ W1, (w.alloc (recO r va)).alloc zeroO = W1 := ⟨_, rfl⟩
  have b1 : Below w.heap.size w W1 := by rw [← hW1]; exact ((Below.refl _ w).alloc (Nat.le_refl _) _).alloc (by simp) _
  have hX : W1.heap[w.heap.size]? = some (recO r va) := by rw [← hW1, Below.heap_alloc _ _ _ (by simp)]; exact heap_alloc_last w _
  have hY : W1.heap[w.heap.size + 1]? = some zeroO := by
    rw [← hW1]
    have := heap_alloc_last (w.alloc (recO r va)) zeroO
    rw [World.size_alloc] at this
    exact this
  obtain ⟨v1, w2, hrun1, hrow1, hb2, _⟩ := append_all (P := Try.prog) (cs := ac) (sz := 2) (T := 23) (fun _ => rfl) (fun _ => by simp [Value.oneCell']) Try.underlying23 infoAdj rfl (by decide) (W := W1) (base := W1.heap.size) (k := 0) (u := .slice none 0 0) (l := []) (World.ownsRow_nil _ _ _ _) (hv.keep b1 (Nat.le_refl _)) (by omega) (by unfold maxLen; omega) (Nat.le_refl _) (by rcases hn with h | h; exact .inl h; exact .inr ⟨h, rfl⟩)
  rw [Nat.zero_add, List.nil_append] at hrow1
  have hlt1 : w.heap.size + 1 < W1.heap.size := block_lt hY
  obtain ⟨g, cap, w6, hrun2, hrow2, _, _, hb6⟩ := append_adj hrow1 ((0 : Int), (77 : Int)) hl hb2.size
  have hB := hb2.trans hb6
  have hX6 := (hB.block _ (block_lt hX)).trans hX
  have hY6 := (hB.block _ (block_lt hY)).trans hY
  have hcap : r.adjs.length + 1 ≤ cap := by
    rcases hrow2.2 with ⟨h, _⟩ | ⟨g', c', cur, h, _, _, h1, _⟩
    · simp at h
    · simp at h
      omega
  have hbw := b1.trans (hB.mono b1.size)
  obtain ⟨aa, acap, rfl, hal, _, _⟩ := hv.ads
  obtain ⟨xa, xcap, rfl⟩ := row_shape hrow1
  obtain ⟨W7, hW7⟩ : ∃ W7, w6.setCell ⟨w.heap.size, 5, none⟩ (.slice (some ⟨g, 0, none⟩) r.adjs.length cap) = W7 := ⟨_, rfl⟩
  have hF7 : Fr (fun k => k ≤ w.heap.size + 1) w6 W7 := by rw [← hW7]; exact (Fr.refl (fun k => k ≤ w.heap.size + 1) w6).set (p := ⟨w.heap.size, 5, none⟩) (Nat.le_succ _) _
  have hX7 : W7.heap[w.heap.size]? = some (recO r (.slice (some ⟨g, 0, none⟩) r.adjs.length cap)) := by
    rw [← hW7]
    have := heap_setCell_same w6 w.heap.size 5 _ _ (.slice (some ⟨g, 0, none⟩) r.adjs.length cap) hX6
    simpa using this
  have hY7 : W7.heap[w.heap.size + 1]? = some zeroO := by rw [← hW7]; exact (Below.heap_setCell _ _ _ _ (by show w.heap.size + 1 ≠ w.heap.size; omega)).trans hY6
  have hb7 : Below w.heap.size w W7 := by rw [← hW7]; exact hbw.setCell (p := ⟨w.heap.size, 5, none⟩) (Nat.le_refl _) _
  have HR2 := hidIn hrow2
  have HX7 := hidIn hX7
  have HY7 := hidIn hY7
  have HB7 := hidIn hb7
  have HF7 := hidIn hF7
  have HW := hidIn hW1
  have HW7 := hidIn hW7
  have HRun1 := hidIn hrun1
  have HRun2 := hidIn hrun2
  obtain ⟨O, E, Q, C, I, L⟩ := r
  have a5 := cell_of_row _ _ 5 _ _ _ hX
  have k5 := cell_of_row _ _ 5 _ _ _ hX6
  simp at a5 k5
  have f5 := frozen_new hX6 5
  simp only at HR2 HX7 HW HW7 HRun1 HRun2 hcap hal ⊢
  obtain ⟨n, hnl⟩ : ∃ n, L.length = n := ⟨_, rfl⟩
  rw [hnl] at HX7 HW HW7 HRun1 HRun2 hcap hal a5 k5 ⊢
  have Hn := hidIn hnl
  have hni : (n : Int) ≤ (n : Int) + 1 := by omega
  have hnc : (n : Int) ≤ (cap : Int) := by omega
  clear hW1 b1 hX hY hrun1 hrow1 hb2 hrun2 hrow2 hb6 hB hX6 hY6 hbw hW7 hF7 hX7 hY7 hb7 hv hn hl hnl
  go_enter Try.func9, Try.ntmps9
  go_upto_region 1 with fail
  rw [show (w.alloc _).alloc _ = W1 from HW.out]
  clear HW
  go_upto_region 4 with (first | (refine l_append rfl _ _ 23 rfl HRun1.out ?_) | (refine l_append rfl _ _ 23 rfl HRun2.out ?_))
  rw [HW7.out]
  clear HW7 HRun1 HRun2 a5 k5 f5
  have x0 := cell_of_row _ _ 0 _ _ _ HX7.out
  have x1 := cell_of_row _ _ 1 _ _ _ HX7.out
  have x2 := cell_of_row _ _ 2 _ _ _ HX7.out
  have x3 := cell_of_row _ _ 3 _ _ _ HX7.out
  have x4 := cell_of_row _ _ 4 _ _ _ HX7.out
  have x5 := cell_of_row _ _ 5 _ _ _ HX7.out
  have y0 := cell_of_row _ _ 0 _ _ _ HY7.out
  have y1 := cell_of_row _ _ 1 _ _ _ HY7.out
  have y2 := cell_of_row _ _ 2 _ _ _ HY7.out
  have y3 := cell_of_row _ _ 3 _ _ _ HY7.out
  have y4 := cell_of_row _ _ 4 _ _ _ HY7.out
  have y5 := cell_of_row _ _ 5 _ _ _ HY7.out
  have g0 := frozen_new HY7.out 0
  have g1 := frozen_new HY7.out 1
  have g2 := frozen_new HY7.out 2
  have g3 := frozen_new HY7.out 3
  have g4 := frozen_new HY7.out 4
  have g5 := frozen_new HY7.out 5
  simp at x0 x1 x2 x3 x4 x5 y0 y1 y2 y3 y4 y5
  go_wp2_with fail
  have hV := set6 (.int .i64 O) (.int .u32 E) (.int .u32 Q) (.int .i64 C) (.bool I) (.slice (some ⟨g, 0, none⟩) n cap) HY7.out
  have hFV := fr6 (S := fun k => k ≤ w.heap.size + 1) HF7.out (Nat.le_refl _) (.int .i64 O) (.int .u32 E) (.int .u32 Q) (.int .i64 C) (.bool I) (.slice (some ⟨g, 0, none⟩) n cap)
  have hF2 := fr6 (S := fun k => k = w.heap.size + 1) (Fr.refl _ W7) rfl (.int .i64 O) (.int .u32 E) (.int .u32 Q) (.int .i64 C) (.bool I) (.slice (some ⟨g, 0, none⟩) n cap)
  have HBV := hidIn (HB7.out.trans (hF2.below HB7.out.size (fun k hk => by omega)))
  have HRV := hidIn (row_fr HR2.out hFV (fun j hj e => by have := (HR2.out.lt j hj).1; omega))
  clear hFV hF2
  generalize (((((World.setCell _ _ _).setCell _ _).setCell _ _).setCell _ _).setCell _ _).setCell _ _ = Z at hV HBV HRV ⊢
  clear x0 x1 x2 x3 x4 x5 y0 y1 y2 y3 y4 y5 g0 g1 g2 g3 g4 g5
  have e0 := cell_of_row _ _ 0 _ _ _ hV
  have e1 := cell_of_row _ _ 1 _ _ _ hV
  have e2 := cell_of_row _ _ 2 _ _ _ hV
  have e3 := cell_of_row _ _ 3 _ _ _ hV
  have e4 := cell_of_row _ _ 4 _ _ _ hV
  have e5 := cell_of_row _ _ 5 _ _ _ hV
  simp at e0 e1 e2 e3 e4 e5
  refine bodyPost_ret (v := .agg #[.int .i64 O, .int .u32 E, .int .u32 Q, .int .i64 C, .bool I, .slice (some ⟨g, 0, none⟩) n cap]) (by simp [results, Try.results9, asAddr, Result.andThen, go_sem, e0, e1, e2, e3, e4, e5]) rfl ⟨⟨g, cap, by rw [← Hn.out], ?_⟩, HBV.out⟩
  exact row_low HRV.out (by omega)
end Go.Proofs.Ytclnhohfiimcdaa
