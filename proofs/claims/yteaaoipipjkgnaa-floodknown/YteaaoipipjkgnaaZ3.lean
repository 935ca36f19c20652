/- The law's rec, is; what stays of sends. The law's works. Floods that are none. FloodKnown's states. FloodKnown. -/
import Derived.Test.YteaaoipipjkgnaaZ2
namespace Go.Proofs.Yteaaoipipjkgnaa
open Go.RowKit Go.Maps

/-- A block of cells that is no flood's is none that a call turns. -/
theorem FlAt.noB {w : World} {P O S M n : Nat} {s : Fp} {f : Sf} {ob : Int → Option Nat} (h : FlAt w P O S M n s f ob) {j : Nat} {cs : Array Value} {t : TypeId} (hj : w.heap[j]? = some (Obj.cells cs t)) (ht : t ≠ 91) : ¬ FlB P O M ob j := by
  have hm : ∀ B, (∃ es cl, w.heap[B]? = some (Obj.map es cl)) → j ≠ B := fun B hB e => by
    obtain ⟨es, cl, hb⟩ := hB
    rw [← e, hj] at hb
    cases hb
  rintro (e | e | e | ⟨k, e⟩)
  · rw [e, h.p] at hj
    simp only [Option.some.injEq, Obj.cells.injEq] at hj
    exact ht hj.2.1.symm
  · exact hm O h.o.isMap e
  · exact hm M h.st.m.isMap e
  · obtain ⟨d, _, h2⟩ := h.i k j e
    exact hm j h2.isMap rfl
theorem SndAns.call {w0 w w' : World} {P O S M n : Nat} {s : Fp} {f : Sf} {ob : Int → Option Nat} {T : List (Int × Rc)} {u : Value} (h : SndAns w0 w T u) (hf : FlAt w P O S M n s f ob) (hF : Fr (FlB P O M ob) w w') : SndAns w0 w' T u := by
  obtain ⟨L, h1, h2, h3⟩ := h
  refine ⟨L, row_fr h1 hF (fun j hj => ?_), h2, fun x hx => (h3 x hx).fr hF (fun g cur hg => hf.noB hg (by decide))⟩
  obtain ⟨cur, hc⟩ := rowTy h1 hj
  exact hf.noB hc (by decide)
theorem SndAns.keep {w0 w w' : World} {T : List (Int × Rc)} {u : Value} (h : SndAns w0 w T u) (hb : Below w.heap.size w w') : SndAns w0 w' T u := by
  obtain ⟨L, h1, h2, h3⟩ := h
  exact ⟨L, row_below h1 hb (Nat.le_refl _), h2, fun x hx => (h3 x hx).keep hb⟩
theorem SndAns.shape {w0 w : World} {T : List (Int × Rc)} {u : Value} (h : SndAns w0 w T u) : ∃ a c, u = .slice a T.length c := by
  obtain ⟨L, h1, h2, _⟩ := h
  obtain ⟨a, c, e⟩ := row_shape h1
  exact ⟨a, c, by rw [← h2, sdl_len]; exact e⟩
set_option maxRecDepth 100000 in
theorem lrec_any (o e q : Int) (w : World) : Calls Try.prog 26 #[.int .i64 o, .int .u32 e, .int .u32 q] w fun r w' => r = .returned (.agg #[.int .i64 o, .int .u32 e, .int .u32 q, .int .i64 0, .bool false, .slice none 0 0]) ∧ Below w.heap.size w w' := by
  obtain ⟨W1, hW1⟩ : ∃ W1, w.alloc (.cells #[.int .i64 0, .int .u32 0, .int .u32 0, .int .i64 0, .bool false, .slice none 0 0] 38) = W1 := ⟨_, rfl⟩
  have b1 : Below w.heap.size w W1 := by rw [← hW1]; exact (Below.refl _ w).alloc (Nat.le_refl _) _
  have hz : W1.heap[w.heap.size]? = some (.cells #[.int .i64 0, .int .u32 0, .int .u32 0, .int .i64 0, .bool false, .slice none 0 0] 38) := by rw [← hW1]; exact heap_alloc_last w _
  obtain ⟨b6, hb6⟩ : ∃ b6, w.heap.size = b6 := ⟨_, rfl⟩
  have hb6l : w.heap.size ≤ b6 := Nat.le_of_eq hb6
  rw [hb6] at hz
  have z0 := cell_of_row _ _ 0 _ _ _ hz
  have z1 := cell_of_row _ _ 1 _ _ _ hz
  have z2 := cell_of_row _ _ 2 _ _ _ hz
  have z3 := cell_of_row _ _ 3 _ _ _ hz
  have z4 := cell_of_row _ _ 4 _ _ _ hz
  have z5 := cell_of_row _ _ 5 _ _ _ hz
  have y0 := frozen_new hz 0
  have y1 := frozen_new hz 1
  have y2 := frozen_new hz 2
  have y3 := frozen_new hz 3
  have y4 := frozen_new hz 4
  have y5 := frozen_new hz 5
  simp at z0 z1 z2 z3 z4 z5
  have HW := hidIn hW1
  have HB1 := hidIn b1
  have Hz := hidIn hz
  have Hl := hidIn hb6l
  clear hW1 b1 hz hb6l
  go_enter Try.func26, Try.ntmps26
  go_upto_region 1 with fail
  rw [HW.out]
  clear HW hb6
  go_wp2_with fail
  have hset := set6 (.int .i64 o) (.int .u32 e) (.int .u32 q) (.int .i64 0) (.bool false) (.slice none 0 0) Hz.out
  have hbs := (((((HB1.out.setCell (p := ⟨b6, 0, none⟩) Hl.out (.int .i64 o)).setCell (p := ⟨b6, 1, none⟩) Hl.out (.int .u32 e)).setCell (p := ⟨b6, 2, none⟩) Hl.out (.int .u32 q)).setCell (p := ⟨b6, 3, none⟩) Hl.out (.int .i64 0)).setCell (p := ⟨b6, 4, none⟩) Hl.out (.bool false)).setCell (p := ⟨b6, 5, none⟩) Hl.out (.slice none 0 0)
  generalize (((((World.setCell _ _ _).setCell _ _).setCell _ _).setCell _ _).setCell _ _).setCell _ _ = Z at hset hbs ⊢
  clear z0 z1 z2 z3 z4 z5 y0 y1 y2 y3 y4 y5
  have e0 := cell_of_row _ _ 0 _ _ _ hset
  have e1 := cell_of_row _ _ 1 _ _ _ hset
  have e2 := cell_of_row _ _ 2 _ _ _ hset
  have e3 := cell_of_row _ _ 3 _ _ _ hset
  have e4 := cell_of_row _ _ 4 _ _ _ hset
  have e5 := cell_of_row _ _ 5 _ _ _ hset
  simp at e0 e1 e2 e3 e4 e5
  exact bodyPost_ret (v := .agg #[.int .i64 o, .int .u32 e, .int .u32 q, .int .i64 0, .bool false, .slice none 0 0]) (by simp [results, Try.results26, asAddr, Result.andThen, go_sem, e0, e1, e2, e3, e4, e5]) rfl ⟨rfl, hbs⟩
set_option maxRecDepth 100000 in
set_option maxHeartbeats 2000000 in
theorem is_yes {w0 w : World} {u : Value} {tt : Int} {r : Rc} {ra : Option Addr} {rc : Nat} (h : SndAns w0 w [(tt, r)] u) (hv : SlAt ac 2 w (.slice ra r.adjs.length rc) r.adjs) :
    Calls Try.prog 27 #[u, .int .i64 tt, recV r (.slice ra r.adjs.length rc)] w fun e w' => e = .returned (.bool true) ∧ Below w.heap.size w w' := by
  obtain ⟨L, h1, h2, h3⟩ := h
  obtain ⟨⟨t', r', v'⟩, rfl⟩ : ∃ x, L = [x] := by
    have : L.length = 1 := by have := congrArg List.length h2; rw [sdl_len] at this; exact this
    match L, this with
    | [x], _ => exact ⟨x, rfl⟩
  simp only [sdl, List.map_cons, List.map_nil, List.cons.injEq, Prod.mk.injEq, and_true] at h2
  obtain ⟨rfl, rfl⟩ := h2
  have hfr := h3 _ (List.mem_singleton.2 rfl)
  obtain ⟨va, vc, e1, e2, _, _⟩ := hfr
  simp only at e1 e2
  subst e1
  obtain ⟨a, cap, hu, _, _, hcell⟩ := slAt_of_row (cs := sdc) (fun _ => rfl) h1 rfl
  obtain ⟨bk, o, rfl, hbk, hc⟩ := hcell (by simp)
  subst hu
  have c0 := hc 0 _ rfl 0 _ rfl
  have c1 := hc 0 _ rfl 1 _ rfl
  have c2 := hc 0 _ rfl 2 _ rfl
  have c3 := hc 0 _ rfl 3 _ rfl
  have c4 := hc 0 _ rfl 4 _ rfl
  have c5 := hc 0 _ rfl 5 _ rfl
  have c6 := hc 0 _ rfl 6 _ rfl
  simp only [Nat.zero_mul, Nat.add_zero] at c0 c1 c2 c3 c4 c5 c6
  obtain ⟨W1, hW1⟩ : ∃ W1, w.alloc (recO r' (.slice ra r'.adjs.length rc)) = W1 := ⟨_, rfl⟩
  have b1 : Below w.heap.size w W1 := by rw [← hW1]; exact (Below.refl _ w).alloc (Nat.le_refl _) _
  have hX : W1.heap[w.heap.size]? = some (recO r' (.slice ra r'.adjs.length rc)) := by rw [← hW1]; exact heap_alloc_last w _
  have HSm : Hid (∀ dd os, Calls Try.prog 28 #[recV r' (.slice va r'.adjs.length vc), recV r' (.slice ra r'.adjs.length rc)] (Go.Sort.grow (redrawn W1 dd) os) fun e w' => e = .returned (.bool true) ∧ Below (Go.Sort.grow (redrawn W1 dd) os).heap.size (Go.Sort.grow (redrawn W1 dd) os) w') := hidIn fun dd os => by
    have hbb := b1.trans ((below_regrown W1 dd os).mono b1.size)
    have := recSame_any (e2.keep hbb (Nat.le_refl _)) (hv.keep hbb (Nat.le_refl _))
    rwa [show sameB r' r' = true by simp [sameB]] at this
  obtain ⟨ro, re, rq, rcl, ri, rl⟩ := r'
  simp only at HSm hX hW1 c1 c2 c3 c4 c5 c6 ⊢
  generalize rl.length = rn at HSm hX hW1 c6 ⊢
  replace c0 := (b1.cell (p := ⟨bk, o, none⟩) hbk).trans c0
  replace c1 := (b1.cell (p := ⟨bk, o + 1, none⟩) hbk).trans c1
  replace c2 := (b1.cell (p := ⟨bk, o + 2, none⟩) hbk).trans c2
  replace c3 := (b1.cell (p := ⟨bk, o + 3, none⟩) hbk).trans c3
  replace c4 := (b1.cell (p := ⟨bk, o + 4, none⟩) hbk).trans c4
  replace c5 := (b1.cell (p := ⟨bk, o + 5, none⟩) hbk).trans c5
  replace c6 := (b1.cell (p := ⟨bk, o + 6, none⟩) hbk).trans c6
  obtain ⟨b5, hb5⟩ : ∃ b5, w.heap.size = b5 := ⟨_, rfl⟩
  rw [hb5] at hX
  have x0 := cell_of_row _ _ 0 _ _ _ hX
  have x1 := cell_of_row _ _ 1 _ _ _ hX
  have x2 := cell_of_row _ _ 2 _ _ _ hX
  have x3 := cell_of_row _ _ 3 _ _ _ hX
  have x4 := cell_of_row _ _ 4 _ _ _ hX
  have x5 := cell_of_row _ _ 5 _ _ _ hX
  simp at x0 x1 x2 x3 x4 x5
  have k0 := cell_regrown c0
  have k1 := cell_regrown c1
  have k2 := cell_regrown c2
  have k3 := cell_regrown c3
  have k4 := cell_regrown c4
  have k5 := cell_regrown c5
  have k6 := cell_regrown c6
  have y0 := cell_regrown x0
  have y1 := cell_regrown x1
  have y2 := cell_regrown x2
  have y3 := cell_regrown x3
  have y4 := cell_regrown x4
  have y5 := cell_regrown x5
  have HW := hidIn hW1
  have HB1 := hidIn b1
  clear hW1 b1 hX h1 h3 hv e2 hcell hc hbk
  go_enter Try.func27, Try.ntmps27
  go_upto_region 1 with fail
  rw [show w.alloc _ = W1 from HW.out]
  clear HW hb5
  refine wp_region_quiet_below (by kernel_rfl) (by kernel_rfl) ?_
  repeat (go_big_quiet_step (first
    | (go_at_call 28; exact Calls.regrown_of (HSm.out _ _))))
  refine wpQuiet_nil ?_
  rintro _ ⟨⟨dq, osq⟩, rfl⟩
  have hbr := below_regrown W1 dq osq
  generalize Go.Sort.grow (redrawn W1 dq) osq = W2 at hbr ⊢
  have HO := hidIn (HB1.out.trans (hbr.mono HB1.out.size))
  clear hbr c0 c1 c2 c3 c4 c5 c6 k0 k1 k2 k3 k4 k5 k6 x0 x1 x2 x3 x4 x5 y0 y1 y2 y3 y4 y5
  go_wp2_with fail
  go_ret
  exact ⟨rfl, HO.out⟩
end Go.Proofs.Yteaaoipipjkgnaa
namespace Go.Proofs.Yteaaoipipjkgnaa
open Go.RowKit Go.Maps

def wr1 : Rc := ⟨1, 1, 1, 7, false, []⟩
def wF1 : Rf := putR noR9 wr1
def ws0 : Fp := newFp 1 1 4
def ws1 : Fp := (ws0.tick 0).oweL (upL ws0 0 24) 1 0
def ws2 : Fp := ((ws1.up 2).tick 0).oweO 2 [1] 0
def ws3 : Fp := (ws2.tick 3).tickL (upL ws2 0 24) 3
def ws4 : Fp := (ws3.tick 4).tickL (upL ws3 0 24) 4
def ws5 : Fp := ws4.free 2 1
theorem wk_new : nwOk 1 1 4 = true := by decide
theorem wk_own : tkOk ws0 0 = true ∧ ownR ws0 rc0 7 false [] = wr1 ∧ recOk wr1 = true ∧ upL ws0 0 24 = [] := ⟨by decide, rfl, by decide, by decide⟩
theorem wk_up : isOth ws1 2 = true ∧ tkOk ws1 0 = true ∧ (ws1.ow 2).isSome = false := ⟨by decide, by decide, by decide⟩
theorem wk_all : allR wF1 24 = [wr1] ∧ gD (wF1 1) = wr1 := ⟨by kernel_rfl, by kernel_rfl⟩
theorem wk_t3 : tkOk ws2 3 = true ∧ upL ws2 0 24 = [2] ∧ dueO ws2 2 3 = [] := ⟨by decide, by decide, by decide⟩
theorem wk_t4 : tkOk ws3 4 = true ∧ upL ws3 0 24 = [2] ∧ dueO ws3 2 4 = [1] := ⟨by decide, by decide, by decide⟩
theorem wk_end : pendA ws4 = 1 ∧ isOth ws4 2 = true ∧ mayS 1 1 1 = true ∧ (ws4.ow 2).isSome = true ∧ pendA ws5 = 0 := ⟨by decide, by decide, by decide, by decide, by decide⟩
set_option maxRecDepth 100000 in
set_option maxHeartbeats 8000000 in
theorem fworks_any (w : World) : Calls Try.prog 9 #[] w fun e w' => e = .returned (.bool true) ∧ Below w.heap.size w w' := by
  go_enter Try.func9, Try.ntmps9
  go_wp2_with fail
  refine (fnew_any 1 1 4 (by omega) _).mono ?_
  rintro e w1 ⟨h1, hb1⟩
  rcases h1 with ⟨h1, _⟩ | ⟨_, P, O, S, M, rfl, hfl, hP, hO, hS, hM⟩
  · rw [wk_new] at h1
    cases h1
  have HFl1 : Hid (FlAt w1 P O S M 0 ws0 (fun _ => none) (fun _ => none)) := hidIn hfl
  have HPO := hidIn (And.intro hP (And.intro hO hM))
  have HB1 := hidIn hb1
  clear hfl hP hO hS hM hb1
  go_wp2_with fail
  refine (lrec_any 1 1 1 _).mono ?_
  rintro e w2 ⟨rfl, hb2⟩
  obtain ⟨W3, hW3⟩ : ∃ W3, w2.alloc (.cells #[.int .i64 1, .int .u32 1, .int .u32 1, .int .i64 0, .bool false, .slice none 0 0] 38) = W3 := ⟨_, rfl⟩
  have b3' : Below w2.heap.size w2 W3 := by rw [← hW3]; exact (Below.refl _ w2).alloc (Nat.le_refl _) _
  have hX3 : W3.heap[w2.heap.size]? = some (.cells #[.int .i64 1, .int .u32 1, .int .u32 1, .int .i64 0, .bool false, .slice none 0 0] 38) := by rw [← hW3]; exact heap_alloc_last w2 _
  have b13 := hb2.trans (b3'.mono hb2.size)
  have hwl : w.heap.size ≤ w2.heap.size := Nat.le_trans HB1.out.size hb2.size
  have h1l : w1.heap.size ≤ w2.heap.size := hb2.size
  obtain ⟨b3, hb3⟩ : ∃ b3, w2.heap.size = b3 := ⟨_, rfl⟩
  rw [hb3] at hX3 hwl h1l
  have q3 := cell_of_row _ _ 3 _ _ _ hX3
  simp at q3
  have qf := frozen_new hX3 3
  obtain ⟨W4, hW4⟩ : ∃ W4, W3.setCell ⟨b3, 3, none⟩ (.int .i64 7) = W4 := ⟨_, rfl⟩
  have hX4 : W4.heap[b3]? = some (.cells #[.int .i64 1, .int .u32 1, .int .u32 1, .int .i64 7, .bool false, .slice none 0 0] 38) := by
    rw [← hW4]
    have := heap_setCell_same W3 b3 3 _ _ (.int .i64 7) hX3
    simp at this
    exact this
  have b14 : Below w1.heap.size w1 W4 := by rw [← hW4]; exact b13.setCell (p := ⟨b3, 3, none⟩) h1l _
  have HX4 := hidIn hX4
  have HFl4 := hidIn (HFl1.out.keep b14)
  have HB4 := hidIn (HB1.out.trans (b14.mono HB1.out.size))
  have HOw := hidIn (fown_any HFl4.out (by omega) (claim := 7) (now := 0) (ing := false) (l := []) (va := .slice none 0 0) (slAt_of_row (cs := ac) (fun _ => rfl) (World.ownsRow_nil W4 0 98 2) rfl) (fun r u h => by cases h))
  have HW3 := hidIn hW3
  have HW4 := hidIn hW4
  clear hb2 hW3 hW4 b3' hX3 b13 b14 hX4 HFl1 HB1 hwl h1l
  go_upto_region 5 with fail
  rw [HW3.out]
  clear HW3 hb3
  go_upto_region 6 with fail
  rw [HW4.out]
  clear HW4 q3 qf
  go_wp2_with fail
  refine HOw.out.mono ?_
  rintro e w5 h5
  have hro : rOf ((fun _ => none : Sf) ws0.self) = rc0 := rfl
  unfold OwnAns at h5
  rw [hro, wk_own.2.1, wk_own.2.2.2] at h5
  rcases h5 with ⟨h5, _⟩ | ⟨_, _, h5, _⟩ | ⟨_, _, _, u0, f1, rfl, hf1, hfl5, hs5, hF⟩
  · rw [wk_own.1, wk_own.2.2.1] at h5
    simp at h5
  · exact absurd h5 (by decide)
  have Hf1 : Hid (fR f1 = wF1) := hidIn hf1
  have HFl5 : Hid (FlAt w5 P O S M 1 ws1 f1 (fun _ => none)) := hidIn (by unfold ws1; rw [wk_own.2.2.2]; exact hfl5)
  obtain ⟨ua0, uc0, rfl⟩ := hs5.shape
  have HX5 := hidIn ((hF.block b3 (block_lt HX4.out) (HFl4.out.noB HX4.out (by decide))).trans HX4.out)
  have HB5 := hidIn (HB4.out.trans (hF.below HB4.out.size (fun j hj => by rcases hj with e | e | e | ⟨k, e⟩; rw [e]; exact HPO.out.1; rw [e]; exact HPO.out.2.1; rw [e]; exact HPO.out.2.2; cases e)))
  have HUp := hidIn (fup2_any HFl5.out 2 0)
  clear hf1 hfl5 hs5 hF hro HOw HFl4 HX4 HB4
  simp only [List.map_nil, List.length_nil]
  go_wp2_with fail
  refine HUp.out.mono ?_
  rintro e w6 h6
  have hal : allL f1 24 = [wr1] := by rw [allL_fR, Hf1.out]; exact wk_all.1
  unfold UpAns at h6
  rw [hal] at h6
  rcases h6 with ⟨h6, _⟩ | ⟨_, _, h6, _⟩ | ⟨_, _, _, u1, rfl, hfl6, hs6, hF⟩
  · rw [wk_up.1, wk_up.2.1] at h6
    simp at h6
  · rw [wk_up.2.2] at h6
    cases h6
  have Hob : Hid (w.heap.size ≤ w5.heap.size) := hidIn HB5.out.size
  obtain ⟨ob, hob⟩ : ∃ ob, putO (fun _ => none : Int → Option Nat) 2 w5.heap.size = ob := ⟨_, rfl⟩
  have HobW : Hid (∀ k j, ob k = some j → w.heap.size ≤ j) := hidIn fun k j hk => by
    rw [← hob] at hk
    unfold putO at hk
    split at hk
    · cases hk; exact Hob.out
    · cases hk
  rw [hob] at hfl6
  have HFl6 : Hid (FlAt w6 P O S M 1 ws2 f1 ob) := hidIn hfl6
  have HS6 : Hid (SndAns w5 w6 [(2, wr1)] u1) := hidIn hs6
  have HX6 := hidIn ((hF.block b3 (block_lt HX5.out) (HFl5.out.noB HX5.out (by decide))).trans HX5.out)
  have HB6 := hidIn (HB5.out.trans (hF.below HB5.out.size (fun j hj => by rcases hj with e | e | e | ⟨k, e⟩; rw [e]; exact HPO.out.1; rw [e]; exact HPO.out.2.1; rw [e]; exact HPO.out.2.2; cases e)))
  have HTk3 := hidIn (ftick2_any HFl6.out 3)
  obtain ⟨ua1, uc1, hu1⟩ := HS6.out.shape
  subst hu1
  clear hfl6 hs6 hF hal hob HUp HFl5 HX5 HB5 Hob
  simp only [List.length_cons, List.length_nil]
  go_wp2_with fail
  refine HTk3.out.mono ?_
  rintro e w7 h7
  rcases h7 with ⟨h7, _⟩ | ⟨_, u2, rfl, hfl7, hs7, hF⟩
  · rw [wk_t3.1] at h7
    cases h7
  have ht7 : tkT ws2 f1 (upL ws2 0 24) 3 = [] := by rw [wk_t3.2.1]; unfold tkT; simp [wk_t3.2.2]
  rw [ht7] at hs7
  have HFl7 : Hid (FlAt w7 P O S M 1 ws3 f1 ob) := hidIn hfl7
  obtain ⟨ua2, uc2, rfl⟩ := hs7.shape
  have HX7 := hidIn ((hF.block b3 (block_lt HX6.out) (HFl6.out.noB HX6.out (by decide))).trans HX6.out)
  have HS7 := hidIn (HS6.out.call HFl6.out hF)
  have HB7 := hidIn (HB6.out.trans (hF.below HB6.out.size (fun j hj => by rcases hj with e | e | e | ⟨k, e⟩; rw [e]; exact HPO.out.1; rw [e]; exact HPO.out.2.1; rw [e]; exact HPO.out.2.2; exact HobW.out k j e)))
  have HTk4 := hidIn (ftick2_any HFl7.out 4)
  clear hfl7 hs7 hF ht7 HTk3 HFl6 HX6 HB6 HS6
  simp only [List.length_nil]
  go_wp2_with fail
  refine HTk4.out.mono ?_
  rintro e w8 h8
  rcases h8 with ⟨h8, _⟩ | ⟨_, u3, rfl, hfl8, hs8, hF⟩
  · rw [wk_t4.1] at h8
    cases h8
  have hr1 : rOf (f1 1) = wr1 := by rw [rOf_fR, Hf1.out]; exact wk_all.2
  have ht8 : tkT ws3 f1 (upL ws3 0 24) 4 = [(2, wr1)] := by rw [wk_t4.2.1]; unfold tkT; simp [wk_t4.2.2, hr1]
  rw [ht8] at hs8
  have HFl8 : Hid (FlAt w8 P O S M 1 ws4 f1 ob) := hidIn hfl8
  have HT8 : Hid (SndAns w7 w8 [(2, wr1)] u3) := hidIn hs8
  have Hr1 := hidIn hr1
  have HX8 := hidIn ((hF.block b3 (block_lt HX7.out) (HFl7.out.noB HX7.out (by decide))).trans HX7.out)
  have HS8 := hidIn (HS7.out.call HFl7.out hF)
  have HB8 := hidIn (HB7.out.trans (hF.below HB7.out.size (fun j hj => by rcases hj with e | e | e | ⟨k, e⟩; rw [e]; exact HPO.out.1; rw [e]; exact HPO.out.2.1; rw [e]; exact HPO.out.2.2; exact HobW.out k j e)))
  obtain ⟨ua3, uc3, hu3⟩ := HT8.out.shape
  subst hu3
  have HIs1 : Hid (Calls Try.prog 27 #[.slice ua1 1 uc1, .int .i64 2, .agg #[.int .i64 1, .int .u32 1, .int .u32 1, .int .i64 7, .bool false, .slice none 0 0]] w8 fun e w' => e = .returned (.bool true) ∧ Below w8.heap.size w8 w') := hidIn (is_yes (r := wr1) (ra := none) (rc := 0) HS8.out (slAt_of_row (cs := ac) (fun _ => rfl) (World.ownsRow_nil w8 0 98 2) rfl))
  clear hfl8 hs8 hF ht8 HTk4 HFl7 HX7 HB7 HS7 hr1
  simp only [List.length_cons, List.length_nil]
  have x0 := cell_of_row _ _ 0 _ _ _ HX8.out
  have x1 := cell_of_row _ _ 1 _ _ _ HX8.out
  have x2 := cell_of_row _ _ 2 _ _ _ HX8.out
  have x3 := cell_of_row _ _ 3 _ _ _ HX8.out
  have x4 := cell_of_row _ _ 4 _ _ _ HX8.out
  have x5 := cell_of_row _ _ 5 _ _ _ HX8.out
  simp at x0 x1 x2 x3 x4 x5
  go_wp2_with fail
  refine HIs1.out.mono ?_
  rintro e w9 ⟨rfl, hb9⟩
  have HFl9 := hidIn (HFl8.out.keep hb9)
  have HX9 := hidIn ((hb9.block _ (block_lt HX8.out)).trans HX8.out)
  have HT9 := hidIn (HT8.out.keep hb9)
  have HB9 := hidIn (HB8.out.trans (hb9.mono HB8.out.size))
  have HIs2 : Hid (Calls Try.prog 27 #[.slice ua3 1 uc3, .int .i64 2, .agg #[.int .i64 1, .int .u32 1, .int .u32 1, .int .i64 7, .bool false, .slice none 0 0]] w9 fun e w' => e = .returned (.bool true) ∧ Below w9.heap.size w9 w') := hidIn (is_yes (r := wr1) (ra := none) (rc := 0) HT9.out (slAt_of_row (cs := ac) (fun _ => rfl) (World.ownsRow_nil w9 0 98 2) rfl))
  clear hb9 x0 x1 x2 x3 x4 x5 HIs1 HFl8 HX8 HT8 HB8 HS8
  have x0 := cell_of_row _ _ 0 _ _ _ HX9.out
  have x1 := cell_of_row _ _ 1 _ _ _ HX9.out
  have x2 := cell_of_row _ _ 2 _ _ _ HX9.out
  have x3 := cell_of_row _ _ 3 _ _ _ HX9.out
  have x4 := cell_of_row _ _ 4 _ _ _ HX9.out
  have x5 := cell_of_row _ _ 5 _ _ _ HX9.out
  simp at x0 x1 x2 x3 x4 x5
  go_wp2_with fail
  refine HIs2.out.mono ?_
  rintro e w10 ⟨rfl, hb10⟩
  have HFl10 := hidIn (HFl9.out.keep hb10)
  have HX10 := hidIn ((hb10.block _ (block_lt HX9.out)).trans HX9.out)
  have HB10 := hidIn (HB9.out.trans (hb10.mono HB9.out.size))
  have HPe := hidIn (fpend_any HFl10.out)
  rw [wk_end.1] at HPe
  clear hb10 x0 x1 x2 x3 x4 x5 HIs2 HFl9 HX9 HT9 HB9
  go_wp2_with fail
  refine HPe.out.mono ?_
  rintro e w11 ⟨rfl, hb11⟩
  have HFl11 := hidIn (HFl10.out.keep hb11)
  have HX11 := hidIn ((hb11.block _ (block_lt HX10.out)).trans HX10.out)
  have HB11 := hidIn (HB10.out.trans (hb11.mono HB10.out.size))
  clear hb11 HPe HFl10 HX10 HB10
  have x0 := cell_of_row _ _ 0 _ _ _ HX11.out
  have x1 := cell_of_row _ _ 1 _ _ _ HX11.out
  have x2 := cell_of_row _ _ 2 _ _ _ HX11.out
  have x3 := cell_of_row _ _ 3 _ _ _ HX11.out
  have x4 := cell_of_row _ _ 4 _ _ _ HX11.out
  have x5 := cell_of_row _ _ 5 _ _ _ HX11.out
  simp at x0 x1 x2 x3 x4 x5
  go_wp2_with fail
  refine (stamp_lit 1 1 1 7 false none 0 0 _).mono ?_
  rintro e w12 ⟨rfl, hb12⟩
  have HFl12 := hidIn (HFl11.out.keep hb12)
  have HB12 := hidIn (HB11.out.trans (hb12.mono HB11.out.size))
  have HAk := hidIn (fack_any HFl12.out 2 1 1 1 (by omega) (by omega))
  clear hb12 x0 x1 x2 x3 x4 x5 HFl11 HX11 HB11
  go_wp2_with fail
  refine HAk.out.mono ?_
  rintro e w13 h13
  unfold AckAns at h13
  rcases h13 with ⟨h13, _⟩ | ⟨_, _, h13, _⟩ | ⟨_, _, _, rfl, hfl13, hF⟩
  · rw [wk_end.2.1, wk_end.2.2.1] at h13
    simp at h13
  · rw [wk_end.2.2.2.1] at h13
    cases h13
  rw [Hr1.out, if_pos (show stOf wr1 = (1, 1, 1) from rfl)] at hfl13
  have HB13 := hidIn (HB12.out.trans (hF.below HB12.out.size (fun j hj => by obtain ⟨k, e⟩ := hj; exact HobW.out k j e)))
  have HPe := hidIn (fpend_any (s := ws5) hfl13)
  rw [wk_end.2.2.2.2] at HPe
  clear hfl13 hF HAk HFl12 HB12
  go_wp2_with fail
  refine HPe.out.mono ?_
  rintro e w14 ⟨rfl, hb14⟩
  have HB14 := hidIn (HB13.out.trans (hb14.mono HB13.out.size))
  clear hb14 HPe HB13
  go_wp2_with fail
  go_ret
  exact ⟨rfl, HB14.out⟩
end Go.Proofs.Yteaaoipipjkgnaa
namespace Go.Proofs.Yteaaoipipjkgnaa
open Go.RowKit Go.Maps

/-- A flood that is none: nil, or one that New did not make. -/
def NoFl (w : World) (o : Option Addr) : Prop := o = none ∨ ∃ P, o = some ⟨P, 0, none⟩ ∧ w.heap[P]? = some (.cells #[.int .i64 0, .int .u32 0, .int .u64 0, .int .u64 0, .pointer none, .map none] 91)
theorem NoFl.keep {w w' : World} {o : Option Addr} (h : NoFl w o) (hb : Below w.heap.size w w') : NoFl w' o := by
  rcases h with h | ⟨P, h1, h2⟩
  · exact .inl h
  · exact .inr ⟨P, h1, (hb.block _ (block_lt h2)).trans h2⟩
theorem neqOn (w : World) : (binOp BinOp.neq 89 (.map none) (.map none)).run Try.prog w = .ok (.bool false) w := by kernel_rfl
set_option maxRecDepth 100000 in
theorem nthere_any {w : World} {o : Option Addr} (h : NoFl w o) : Calls Try.prog 43 #[.pointer o] w fun e w' => e = .returned (.bool false) ∧ w' = w := by
  rcases h with rfl | ⟨P, rfl, h2⟩
  · go_enter Try.func43, Try.ntmps43
    go_wp2_with fail
    go_ret
    exact ⟨rfl, rfl⟩
  · have h0 := cell_of_row _ _ 5 _ _ _ h2
    simp at h0
    have hn := neqOn
    clear h2
    go_enter Try.func43, Try.ntmps43
    go_wp2_with fail
    go_ret
    exact ⟨rfl, rfl⟩
set_option maxRecDepth 100000 in
theorem nup_any {w : World} {o : Option Addr} {p now : Int} (h : NoFl w o) : Calls Try.prog 20 #[.pointer o, .int .i64 p, .int .u64 now] w fun e w' => e = .returned (.tuple #[.slice none 0 0, .int .i64 1]) ∧ Below w.heap.size w w' := by
  have HT := hidIn (nthere_any h)
  clear h
  go_enter Try.func20, Try.ntmps20
  go_wp2_with fail
  refine HT.out.mono ?_
  rintro e w1 ⟨rfl, h1⟩
  rw [h1]
  clear HT h1 w1
  go_wp2_with fail
  go_returns
  exact ⟨rfl, Below.refl _ _⟩
set_option maxRecDepth 100000 in
theorem ndown_any {w : World} {o : Option Addr} {p : Int} (h : NoFl w o) : Calls Try.prog 29 #[.pointer o, .int .i64 p] w fun e w' => e = .returned (.int .i64 1) ∧ Below w.heap.size w w' := by
  have HT := hidIn (nthere_any h)
  clear h
  go_enter Try.func29, Try.ntmps29
  go_wp2_with fail
  refine HT.out.mono ?_
  rintro e w1 ⟨rfl, h1⟩
  rw [h1]
  clear HT h1 w1
  go_wp2_with fail
  go_ret
  exact ⟨rfl, Below.refl _ _⟩
set_option maxRecDepth 100000 in
theorem npend_any {w : World} {o : Option Addr}  (h : NoFl w o) : Calls Try.prog 12 #[.pointer o] w fun e w' => e = .returned (.int .i64 0) ∧ Below w.heap.size w w' := by
  have HT := hidIn (nthere_any h)
  clear h
  go_enter Try.func12, Try.ntmps12
  go_wp2_with fail
  refine HT.out.mono ?_
  rintro e w1 ⟨rfl, h1⟩
  rw [h1]
  clear HT h1 w1
  go_wp2_with fail
  go_ret
  exact ⟨rfl, Below.refl _ _⟩
set_option maxRecDepth 100000 in
theorem nall_any {w : World} {o : Option Addr}  (h : NoFl w o) : Calls Try.prog 11 #[.pointer o] w fun e w' => e = .returned (.slice none 0 0) ∧ Below w.heap.size w w' := by
  have HT := hidIn (nthere_any h)
  clear h
  go_enter Try.func11, Try.ntmps11
  go_wp2_with fail
  refine HT.out.mono ?_
  rintro e w1 ⟨rfl, h1⟩
  rw [h1]
  clear HT h1 w1
  go_wp2_with fail
  go_ret
  exact ⟨rfl, Below.refl _ _⟩
set_option maxRecDepth 100000 in
theorem ncopy_any {w : World} {o : Option Addr}  (h : NoFl w o) : Calls Try.prog 30 #[.pointer o] w fun e w' => e = .returned (.pointer none) ∧ Below w.heap.size w w' := by
  have HT := hidIn (nthere_any h)
  clear h
  go_enter Try.func30, Try.ntmps30
  go_wp2_with fail
  refine HT.out.mono ?_
  rintro e w1 ⟨rfl, h1⟩
  rw [h1]
  clear HT h1 w1
  go_wp2_with fail
  go_ret
  exact ⟨rfl, Below.refl _ _⟩
set_option maxRecDepth 100000 in
theorem ntake_any {w : World} {o : Option Addr} {p now r0 r1 r2 r3 : Int} {r4 : Bool} {ra : Option Addr} {rn rc : Nat} (h : NoFl w o) : Calls Try.prog 21 #[.pointer o, .int .i64 p, .agg #[.int .i64 r0, .int .u32 r1, .int .u32 r2, .int .i64 r3, .bool r4, .slice ra rn rc], .int .u64 now] w fun e w' => e = .returned (.tuple #[.bool false, .slice none 0 0, .int .i64 1]) ∧ Below w.heap.size w w' := by
  obtain ⟨W1, hW1⟩ : ∃ W1, w.alloc (.cells #[.int .i64 r0, .int .u32 r1, .int .u32 r2, .int .i64 r3, .bool r4, .slice ra rn rc] 38) = W1 := ⟨_, rfl⟩
  have b1 : Below w.heap.size w W1 := by rw [← hW1]; exact (Below.refl _ w).alloc (Nat.le_refl _) _
  have HT := hidIn (nthere_any (h.keep b1))
  have HW := hidIn hW1
  have HB1 := hidIn b1
  clear h hW1 b1
  go_enter Try.func21, Try.ntmps21
  go_upto_region 1 with fail
  rw [HW.out]
  clear HW
  go_wp2_with fail
  refine HT.out.mono ?_
  rintro e w1 ⟨rfl, h1⟩
  rw [h1]
  clear HT h1 w1
  go_wp2_with fail
  go_returns
  exact ⟨rfl, HB1.out⟩
set_option maxRecDepth 100000 in
theorem nack_any {w : World} {o : Option Addr} {p r0 r1 r2 : Int} (h : NoFl w o) : Calls Try.prog 25 #[.pointer o, .int .i64 p, .agg #[.int .i64 r0, .int .u32 r1, .int .u32 r2]] w fun e w' => e = .returned (.int .i64 1) ∧ Below w.heap.size w w' := by
  obtain ⟨W1, hW1⟩ : ∃ W1, w.alloc (.cells #[.int .i64 r0, .int .u32 r1, .int .u32 r2] 67) = W1 := ⟨_, rfl⟩
  have b1 : Below w.heap.size w W1 := by rw [← hW1]; exact (Below.refl _ w).alloc (Nat.le_refl _) _
  have HT := hidIn (nthere_any (h.keep b1))
  have HW := hidIn hW1
  have HB1 := hidIn b1
  clear h hW1 b1
  go_enter Try.func25, Try.ntmps25
  go_upto_region 1 with fail
  rw [HW.out]
  clear HW
  go_wp2_with fail
  refine HT.out.mono ?_
  rintro e w1 ⟨rfl, h1⟩
  rw [h1]
  clear HT h1 w1
  go_wp2_with fail
  go_ret
  exact ⟨rfl, HB1.out⟩
set_option maxRecDepth 100000 in
theorem ntick_any {w : World} {o : Option Addr} {now : Int} (h : NoFl w o) : Calls Try.prog 18 #[.pointer o, .int .u64 now] w fun e w' => e = .returned (.tuple #[.slice none 0 0, .int .i64 1]) ∧ Below w.heap.size w w' := by
  obtain ⟨W1, hW1⟩ : ∃ W1, (w.alloc (.cells #[.pointer o] 26)).alloc (.cells #[.int .u64 now] 39) = W1 := ⟨_, rfl⟩
  have b1 : Below w.heap.size w W1 := by rw [← hW1]; exact ((Below.refl _ w).alloc (Nat.le_refl _) _).alloc (by simp) _
  have hA : W1.heap[w.heap.size]? = some (.cells #[.pointer o] 26) := by rw [← hW1, Below.heap_alloc _ _ _ (by simp)]; exact heap_alloc_last w _
  have a0 := cell_of_row _ _ 0 _ _ _ hA
  simp at a0
  clear hA
  have HT := hidIn (nthere_any (h.keep b1))
  have HW := hidIn hW1
  have HB1 := hidIn b1
  clear h hW1 b1
  go_enter Try.func18, Try.ntmps18
  go_upto_region 1 with fail
  rw [HW.out]
  clear HW
  go_wp2_with fail
  refine HT.out.mono ?_
  rintro e w1 ⟨rfl, h1⟩
  rw [h1]
  clear HT h1 w1
  go_wp2_with fail
  go_returns
  exact ⟨rfl, HB1.out⟩
end Go.Proofs.Yteaaoipipjkgnaa
namespace Go.Proofs.Yteaaoipipjkgnaa
open Go.RowKit Go.Maps

def kx : Rc := ⟨5, 1, 1, 0, false, []⟩
def kF2 : Rf := putR wF1 kx
def kr9 : Rc := ⟨1, 1, 9, 0, false, []⟩
def kr10 : Rc := ⟨1, 1, 10, 7, false, []⟩
def kF3 : Rf := putR kF2 kr10
def kr2 : Rc := ⟨1, 2, 1, 0, false, []⟩
def ks3 : Fp := ws2.free 2 1
def ks4 : Fp := ((ks3.up 3).tick 5).oweO 3 [1] 5
def ks5 : Fp := ((ks4.tick 6).free 2 5).oweL (upL ((ks4.tick 6).free 2 5) 2 24) 5 6
def ks6 : Fp := (ks5.tick 6).free 2 5
def ks7 : Fp := (ks6.tick 7).free 3 5
def ks8 : Fp := (ks7.tick 8).oweL (upL (ks7.tick 8) 0 24) 1 8
def ks9 : Fp := (ks8.tick 9).owe 2 1 9
def ks10 : Fp := ks9.down 2
theorem kk_up : isOth ws2 2 = true ∧ tkOk ws2 0 = true ∧ (ws2.ow 2).isSome = true ∧ isOth ws2 1 = false := ⟨by decide, by decide, by decide, by decide⟩
theorem kk_up3 : isOth ks3 3 = true ∧ tkOk ks3 5 = true ∧ (ks3.ow 3).isSome = false := ⟨by decide, by decide, by decide⟩
theorem kk_t1 : isOth ks4 2 = true ∧ recOk kx = true ∧ tkOk ks4 6 = true ∧ (ks4.ow 2).isSome = true ∧ upL ((ks4.tick 6).free 2 5) 2 24 = [3] := ⟨by decide, by decide, by decide, by decide, by decide⟩
theorem kk_t2 : isOth ks5 2 = true ∧ tkOk ks5 6 = true ∧ (ks5.ow 2).isSome = true := ⟨by decide, by decide, by decide⟩
theorem kk_t3 : tkOk ks6 5 = false ∧ isOth ks6 4 = true ∧ (ks6.ow 4).isSome = false ∧ isOth ks6 2 = true ∧ mayS 0 0 0 = false ∧ mayS 1 1 1 = true := ⟨by decide, by decide, by decide, by decide, by decide, by decide⟩
theorem kk_t4 : isOth ks6 3 = true ∧ tkOk ks6 7 = true ∧ (ks6.ow 3).isSome = true ∧ pendA ks7 = 1 := ⟨by decide, by decide, by decide, by decide⟩
theorem kk_t5 : isOth ks7 2 = true ∧ recOk kr9 = true ∧ tkOk ks7 8 = true ∧ (ks7.ow 2).isSome = true ∧ upL (ks7.tick 8) 0 24 = [2, 3] := ⟨by decide, by decide, by decide, by decide, by decide⟩
theorem kk_t6 : isOth ks8 2 = true ∧ recOk kr2 = true ∧ tkOk ks8 9 = true ∧ (ks8.ow 2).isSome = true := ⟨by decide, by decide, by decide, by decide⟩
theorem kk_dn : isOth ks9 2 = true ∧ (ks9.ow 2).isSome = true ∧ isOth ks10 2 = true ∧ (ks10.ow 2).isSome = false ∧ isOth ks10 25 = false := ⟨by decide, by decide, by decide, by decide, by decide⟩
theorem kk_en : tkOk ks10 9 = true ∧ tkOk ks10 1099511627777 = false ∧ recOk (ownR ks10 kr10 1025 false []) = false ∧ nwOk 0 1 4 = false ∧ nwOk 1 0 4 = false ∧ nwOk 1 1 65 = false := ⟨by decide, by decide, by decide, by decide, by decide, by decide⟩
theorem kk_F : gD (wF1 5) = rc0 ∧ gD (kF2 5) = kx ∧ gD (kF2 1) = wr1 ∧ (kF2 1).isSome = true ∧ gD (kF3 1) = kr10 ∧ (kF3 1).isSome = true ∧ (allR kF3 24).length = 2 ∧ gD (kF3 5) = kx := ⟨by kernel_rfl, by kernel_rfl, by kernel_rfl, by kernel_rfl, by kernel_rfl, by kernel_rfl, by kernel_rfl, by kernel_rfl⟩
theorem TkR.same {s : Fp} {f : Sf} {p : Int} {r : Rc} {now : Int} {n : Nat} {ch : Bool} {n' : Nat} {s' : Fp} {f' : Sf} {T : List (Int × Rc)} (h : TkR s f p r now n ch n' s' f' T) (h0 : newI r.epoch r.seq (rOf (f r.origin)).epoch (rOf (f r.origin)).seq = 0) : ch = false ∧ n' = n ∧ s' = s.free p r.origin ∧ f' = f ∧ T = [] := by
  rcases h with ⟨_, h⟩ | ⟨h, _⟩ | ⟨h, _⟩ | ⟨h, _⟩
  · exact h
  · omega
  · omega
  · omega
theorem TkR.news {s : Fp} {f : Sf} {p : Int} {r : Rc} {now : Int} {n : Nat} {ch : Bool} {n' : Nat} {s' : Fp} {f' : Sf} {T : List (Int × Rc)} (h : TkR s f p r now n ch n' s' f' T) (h0 : newI r.epoch r.seq (rOf (f r.origin)).epoch (rOf (f r.origin)).seq = 1) (ho : r.origin ≠ s.self) : ch = true ∧ n' = n + 1 ∧ s' = (s.free p r.origin).oweL (upL (s.free p r.origin) p 24) r.origin now ∧ fR f' = putR (fR f) r ∧ T = (upL (s.free p r.origin) p 24).map (fun q => (q, rOf (f' r.origin))) := by
  rcases h with ⟨h, _⟩ | ⟨h, _⟩ | ⟨_, h, _⟩ | ⟨_, _, h⟩
  · omega
  · omega
  · exact absurd h ho
  · exact h
theorem TkR.own {s : Fp} {f : Sf} {p : Int} {r : Rc} {now : Int} {n : Nat} {ch : Bool} {n' : Nat} {s' : Fp} {f' : Sf} {T : List (Int × Rc)} (h : TkR s f p r now n ch n' s' f' T) (h0 : newI r.epoch r.seq (rOf (f r.origin)).epoch (rOf (f r.origin)).seq = 1) (ho : r.origin = s.self) : OutR s f p r now n [] ch n' s' f' T := by
  rcases h with ⟨h, _⟩ | ⟨h, _⟩ | ⟨_, _, h⟩ | ⟨_, h, _⟩
  · omega
  · omega
  · exact h
  · exact absurd ho h
/-- What a call that turns a flood leaves beside it. -/
theorem fr_own {w wa wb : World} {P O M : Nat} {ob : Int → Option Nat} (hB : Below w.heap.size w wa) (hF : Fr (FlB P O M ob) wa wb) (hP : w.heap.size ≤ P ∧ w.heap.size ≤ O ∧ w.heap.size ≤ M) (ho : ∀ k j, ob k = some j → w.heap.size ≤ j) : Below w.heap.size w wb :=
  hB.trans (hF.below hB.size (fun j hj => by rcases hj with e | e | e | ⟨k, e⟩; rw [e]; exact hP.1; rw [e]; exact hP.2.1; rw [e]; exact hP.2.2; exact ho k j e))
theorem fr_blk {wa wb : World} {P O S M n : Nat} {s : Fp} {f : Sf} {ob : Int → Option Nat} (hf : FlAt wa P O S M n s f ob) (hF : Fr (FlB P O M ob) wa wb) {j : Nat} {cs : Array Value} {t : TypeId} (hj : wa.heap[j]? = some (Obj.cells cs t)) (ht : t ≠ 91) : wb.heap[j]? = some (Obj.cells cs t) := (hF.block j (block_lt hj) (hf.noB hj ht)).trans hj
theorem nilA (w : World) : SlAt ac 2 w (.slice none 0 0) [] := slAt_of_row (cs := ac) (fun _ => rfl) (World.ownsRow_nil w 0 98 2) rfl
end Go.Proofs.Yteaaoipipjkgnaa
namespace Go.Proofs.Yteaaoipipjkgnaa
open Go.RowKit Go.Maps

set_option maxRecDepth 100000 in
set_option maxHeartbeats 6000000 in
theorem floodKnown_walk (w : World) : Calls Try.prog 6 #[] w fun e w' => e = .returned (.bool true) ∧ Below w.heap.size w w' := by
  go_enter Try.func6, Try.ntmps6
  go_wp2_with fail
  refine (fnew_any 1 1 4 (by omega) _).mono ?_
  rintro e w1 ⟨h1, hb1⟩
  rcases h1 with ⟨h1, _⟩ | ⟨_, P, O, S, M, rfl, hfl, hP, hO, hS, hM⟩
  · rw [wk_new] at h1
    cases h1
  have HFl1 : Hid (FlAt w1 P O S M 0 ws0 (fun _ => none) (fun _ => none)) := hidIn hfl
  have HPO := hidIn (And.intro hP (And.intro hO hM))
  have HB1 := hidIn hb1
  have Hob0 : Hid (∀ (k : Int) (j : Nat), (fun _ => none : Int → Option Nat) k = some j → w.heap.size ≤ j) := hidIn fun k j h => by cases h
  have HOw := hidIn (fown_any HFl1.out (by omega) (claim := 7) (now := 0) (ing := false) (l := []) (va := .slice none 0 0) (nilA w1) (fun r u h => by cases h))
  clear hfl hP hO hS hM hb1
  go_wp2_with fail
  refine HOw.out.mono ?_
  rintro e w2 h5
  have hro : rOf ((fun _ => none : Sf) ws0.self) = rc0 := rfl
  unfold OwnAns at h5
  rw [hro, wk_own.2.1, wk_own.2.2.2] at h5
  rcases h5 with ⟨h5, _⟩ | ⟨_, _, h5, _⟩ | ⟨_, _, _, u0, f1, rfl, hf1, hfl5, hs5, hF⟩
  · rw [wk_own.1, wk_own.2.2.1] at h5
    simp at h5
  · exact absurd h5 (by decide)
  have Hf1 : Hid (fR f1 = wF1) := hidIn hf1
  have HFl2 : Hid (FlAt w2 P O S M 1 ws1 f1 (fun _ => none)) := hidIn (by unfold ws1; rw [wk_own.2.2.2]; exact hfl5)
  obtain ⟨ua0, uc0, rfl⟩ := hs5.shape
  have HB2 := hidIn (fr_own HB1.out hF HPO.out Hob0.out)
  have HUp := hidIn (fup2_any HFl2.out 2 0)
  clear hf1 hfl5 hs5 hF hro HOw
  simp only [List.map_nil, List.length_nil]
  go_wp2_with fail
  refine HUp.out.mono ?_
  rintro e w3 h6
  have hal : allL f1 24 = [wr1] := by rw [allL_fR, Hf1.out]; exact wk_all.1
  unfold UpAns at h6
  rw [hal] at h6
  rcases h6 with ⟨h6, _⟩ | ⟨_, _, h6, _⟩ | ⟨_, _, _, u1, rfl, hfl6, hs6, hF⟩
  · rw [wk_up.1, wk_up.2.1] at h6
    simp at h6
  · rw [wk_up.2.2] at h6
    cases h6
  obtain ⟨ob2, hob⟩ : ∃ ob2, putO (fun _ => none : Int → Option Nat) 2 w2.heap.size = ob2 := ⟨_, rfl⟩
  have Hob2 : Hid (∀ k j, ob2 k = some j → w.heap.size ≤ j) := hidIn fun k j hk => by
    rw [← hob] at hk
    unfold putO at hk
    split at hk
    · cases hk; exact HB2.out.size
    · cases hk
  rw [hob] at hfl6
  have HFl3 : Hid (FlAt w3 P O S M 1 ws2 f1 ob2) := hidIn hfl6
  obtain ⟨ua1, uc1, rfl⟩ := hs6.shape
  have Hal := hidIn hal
  have HB3 := hidIn (fr_own HB2.out hF HPO.out Hob0.out)
  have HU2 := hidIn (fup2_any HFl3.out 2 0)
  have HU1 := hidIn (fup2_any HFl3.out 1 0)
  have HAk := hidIn (fack_any HFl3.out 2 1 1 1 (by omega) (by omega))
  clear hfl6 hs6 hF hal hob HUp HFl2 HB2 HFl1 HB1
  simp only [List.map_cons, List.map_nil, List.length_cons, List.length_nil]
  go_wp2_with fail
  refine HU2.out.mono ?_
  rintro e w4 h4
  rcases h4 with ⟨h4, _⟩ | ⟨_, _, _, rfl, hw⟩ | ⟨_, _, h4, _⟩
  · rw [kk_up.1, kk_up.2.1] at h4
    simp at h4
  rotate_left
  · rw [kk_up.2.2.1] at h4
    cases h4
  rw [hw]
  clear hw HU2 w4
  go_wp2_with fail
  refine HU1.out.mono ?_
  rintro e w4 h4
  rcases h4 with ⟨_, rfl, hw⟩ | ⟨h4, _⟩ | ⟨h4, _⟩
  rotate_left
  · rw [kk_up.2.2.2] at h4
    cases h4
  · rw [kk_up.2.2.2] at h4
    cases h4
  rw [hw]
  clear hw HU1 w4
  go_wp2_with fail
  refine HAk.out.mono ?_
  rintro e w4 h13
  unfold AckAns at h13
  rcases h13 with ⟨h13, _⟩ | ⟨_, _, h13, _⟩ | ⟨_, _, _, rfl, hfl13, hF'⟩
  · rw [kk_up.1, wk_end.2.2.1] at h13
    simp at h13
  · rw [kk_up.2.2.1] at h13
    cases h13
  have hr1 : rOf (f1 1) = wr1 := by rw [rOf_fR, Hf1.out]; exact wk_all.2
  rw [hr1, if_pos (show stOf wr1 = (1, 1, 1) from rfl)] at hfl13
  have hF : Fr (FlB P O M ob2) w3 w4 := hF'.mono fun k _ hk => .inr (.inr (.inr hk))
  have HFl4 : Hid (FlAt w4 P O S M 1 ks3 f1 ob2) := hidIn hfl13
  have Hr1 := hidIn hr1
  have HB4 := hidIn (fr_own HB3.out hF HPO.out Hob2.out)
  clear hfl13 hF hF' hr1 HAk HFl3 HB3
  go_wp2_with fail
  refine (lrec_any 1 1 1 _).mono ?_
  rintro e w5 ⟨rfl, hb⟩
  have HB5 := hidIn (HB4.out.trans (hb.mono HB4.out.size))
  have HFl5 := hidIn (HFl4.out.keep hb)
  clear hb HFl4 HB4
  obtain ⟨W6, hW6⟩ : ∃ W6, w5.alloc (.cells #[.int .i64 1, .int .u32 1, .int .u32 1, .int .i64 0, .bool false, .slice none 0 0] 38) = W6 := ⟨_, rfl⟩
  have b6 : Below w5.heap.size w5 W6 := by rw [← hW6]; exact (Below.refl _ w5).alloc (Nat.le_refl _) _
  have hX6 : W6.heap[w5.heap.size]? = some (.cells #[.int .i64 1, .int .u32 1, .int .u32 1, .int .i64 0, .bool false, .slice none 0 0] 38) := by rw [← hW6]; exact heap_alloc_last w5 _
  have h5l : w5.heap.size ≤ w5.heap.size := Nat.le_refl _
  obtain ⟨b7, hb7⟩ : ∃ b7, w5.heap.size = b7 := ⟨_, rfl⟩
  have h5l : w5.heap.size ≤ b7 := Nat.le_of_eq hb7
  have Hwb7 : Hid (w.heap.size ≤ b7) := hidIn (by have := HB5.out.size; omega)
  rw [hb7] at hX6
  have q3 := cell_of_row _ _ 3 _ _ _ hX6
  simp at q3
  have qf := frozen_new hX6 3
  obtain ⟨w7, hw7⟩ : ∃ w7, W6.setCell ⟨b7, 3, none⟩ (.int .i64 7) = w7 := ⟨_, rfl⟩
  have hX7 : w7.heap[b7]? = some (.cells #[.int .i64 1, .int .u32 1, .int .u32 1, .int .i64 7, .bool false, .slice none 0 0] 38) := by
    rw [← hw7]
    have := heap_setCell_same W6 b7 3 _ _ (.int .i64 7) hX6
    simp at this
    exact this
  have hb : Below w5.heap.size w5 w7 := by rw [← hw7]; exact b6.setCell (p := ⟨b7, 3, none⟩) h5l _
  have HB7 := hidIn (HB5.out.trans (hb.mono HB5.out.size))
  have HFl7 := hidIn (HFl5.out.keep hb)
  have HX7 := hidIn hX7
  have HW6 := hidIn hW6
  have HW7 := hidIn hw7
  clear hW6 b6 hX6 h5l hX7 hb hw7 HFl5 HB5
  go_upto_region 8 with fail
  rw [HW6.out]
  clear HW6 hb7
  go_upto_region 9 with fail
  rw [HW7.out]
  clear HW7 q3 qf
  go_wp2_with fail
  refine (lrec_any 5 1 1 _).mono ?_
  rintro e w8 ⟨rfl, hb⟩
  have HB8 := hidIn (HB7.out.trans (hb.mono HB7.out.size))
  have HFl8 := hidIn (HFl7.out.keep hb)
  have HX8 := hidIn ((hb.block _ (block_lt HX7.out)).trans HX7.out)
  clear hb HFl7 HB7 HX7
  obtain ⟨w9, hw9⟩ : ∃ w9, w8.alloc (.cells #[.int .i64 5, .int .u32 1, .int .u32 1, .int .i64 0, .bool false, .slice none 0 0] 38) = w9 := ⟨_, rfl⟩
  have hb : Below w8.heap.size w8 w9 := by rw [← hw9]; exact (Below.refl _ w8).alloc (Nat.le_refl _) _
  have hY9 : w9.heap[w8.heap.size]? = some (.cells #[.int .i64 5, .int .u32 1, .int .u32 1, .int .i64 0, .bool false, .slice none 0 0] 38) := by rw [← hw9]; exact heap_alloc_last w8 _
  obtain ⟨b8, hb8⟩ : ∃ b8, w8.heap.size = b8 := ⟨_, rfl⟩
  rw [hb8] at hY9
  have Hn87 : Hid (¬ b8 = b7) := hidIn (by have := block_lt HX8.out; omega)
  have HB9 := hidIn (HB8.out.trans (hb.mono HB8.out.size))
  have HFl9 := hidIn (HFl8.out.keep hb)
  have HX9 := hidIn ((hb.block _ (block_lt HX8.out)).trans HX8.out)
  have HY9 := hidIn hY9
  have HW9 := hidIn hw9
  have HU3 := hidIn (fup2_any HFl9.out 3 5)
  clear hb hY9 hw9 HFl8 HB8 HX8
  go_upto_region 10 with fail
  rw [HW9.out]
  clear HW9 hb8
  go_wp2_with fail
  refine HU3.out.mono ?_
  rintro e w10 h6
  unfold UpAns at h6
  rw [Hal.out] at h6
  rcases h6 with ⟨h6, _⟩ | ⟨_, _, h6, _⟩ | ⟨_, _, _, u2, rfl, hfl6, hs6, hF⟩
  · rw [kk_up3.1, kk_up3.2.1] at h6
    simp at h6
  · rw [kk_up3.2.2] at h6
    cases h6
  obtain ⟨ob3, hob⟩ : ∃ ob3, putO ob2 3 w9.heap.size = ob3 := ⟨_, rfl⟩
  have Hob3 : Hid (∀ k j, ob3 k = some j → w.heap.size ≤ j) := hidIn fun k j hk => by
    rw [← hob] at hk
    unfold putO at hk
    split at hk
    · cases hk; exact HB9.out.size
    · exact Hob2.out k j hk
  rw [hob] at hfl6
  have HFl10 : Hid (FlAt w10 P O S M 1 ks4 f1 ob3) := hidIn hfl6
  have HL10 : Hid (SndAns w9 w10 [(3, wr1)] u2) := hidIn hs6
  have HB10 := hidIn (fr_own HB9.out hF HPO.out Hob2.out)
  have HX10 := hidIn (fr_blk HFl9.out hF HX9.out (by decide))
  have HY10 := hidIn (fr_blk HFl9.out hF HY9.out (by decide))
  obtain ⟨ua2, uc2, hu2⟩ := HL10.out.shape
  subst hu2
  have HT1 := hidIn (ftake_any (p := 2) (now := 6) (r := kx) (ra := none) (rn := 0) (rc := 0) HFl10.out (by omega) (nilA w10) (by decide))
  clear hfl6 hs6 hF hob HU3 HFl9 HB9 HX9 HY9
  simp only [List.length_cons, List.length_nil]
  have z0 := cell_of_row _ _ 0 _ _ _ HY10.out
  have z1 := cell_of_row _ _ 1 _ _ _ HY10.out
  have z2 := cell_of_row _ _ 2 _ _ _ HY10.out
  have z3 := cell_of_row _ _ 3 _ _ _ HY10.out
  have z4 := cell_of_row _ _ 4 _ _ _ HY10.out
  have z5 := cell_of_row _ _ 5 _ _ _ HY10.out
  simp at z0 z1 z2 z3 z4 z5
  go_wp2_with fail
  refine HT1.out.mono ?_
  rintro e w11 h
  rcases h with ⟨h, _⟩ | ⟨_, _, _, h, _⟩ | ⟨_, _, _, _, ch, u3, n3, s3, f2, T3, rfl, hfl, hs, hF, hk⟩
  · rw [kk_t1.1, kk_t1.2.1, kk_t1.2.2.1] at h
    simp at h
  · rw [kk_t1.2.2.2.1] at h
    cases h
  obtain ⟨rfl, rfl, rfl, hf2, rfl⟩ := hk.news (by rw [rOf_fR, Hf1.out]; decide) (by decide)
  have Hf2 : Hid (fR f2 = kF2) := hidIn (by rw [hf2, Hf1.out]; rfl)
  have HFl11 : Hid (FlAt w11 P O S M 2 ks5 f2 ob3) := hidIn hfl
  have hT3 : (upL ((ks4.tick 6).free 2 kx.origin) 2 24).map (fun q => (q, rOf (f2 kx.origin))) = [(3, kx)] := by
    rw [show upL ((ks4.tick 6).free 2 kx.origin) 2 24 = [3] from kk_t1.2.2.2.2, rOf_fR, Hf2.out]
    rfl
  rw [hT3] at hs
  have HM11 : Hid (SndAns w10 w11 [(3, kx)] u3) := hidIn hs
  have HB11 := hidIn (fr_own HB10.out hF HPO.out Hob3.out)
  have HX11 := hidIn (fr_blk HFl10.out hF HX10.out (by decide))
  have HY11 := hidIn (fr_blk HFl10.out hF HY10.out (by decide))
  have HL11 := hidIn (HL10.out.call HFl10.out hF)
  obtain ⟨ua3, uc3, hu3⟩ := HM11.out.shape
  subst hu3
  have HT2 := hidIn (ftake_any (p := 2) (now := 6) (r := kx) (ra := none) (rn := 0) (rc := 0) HFl11.out (by omega) (nilA w11) (by decide))
  clear hfl hs hF hk hf2 hT3 HT1 HFl10 HB10 HX10 HY10 HL10 z0 z1 z2 z3 z4 z5
  simp only [List.length_cons, List.length_nil]
  have z0 := cell_of_row _ _ 0 _ _ _ HY11.out
  have z1 := cell_of_row _ _ 1 _ _ _ HY11.out
  have z2 := cell_of_row _ _ 2 _ _ _ HY11.out
  have z3 := cell_of_row _ _ 3 _ _ _ HY11.out
  have z4 := cell_of_row _ _ 4 _ _ _ HY11.out
  have z5 := cell_of_row _ _ 5 _ _ _ HY11.out
  simp at z0 z1 z2 z3 z4 z5
  go_wp2_with fail
  refine HT2.out.mono ?_
  rintro e w12 h
  rcases h with ⟨h, _⟩ | ⟨_, _, _, h, _⟩ | ⟨_, _, _, _, ch, u4, n4, s4, f2', T4, rfl, hfl, hs, hF, hk⟩
  · rw [kk_t2.1, kk_t1.2.1, kk_t2.2.1] at h
    simp at h
  · rw [kk_t2.2.2] at h
    cases h
  obtain ⟨rfl, rfl, rfl, rfl, rfl⟩ := hk.same (by rw [rOf_fR, Hf2.out]; decide)
  have HFl12 : Hid (FlAt w12 P O S M 2 ks6 f2' ob3) := hidIn hfl
  obtain ⟨ua4, uc4, rfl⟩ := hs.shape
  have HB12 := hidIn (fr_own HB11.out hF HPO.out Hob3.out)
  have HX12 := hidIn (fr_blk HFl11.out hF HX11.out (by decide))
  have HY12 := hidIn (fr_blk HFl11.out hF HY11.out (by decide))
  have HL12 := hidIn (HL11.out.call HFl11.out hF)
  have HM12 := hidIn (HM11.out.call HFl11.out hF)
  have HT3 := hidIn (ftake_any (p := 2) (now := 5) (r := kx) (ra := none) (rn := 0) (rc := 0) HFl12.out (by omega) (nilA w12) (by decide))
  clear hfl hs hF hk HT2 HFl11 HB11 HX11 HY11 HL11 HM11 z0 z1 z2 z3 z4 z5
  simp only [List.length_nil]
  have z0 := cell_of_row _ _ 0 _ _ _ HY12.out
  have z1 := cell_of_row _ _ 1 _ _ _ HY12.out
  have z2 := cell_of_row _ _ 2 _ _ _ HY12.out
  have z3 := cell_of_row _ _ 3 _ _ _ HY12.out
  have z4 := cell_of_row _ _ 4 _ _ _ HY12.out
  have z5 := cell_of_row _ _ 5 _ _ _ HY12.out
  simp at z0 z1 z2 z3 z4 z5
  go_wp2_with fail
  refine HT3.out.mono ?_
  rintro e w13 h
  rcases h with ⟨_, rfl, hb⟩ | ⟨_, _, h, _⟩ | ⟨_, _, h, _⟩
  rotate_left
  · rw [kk_t3.1] at h
    cases h
  · rw [kk_t3.1] at h
    cases h
  have HB13 := hidIn (HB12.out.trans (hb.mono HB12.out.size))
  have HFl13 := hidIn (HFl12.out.keep hb)
  have HX13 := hidIn ((hb.block _ (block_lt HX12.out)).trans HX12.out)
  have HY13 := hidIn ((hb.block _ (block_lt HY12.out)).trans HY12.out)
  have HL13 := hidIn (HL12.out.keep hb)
  have HM13 := hidIn (HM12.out.keep hb)
  clear hb HT3 HFl12 HB12 HX12 HY12 HL12 HM12 z0 z1 z2 z3 z4 z5
  have HIs1 : Hid (Calls Try.prog 27 #[.slice ua2 1 uc2, .int .i64 3, .agg #[.int .i64 1, .int .u32 1, .int .u32 1, .int .i64 7, .bool false, .slice none 0 0]] w13 fun e w' => e = .returned (.bool true) ∧ Below w13.heap.size w13 w') := hidIn (is_yes (r := wr1) (ra := none) (rc := 0) HL13.out (nilA w13))
  have z0 := cell_of_row _ _ 0 _ _ _ HX13.out
  have z1 := cell_of_row _ _ 1 _ _ _ HX13.out
  have z2 := cell_of_row _ _ 2 _ _ _ HX13.out
  have z3 := cell_of_row _ _ 3 _ _ _ HX13.out
  have z4 := cell_of_row _ _ 4 _ _ _ HX13.out
  have z5 := cell_of_row _ _ 5 _ _ _ HX13.out
  simp at z0 z1 z2 z3 z4 z5
  go_wp2_with fail
  refine HIs1.out.mono ?_
  rintro e w14 ⟨rfl, hb⟩
  have HB14 := hidIn (HB13.out.trans (hb.mono HB13.out.size))
  have HFl14 := hidIn (HFl13.out.keep hb)
  have HX14 := hidIn ((hb.block _ (block_lt HX13.out)).trans HX13.out)
  have HY14 := hidIn ((hb.block _ (block_lt HY13.out)).trans HY13.out)
  have HM14 := hidIn (HM13.out.keep hb)
  have HIs2 : Hid (Calls Try.prog 27 #[.slice ua3 1 uc3, .int .i64 3, .agg #[.int .i64 5, .int .u32 1, .int .u32 1, .int .i64 0, .bool false, .slice none 0 0]] w14 fun e w' => e = .returned (.bool true) ∧ Below w14.heap.size w14 w') := hidIn (is_yes (r := kx) (ra := none) (rc := 0) HM14.out (nilA w14))
  clear hb HIs1 HFl13 HB13 HX13 HY13 HL13 HM13 z0 z1 z2 z3 z4 z5
  have z0 := cell_of_row _ _ 0 _ _ _ HY14.out
  have z1 := cell_of_row _ _ 1 _ _ _ HY14.out
  have z2 := cell_of_row _ _ 2 _ _ _ HY14.out
  have z3 := cell_of_row _ _ 3 _ _ _ HY14.out
  have z4 := cell_of_row _ _ 4 _ _ _ HY14.out
  have z5 := cell_of_row _ _ 5 _ _ _ HY14.out
  simp at z0 z1 z2 z3 z4 z5
  go_wp2_with fail
  refine HIs2.out.mono ?_
  rintro e w15 ⟨rfl, hb⟩
  have HB15 := hidIn (HB14.out.trans (hb.mono HB14.out.size))
  have HFl15 := hidIn (HFl14.out.keep hb)
  have HX15 := hidIn ((hb.block _ (block_lt HX14.out)).trans HX14.out)
  have HY15 := hidIn ((hb.block _ (block_lt HY14.out)).trans HY14.out)
  have HAk4 := hidIn (fack_any HFl15.out 4 1 1 1 (by omega) (by omega))
  clear hb HIs2 HFl14 HB14 HX14 HY14 HM14 z0 z1 z2 z3 z4 z5
  go_wp2_with fail
  refine HAk4.out.mono ?_
  rintro e w16 h
  rcases h with ⟨h, _⟩ | ⟨_, _, _, rfl, hb⟩ | ⟨_, _, h, _⟩
  · rw [kk_t3.2.1, kk_t3.2.2.2.2.2] at h
    simp at h
  rotate_left
  · rw [kk_t3.2.2.1] at h
    cases h
  have HB16 := hidIn (HB15.out.trans (hb.mono HB15.out.size))
  have HFl16 := hidIn (HFl15.out.keep hb)
  have HX16 := hidIn ((hb.block _ (block_lt HX15.out)).trans HX15.out)
  have HY16 := hidIn ((hb.block _ (block_lt HY15.out)).trans HY15.out)
  have HAk2 := hidIn (fack_any HFl16.out 2 0 0 0 (by omega) (by omega))
  clear hb HAk4 HFl15 HB15 HX15 HY15
  go_wp2_with fail
  refine HAk2.out.mono ?_
  rintro e w17 h
  rcases h with ⟨_, rfl, hb⟩ | ⟨_, h, _⟩ | ⟨_, h, _⟩
  rotate_left
  · rw [kk_t3.2.2.2.2.1] at h
    cases h
  · rw [kk_t3.2.2.2.2.1] at h
    cases h
  have HB17 := hidIn (HB16.out.trans (hb.mono HB16.out.size))
  have HFl17 := hidIn (HFl16.out.keep hb)
  have HX17 := hidIn ((hb.block _ (block_lt HX16.out)).trans HX16.out)
  have HY17 := hidIn ((hb.block _ (block_lt HY16.out)).trans HY16.out)
  have HT4 := hidIn (ftake_any (p := 3) (now := 7) (r := kx) (ra := none) (rn := 0) (rc := 0) HFl17.out (by omega) (nilA w17) (by decide))
  clear hb HAk2 HFl16 HB16 HX16 HY16
  have z0 := cell_of_row _ _ 0 _ _ _ HY17.out
  have z1 := cell_of_row _ _ 1 _ _ _ HY17.out
  have z2 := cell_of_row _ _ 2 _ _ _ HY17.out
  have z3 := cell_of_row _ _ 3 _ _ _ HY17.out
  have z4 := cell_of_row _ _ 4 _ _ _ HY17.out
  have z5 := cell_of_row _ _ 5 _ _ _ HY17.out
  simp at z0 z1 z2 z3 z4 z5
  go_wp2_with fail
  refine HT4.out.mono ?_
  rintro e w18 h
  rcases h with ⟨h, _⟩ | ⟨_, _, _, h, _⟩ | ⟨_, _, _, _, ch, u5, n5, s5, f2, T5, rfl, hfl, hs, hF, hk⟩
  · rw [kk_t4.1, kk_t1.2.1, kk_t4.2.1] at h
    simp at h
  · rw [kk_t4.2.2.1] at h
    cases h
  obtain ⟨rfl, rfl, rfl, rfl, rfl⟩ := hk.same (by rw [rOf_fR, Hf2.out]; decide)
  have HFl18 : Hid (FlAt w18 P O S M 2 ks7 f2 ob3) := hidIn hfl
  obtain ⟨ua5, uc5, rfl⟩ := hs.shape
  have HB18 := hidIn (fr_own HB17.out hF HPO.out Hob3.out)
  have HX18 := hidIn (fr_blk HFl17.out hF HX17.out (by decide))
  have HY18 := hidIn (fr_blk HFl17.out hF HY17.out (by decide))
  have HPe := hidIn (fpend_any HFl18.out)
  rw [kk_t4.2.2.2] at HPe
  clear hfl hs hF hk HT4 HFl17 HB17 HX17 HY17 z0 z1 z2 z3 z4 z5
  simp only [List.length_nil]
  go_wp2_with fail
  refine HPe.out.mono ?_
  rintro e w19 ⟨rfl, hb⟩
  have HB19 := hidIn (HB18.out.trans (hb.mono HB18.out.size))
  have HFl19 := hidIn (HFl18.out.keep hb)
  have HX19 := hidIn ((hb.block _ (block_lt HX18.out)).trans HX18.out)
  have HY19 := hidIn ((hb.block _ (block_lt HY18.out)).trans HY18.out)
  clear hb HPe HFl18 HB18 HX18 HY18
  go_wp2_with fail
  refine (lrec_any 1 1 9 _).mono ?_
  rintro e w20 ⟨rfl, hb⟩
  have HB20 := hidIn (HB19.out.trans (hb.mono HB19.out.size))
  have HFl20 := hidIn (HFl19.out.keep hb)
  have HX20 := hidIn ((hb.block _ (block_lt HX19.out)).trans HX19.out)
  have HY20 := hidIn ((hb.block _ (block_lt HY19.out)).trans HY19.out)
  have HT5 := hidIn (ftake_any (p := 2) (now := 8) (r := kr9) (ra := none) (rn := 0) (rc := 0) HFl20.out (by omega) (nilA w20) (by decide))
  clear hb HFl19 HB19 HX19 HY19
  go_wp2_with fail
  refine HT5.out.mono ?_
  rintro e w21 h
  rcases h with ⟨h, _⟩ | ⟨_, _, _, h, _⟩ | ⟨_, _, _, _, ch, u6, n6, s6, f3, T6, rfl, hfl, hs, hF, hk⟩
  · rw [kk_t5.1, kk_t5.2.1, kk_t5.2.2.1] at h
    simp at h
  · rw [kk_t5.2.2.2.1] at h
    cases h
  have hsm2 : (f2 (ks7.tick 8).self).isSome = true := by
    have := kk_F.2.2.2.1
    rw [← Hf2.out] at this
    unfold fR at this
    rw [Option.isSome_map] at this
    exact this
  have hro2 : rOf (f2 (ks7.tick 8).self) = wr1 := by rw [rOf_fR, Hf2.out]; exact kk_F.2.2.1
  have hout := hk.own (by rw [rOf_fR, Hf2.out]; decide) (by decide)
  unfold OutR at hout
  rw [hsm2, hro2] at hout
  rcases hout with ⟨hout, _⟩ | ⟨_, hout, _⟩ | ⟨_, _, _, rfl, rfl, rfl, hf3, rfl⟩
  · cases hout
  · exact absurd hout (by decide)
  have Hf3 : Hid (fR f3 = kF3) := hidIn (by rw [hf3, Hf2.out]; rfl)
  have HFl21 : Hid (FlAt w21 P O S M 3 ks8 f3 ob3) := hidIn hfl
  have hT6 : [] ++ (upL (ks7.tick 8) 0 24).map (fun q => (q, rOf (f3 (ks7.tick 8).self))) = [(2, kr10), (3, kr10)] := by
    rw [kk_t5.2.2.2.2, show rOf (f3 (ks7.tick 8).self) = kr10 by rw [rOf_fR, Hf3.out]; exact kk_F.2.2.2.2.1]
    rfl
  rw [hT6] at hs
  have HN21 : Hid (SndAns w20 w21 [(2, kr10), (3, kr10)] u6) := hidIn hs
  have HB21 := hidIn (fr_own HB20.out hF HPO.out Hob3.out)
  have HX21 := hidIn (fr_blk HFl20.out hF HX20.out (by decide))
  have HY21 := hidIn (fr_blk HFl20.out hF HY20.out (by decide))
  obtain ⟨ua6, uc6, hu6⟩ := HN21.out.shape
  subst hu6
  obtain ⟨w22, hw22⟩ : ∃ w22, w21.setCell ⟨b7, 2, none⟩ (.int .u32 10) = w22 := ⟨_, rfl⟩
  have q2 := cell_of_row _ _ 2 _ _ _ HX21.out
  simp at q2
  have qf := frozen_new HX21.out 2
  have hX22 : w22.heap[b7]? = some (.cells #[.int .i64 1, .int .u32 1, .int .u32 10, .int .i64 7, .bool false, .slice none 0 0] 38) := by
    rw [← hw22]
    have := heap_setCell_same w21 b7 2 _ _ (.int .u32 10) HX21.out
    simp at this
    exact this
  have hF22 : Fr (fun j => j = b7) w21 w22 := by rw [← hw22]; exact (Fr.refl (fun j => j = b7) w21).set (p := ⟨b7, 2, none⟩) rfl _
  have hnr : ∀ j (cs : Array Value) t, w21.heap[j]? = some (Obj.cells cs t) → t ≠ 38 → ¬ j = b7 := fun j cs t hj ht e => by
    rw [e, HX21.out] at hj
    simp only [Option.some.injEq, Obj.cells.injEq] at hj
    exact ht hj.2.1.symm
  have HFl22 : Hid (FlAt w22 P O S M 3 ks8 f3 ob3) := hidIn (HFl21.out.frT hF22 (fun j hj _ => by subst hj; exact ⟨_, _, HX21.out, by decide, by decide, by decide⟩))
  have HN22 : Hid (SndAns w20 w22 [(2, kr10), (3, kr10)] (.slice ua6 [((2 : Int), kr10), (3, kr10)].length uc6)) := hidIn (by
    obtain ⟨L, h1, h2, h3⟩ := HN21.out
    refine ⟨L, row_fr h1 hF22 (fun j hj => ?_), h2, fun x hx => (h3 x hx).fr hF22 (fun g cur hg => hnr g _ _ hg (by decide))⟩
    obtain ⟨cur, hc⟩ := rowTy h1 hj
    exact hnr j _ _ hc (by decide))
  have hnb8 : ¬ b8 = b7 := Hn87.out
  have HY22 := hidIn ((hF22.block _ (block_lt HY21.out) hnb8).trans HY21.out)
  have HX22 := hidIn hX22
  have HB22 := hidIn (HB21.out.trans (hF22.below HB21.out.size (fun j hj => by rw [hj]; exact Hwb7.out)))
  have HW22 := hidIn hw22
  clear hfl hs hF hk hsm2 hro2 hf3 hT6 HT5 HFl20 HB20 HX20 HY20 hw22 hX22 hF22 hnr hnb8 HFl21 HB21 HX21 HY21 HN21
  simp only [List.length_cons, List.length_nil]
  go_upto_region 21 with fail
  rw [HW22.out]
  clear HW22 q2 qf
  go_wp2_with fail
  refine (lrec_any 1 2 1 _).mono ?_
  rintro e w23 ⟨rfl, hb⟩
  have HB23 := hidIn (HB22.out.trans (hb.mono HB22.out.size))
  have HFl23 := hidIn (HFl22.out.keep hb)
  have HX23 := hidIn ((hb.block _ (block_lt HX22.out)).trans HX22.out)
  have HY23 := hidIn ((hb.block _ (block_lt HY22.out)).trans HY22.out)
  have HN23 := hidIn (HN22.out.keep hb)
  have HT6 := hidIn (ftake_any (p := 2) (now := 9) (r := kr2) (ra := none) (rn := 0) (rc := 0) HFl23.out (by omega) (nilA w23) (by decide))
  clear hb HFl22 HB22 HX22 HY22 HN22
  go_wp2_with fail
  refine HT6.out.mono ?_
  rintro e w24 h
  rcases h with ⟨h, _⟩ | ⟨_, _, _, h, _⟩ | ⟨_, _, _, _, ch, u7, n7, s7, f3', T7, rfl, hfl, hs, hF, hk⟩
  · rw [kk_t6.1, kk_t6.2.1, kk_t6.2.2.1] at h
    simp at h
  · rw [kk_t6.2.2.2] at h
    cases h
  have hsm3 : (f3 (ks8.tick 9).self).isSome = true := by
    have := kk_F.2.2.2.2.2.1
    rw [← Hf3.out] at this
    unfold fR at this
    rw [Option.isSome_map] at this
    exact this
  have hro3 : rOf (f3 (ks8.tick 9).self) = kr10 := by rw [rOf_fR, Hf3.out]; exact kk_F.2.2.2.2.1
  have hout := hk.own (by rw [rOf_fR, Hf3.out]; decide) (by decide)
  unfold OutR at hout
  rw [hsm3, hro3] at hout
  rcases hout with ⟨hout, _⟩ | ⟨_, _, rfl, rfl, rfl, rfl, rfl⟩ | ⟨_, hout, _⟩
  · cases hout
  rotate_left
  · exact absurd hout (by decide)
  have HFl24 : Hid (FlAt w24 P O S M 3 ks9 f3' ob3) := hidIn hfl
  have HQ24 : Hid (SndAns w23 w24 [(2, kr10)] u7) := hidIn hs
  have HB24 := hidIn (fr_own HB23.out hF HPO.out Hob3.out)
  have HX24 := hidIn (fr_blk HFl23.out hF HX23.out (by decide))
  have HY24 := hidIn (fr_blk HFl23.out hF HY23.out (by decide))
  have HN24 := hidIn (HN23.out.call HFl23.out hF)
  obtain ⟨ua7, uc7, hu7⟩ := HQ24.out.shape
  subst hu7
  have Hro3 := hidIn hro3
  clear hfl hs hF hk hsm3 hro3 HT6 HFl23 HB23 HX23 HY23 HN23
  simp only [List.length_cons, List.length_nil]
  go_upto_region 22 with fail
  obtain ⟨L6, hr6, hl6, hq6⟩ := HN24.out
  obtain ⟨⟨t6a, r6a, v6a⟩, ⟨t6b, r6b, v6b⟩, rfl⟩ : ∃ x y, L6 = [x, y] := by
    have : L6.length = 2 := by have := congrArg List.length hl6; rw [sdl_len] at this; exact this
    match L6, this with
    | [x, y], _ => exact ⟨x, y, rfl⟩
  simp only [sdl, List.map_cons, List.map_nil, List.cons.injEq, Prod.mk.injEq, and_true] at hl6
  obtain ⟨⟨rfl, rfl⟩, rfl, rfl⟩ := hl6
  obtain ⟨va6, vc6, e6, s6, _, _⟩ := hq6 _ (List.mem_cons_of_mem _ List.mem_cons_self)
  simp only at e6 s6
  subst e6
  obtain ⟨a6', cap6, hu6, _, _, hcell⟩ := slAt_of_row (cs := sdc) (fun _ => rfl) hr6 rfl
  obtain ⟨bk, o6, rfl, hbk, hc⟩ := hcell (by simp)
  simp only [Value.slice.injEq] at hu6
  obtain ⟨rfl, _, rfl⟩ := hu6
  have HC6 : Hid (∀ wq, Below w24.heap.size w24 wq → (wq.cell? ⟨bk, o6 + 7, none⟩ = some (.int .i64 3) ∧ wq.cell? ⟨bk, o6 + 8, none⟩ = some (.int .i64 1) ∧ wq.cell? ⟨bk, o6 + 9, none⟩ = some (.int .u32 1) ∧ wq.cell? ⟨bk, o6 + 10, none⟩ = some (.int .u32 10) ∧ wq.cell? ⟨bk, o6 + 11, none⟩ = some (.int .i64 7) ∧ wq.cell? ⟨bk, o6 + 12, none⟩ = some (.bool false) ∧ wq.cell? ⟨bk, o6 + 13, none⟩ = some (.slice va6 0 vc6)) ∧ wq.cell? ⟨b7, 0, none⟩ = some (.int .i64 1) ∧ wq.cell? ⟨b7, 1, none⟩ = some (.int .u32 1) ∧ wq.cell? ⟨b7, 2, none⟩ = some (.int .u32 10) ∧ wq.cell? ⟨b7, 3, none⟩ = some (.int .i64 7) ∧ wq.cell? ⟨b7, 4, none⟩ = some (.bool false) ∧ wq.cell? ⟨b7, 5, none⟩ = some (.slice none 0 0)) := hidIn fun wq hq => by
    have c0 := hc 1 _ rfl 0 _ rfl
    have c1 := hc 1 _ rfl 1 _ rfl
    have c2 := hc 1 _ rfl 2 _ rfl
    have c3 := hc 1 _ rfl 3 _ rfl
    have c4 := hc 1 _ rfl 4 _ rfl
    have c5 := hc 1 _ rfl 5 _ rfl
    have c6 := hc 1 _ rfl 6 _ rfl
    have e1 := (hq.block _ (block_lt HX24.out)).trans HX24.out
    have d0 := cell_of_row _ _ 0 _ _ _ e1
    have d1 := cell_of_row _ _ 1 _ _ _ e1
    have d2 := cell_of_row _ _ 2 _ _ _ e1
    have d3 := cell_of_row _ _ 3 _ _ _ e1
    have d4 := cell_of_row _ _ 4 _ _ _ e1
    have d5 := cell_of_row _ _ 5 _ _ _ e1
    simp at d0 d1 d2 d3 d4 d5
    exact ⟨⟨(hq.cell (p := ⟨bk, o6 + 7, none⟩) hbk).trans c0, (hq.cell (p := ⟨bk, o6 + 8, none⟩) hbk).trans c1, (hq.cell (p := ⟨bk, o6 + 9, none⟩) hbk).trans c2, (hq.cell (p := ⟨bk, o6 + 10, none⟩) hbk).trans c3, (hq.cell (p := ⟨bk, o6 + 11, none⟩) hbk).trans c4, (hq.cell (p := ⟨bk, o6 + 12, none⟩) hbk).trans c5, (hq.cell (p := ⟨bk, o6 + 13, none⟩) hbk).trans c6⟩, d0, d1, d2, d3, d4, d5⟩
  have HSm : Hid (∀ wq, Below w24.heap.size w24 wq → Calls Try.prog 28 #[.agg #[.int .i64 1, .int .u32 1, .int .u32 10, .int .i64 7, .bool false, .slice va6 0 vc6], .agg #[.int .i64 1, .int .u32 1, .int .u32 10, .int .i64 7, .bool false, .slice none 0 0]] wq fun e w' => e = .returned (.bool true) ∧ Below wq.heap.size wq w') := hidIn fun wq hq => by
    have := recSame_any (r := kr10) (s := kr10) (s6.keep hq (Nat.le_refl _)) (nilA wq)
    rwa [show sameB kr10 kr10 = true by decide] at this
  have HIs : Hid (∀ wq, Below w24.heap.size w24 wq → Calls Try.prog 27 #[.slice ua7 1 uc7, .int .i64 2, .agg #[.int .i64 1, .int .u32 1, .int .u32 10, .int .i64 7, .bool false, .slice none 0 0]] wq fun e w' => e = .returned (.bool true) ∧ Below wq.heap.size wq w') := hidIn fun wq hq => is_yes (r := kr10) (ra := none) (rc := 0) (HQ24.out.keep hq) (nilA wq)
  have HAl : Hid (∀ wq, Below w24.heap.size w24 wq → Calls Try.prog 11 #[ptr P] wq fun e w' => (∃ a c, e = .returned (.slice a 2 c)) ∧ Below wq.heap.size wq w') := hidIn fun wq hq => (fall_any (HFl24.out.keep hq)).mono fun e w' h => by
    obtain ⟨⟨u, L, rfl, hr, hl, _⟩, hb⟩ := h
    obtain ⟨a, c, rfl⟩ := row_shape hr
    have : L.length = 2 := by
      have h1 : (rcs L).length = L.length := List.length_map _
      rw [← h1, hl, allL_fR, Hf3.out]
      exact kk_F.2.2.2.2.2.2.1
    exact ⟨⟨a, c, by rw [this]⟩, hb⟩
  clear hr6 hq6 s6 hcell hc hbk HN24 HQ24
  go_cut [222] from 177 to 222 (fun x wx => x = .bool false ∧ Below w24.heap.size w24 wx)
  case first =>
    refine wp_region_held_drew (S := fun wx => Below w24.heap.size w24 wx) (by kernel_rfl) ((Below.refl _ w24).drew) (fun hHeld => ?_)
    have hh : Below w24.heap.size w24 w24.drew := hHeld
    refine wpAnyH_take (i := 0) (v := .int .i64 0) rfl (by kernel_rfl) (by kernel_rfl) (by kernel_rfl) (fun _ _ _ h => h) (Or.inl ⟨by kernel_rfl, fun _ _ => by kernel_rfl⟩) (by assumption) ?_
    refine wpAnyH_take (i := 1) (v := .bool false) rfl (by kernel_rfl) (by kernel_rfl) (by kernel_rfl) (fun _ _ _ h => h) (Or.inl ⟨by kernel_rfl, fun _ _ => by kernel_rfl⟩) (by assumption) ?_
    refine wpAnyH_take (i := 2) (v := .bool false) rfl (by kernel_rfl) (by kernel_rfl) (by kernel_rfl) (fun _ _ _ h => h) (Or.inl ⟨by kernel_rfl, fun _ _ => by kernel_rfl⟩) (by assumption) ?_
    refine wpAnyH_take (i := 3) (v := .bool true) rfl (by kernel_rfl) (by kernel_rfl) (by kernel_rfl) (fun _ _ _ h => h) (Or.inl ⟨by kernel_rfl, fun _ _ => by kernel_rfl⟩) (by assumption) ?_
    refine wpAnyH_take (i := 4) (v := .bool false) rfl (by kernel_rfl) (by kernel_rfl) (by kernel_rfl) (fun _ _ _ h => h) (Or.inl ⟨by kernel_rfl, fun _ _ => by kernel_rfl⟩) (by assumption) ?_
    refine wpAnyH_take (i := 5) (v := .bool false) rfl (by kernel_rfl) (by kernel_rfl) (by kernel_rfl) (fun _ _ _ h => h) (Or.inl ⟨by kernel_rfl, fun _ _ => by kernel_rfl⟩) (by assumption) ?_
    refine wpAnyH_take (i := 6) (v := .bool false) rfl (by kernel_rfl) (by kernel_rfl) (by kernel_rfl) (fun _ _ _ h => h) (Or.inl ⟨by kernel_rfl, fun _ _ => by kernel_rfl⟩) (by assumption) ?_
    refine wpAnyH_take (i := 7) (v := .slice (some ⟨bk, o6, none⟩) 2 uc6) rfl (by kernel_rfl) (by kernel_rfl) (by kernel_rfl) (fun _ _ _ h => h) (Or.inl ⟨by kernel_rfl, fun _ _ => by kernel_rfl⟩) (by assumption) ?_
    refine wpAnyH_take (i := 8) (v := .int .i64 2) rfl (by kernel_rfl) (by kernel_rfl) (by kernel_rfl) (fun _ _ _ h => h) (Or.inl ⟨by kernel_rfl, fun _ _ => by kernel_rfl⟩) (by assumption) ?_
    refine wpAnyH_take (i := 9) (v := .bool false) rfl (by kernel_rfl) (by kernel_rfl) (by kernel_rfl) (fun _ _ _ h => h) (Or.inl ⟨by kernel_rfl, fun _ _ => by kernel_rfl⟩) (by assumption) ?_
    refine wpAnyH_take (i := 10) (v := .bool false) rfl (by kernel_rfl) (by kernel_rfl) (by kernel_rfl) (fun _ _ _ h => h) (Or.inl ⟨by kernel_rfl, fun _ _ => by kernel_rfl⟩) (by assumption) ?_
    refine wpAnyH_take (i := 11) (v := .bool false) rfl (by kernel_rfl) (by kernel_rfl) (by kernel_rfl) (fun _ _ _ h => h) (Or.inl ⟨by kernel_rfl, fun _ _ => by kernel_rfl⟩) (by assumption) ?_
    refine wpAnyH_take (i := 12) (v := .slice (some ⟨bk, o6, none⟩) 2 uc6) rfl (by kernel_rfl) (by kernel_rfl) (by kernel_rfl) (fun _ _ _ h => h) (Or.inl ⟨by kernel_rfl, fun _ _ => by kernel_rfl⟩) (by assumption) ?_
    refine wpAnyH_take (i := 13) (v := .pointer (some ⟨bk, o6 + 7, none⟩)) rfl (by kernel_rfl) (by kernel_rfl) (by kernel_rfl) (fun _ _ _ h => h) (Or.inl ⟨by kernel_rfl, fun _ _ => by kernel_rfl⟩) (by assumption) ?_
    refine wpAnyH_take (i := 14) (v := .pointer (some ⟨bk, o6 + 7, none⟩)) rfl (by kernel_rfl) (by kernel_rfl) (by kernel_rfl) (fun _ _ _ h => h) (Or.inl ⟨by kernel_rfl, fun _ _ => by kernel_rfl⟩) (by assumption) ?_
    refine wpAnyH_take (i := 15) (v := .int .i64 3) rfl (by kernel_rfl) (by kernel_rfl) (by kernel_rfl) (fun _ _ _ h => h) (Or.inl ⟨by kernel_rfl, fun wq hSw => by
      obtain ⟨⟨q0, q1, q2, q3, q4, q5, q6⟩, r0, r1, r2, r3, r4, r5⟩ := HC6.out wq hSw
      clear hSw
      go_simp⟩) (by assumption) ?_
    refine wpAnyH_take (i := 16) (v := .bool false) rfl (by kernel_rfl) (by kernel_rfl) (by kernel_rfl) (fun _ _ _ h => h) (Or.inl ⟨by kernel_rfl, fun _ _ => by kernel_rfl⟩) (by assumption) ?_
    refine wpAnyH_take (i := 17) (v := .bool false) rfl (by kernel_rfl) (by kernel_rfl) (by kernel_rfl) (fun _ _ _ h => h) (Or.inl ⟨by kernel_rfl, fun _ _ => by kernel_rfl⟩) (by assumption) ?_
    refine wpAnyH_take (i := 18) (v := .bool false) rfl (by kernel_rfl) (by kernel_rfl) (by kernel_rfl) (fun _ _ _ h => h) (Or.inl ⟨by kernel_rfl, fun _ _ => by kernel_rfl⟩) (by assumption) ?_
    refine wpAnyH_take (i := 19) (v := .slice (some ⟨bk, o6, none⟩) 2 uc6) rfl (by kernel_rfl) (by kernel_rfl) (by kernel_rfl) (fun _ _ _ h => h) (Or.inl ⟨by kernel_rfl, fun _ _ => by kernel_rfl⟩) (by assumption) ?_
    refine wpAnyH_take (i := 20) (v := .pointer (some ⟨bk, o6 + 7, none⟩)) rfl (by kernel_rfl) (by kernel_rfl) (by kernel_rfl) (fun _ _ _ h => h) (Or.inl ⟨by kernel_rfl, fun _ _ => by kernel_rfl⟩) (by assumption) ?_
    refine wpAnyH_take (i := 21) (v := .pointer (some ⟨bk, o6 + 8, none⟩)) rfl (by kernel_rfl) (by kernel_rfl) (by kernel_rfl) (fun _ _ _ h => h) (Or.inl ⟨by kernel_rfl, fun _ _ => by kernel_rfl⟩) (by assumption) ?_
    refine wpAnyH_take (i := 22) (v := .agg #[.int .i64 1, .int .u32 1, .int .u32 10, .int .i64 7, .bool false, .slice va6 0 vc6]) rfl (by kernel_rfl) (by kernel_rfl) (by kernel_rfl) (fun _ _ _ h => h) (Or.inl ⟨by kernel_rfl, fun wq hSw => by
      obtain ⟨⟨q0, q1, q2, q3, q4, q5, q6⟩, r0, r1, r2, r3, r4, r5⟩ := HC6.out wq hSw
      clear hSw
      go_simp⟩) (by assumption) ?_
    refine wpAnyH_take (i := 23) (v := .agg #[.int .i64 1, .int .u32 1, .int .u32 10, .int .i64 7, .bool false, .slice none 0 0]) rfl (by kernel_rfl) (by kernel_rfl) (by kernel_rfl) (fun _ _ _ h => h) (Or.inl ⟨by kernel_rfl, fun wq hSw => by
      obtain ⟨⟨q0, q1, q2, q3, q4, q5, q6⟩, r0, r1, r2, r3, r4, r5⟩ := HC6.out wq hSw
      clear hSw
      go_simp⟩) (by assumption) ?_
    refine wpAnyH_ready (rs := [24]) (by kernel_rfl) (by simp) ?_
    refine AllReadyH.cons (i := 24) rfl ?_ AllReadyH.nil
    go_simp
    intro K hK
    refine (HSm.out _ hh).mono ?_
    rintro e wS ⟨rfl, hbS⟩
    have hS : Below w24.heap.size w24 wS := hh.trans (hbS.mono hh.size)
    refine hK.out _ _ hS (fun _ => ?_)
    clear hK K hbS
    refine wpAnyH_take (i := 25) (v := .bool false) rfl (by kernel_rfl) (by kernel_rfl) (by kernel_rfl) (fun _ _ _ h => h) (Or.inl ⟨by kernel_rfl, fun _ _ => by kernel_rfl⟩) (by assumption) ?_
    refine wpAnyH_take (i := 26) (v := .bool false) rfl (by kernel_rfl) (by kernel_rfl) (by kernel_rfl) (fun _ _ _ h => h) (Or.inl ⟨by kernel_rfl, fun _ _ => by kernel_rfl⟩) (by assumption) ?_
    refine wpAnyH_take (i := 27) (v := .bool false) rfl (by kernel_rfl) (by kernel_rfl) (by kernel_rfl) (fun _ _ _ h => h) (Or.inl ⟨by kernel_rfl, fun _ _ => by kernel_rfl⟩) (by assumption) ?_
    refine wpAnyH_take (i := 28) (v := .int .i64 0) rfl (by kernel_rfl) (by kernel_rfl) (by kernel_rfl) (fun _ _ _ h => h) (Or.inl ⟨by kernel_rfl, fun _ _ => by kernel_rfl⟩) (by assumption) ?_
    refine wpAnyH_take (i := 29) (v := .bool false) rfl (by kernel_rfl) (by kernel_rfl) (by kernel_rfl) (fun _ _ _ h => h) (Or.inl ⟨by kernel_rfl, fun _ _ => by kernel_rfl⟩) (by assumption) ?_
    refine wpAnyH_take (i := 30) (v := .bool false) rfl (by kernel_rfl) (by kernel_rfl) (by kernel_rfl) (fun _ _ _ h => h) (Or.inl ⟨by kernel_rfl, fun _ _ => by kernel_rfl⟩) (by assumption) ?_
    refine wpAnyH_take (i := 31) (v := .bool false) rfl (by kernel_rfl) (by kernel_rfl) (by kernel_rfl) (fun _ _ _ h => h) (Or.inl ⟨by kernel_rfl, fun _ _ => by kernel_rfl⟩) (by assumption) ?_
    refine wpAnyH_take (i := 32) (v := .bool false) rfl (by kernel_rfl) (by kernel_rfl) (by kernel_rfl) (fun _ _ _ h => h) (Or.inl ⟨by kernel_rfl, fun _ _ => by kernel_rfl⟩) (by assumption) ?_
    refine wpAnyH_take (i := 33) (v := .bool false) rfl (by kernel_rfl) (by kernel_rfl) (by kernel_rfl) (fun _ _ _ h => h) (Or.inl ⟨by kernel_rfl, fun _ _ => by kernel_rfl⟩) (by assumption) ?_
    refine wpAnyH_take (i := 34) (v := .bool false) rfl (by kernel_rfl) (by kernel_rfl) (by kernel_rfl) (fun _ _ _ h => h) (Or.inl ⟨by kernel_rfl, fun _ _ => by kernel_rfl⟩) (by assumption) ?_
    refine wpAnyH_take (i := 35) (v := .slice ua7 1 uc7) rfl (by kernel_rfl) (by kernel_rfl) (by kernel_rfl) (fun _ _ _ h => h) (Or.inl ⟨by kernel_rfl, fun _ _ => by kernel_rfl⟩) (by assumption) ?_
    refine wpAnyH_take (i := 36) (v := .agg #[.int .i64 1, .int .u32 1, .int .u32 10, .int .i64 7, .bool false, .slice none 0 0]) rfl (by kernel_rfl) (by kernel_rfl) (by kernel_rfl) (fun _ _ _ h => h) (Or.inl ⟨by kernel_rfl, fun wq hSw => by
      obtain ⟨⟨q0, q1, q2, q3, q4, q5, q6⟩, r0, r1, r2, r3, r4, r5⟩ := HC6.out wq hSw
      clear hSw
      go_simp⟩) (by assumption) ?_
    refine wpAnyH_ready (rs := [37]) (by kernel_rfl) (by simp) ?_
    refine AllReadyH.cons (i := 37) rfl ?_ AllReadyH.nil
    go_simp
    intro K hK
    refine (HIs.out _ hS).mono ?_
    rintro e wI ⟨rfl, hbI⟩
    have hI : Below w24.heap.size w24 wI := hS.trans (hbI.mono hS.size)
    refine hK.out _ _ hI (fun _ => ?_)
    clear hK K hbI
    refine wpAnyH_take (i := 38) (v := .bool false) rfl (by kernel_rfl) (by kernel_rfl) (by kernel_rfl) (fun _ _ _ h => h) (Or.inl ⟨by kernel_rfl, fun _ _ => by kernel_rfl⟩) (by assumption) ?_
    refine wpAnyH_take (i := 39) (v := .bool false) rfl (by kernel_rfl) (by kernel_rfl) (by kernel_rfl) (fun _ _ _ h => h) (Or.inl ⟨by kernel_rfl, fun _ _ => by kernel_rfl⟩) (by assumption) ?_
    refine wpAnyH_take (i := 40) (v := .bool false) rfl (by kernel_rfl) (by kernel_rfl) (by kernel_rfl) (fun _ _ _ h => h) (Or.inl ⟨by kernel_rfl, fun _ _ => by kernel_rfl⟩) (by assumption) ?_
    refine wpAnyH_take (i := 41) (v := ptr P) rfl (by kernel_rfl) (by kernel_rfl) (by kernel_rfl) (fun _ _ _ h => h) (Or.inl ⟨by kernel_rfl, fun _ _ => by kernel_rfl⟩) (by assumption) ?_
    refine wpAnyH_ready (rs := [42]) (by kernel_rfl) (by simp) ?_
    refine AllReadyH.cons (i := 42) rfl ?_ AllReadyH.nil
    go_simp
    intro K hK
    refine (HAl.out _ hI).mono ?_
    rintro e wA ⟨⟨aa, cc, rfl⟩, hbA⟩
    have hA : Below w24.heap.size w24 wA := hI.trans (hbA.mono hI.size)
    refine hK.out _ _ hA (fun _ => ?_)
    clear hK K hbA
    refine wpAnyH_take (i := 43) (v := .int .i64 2) rfl (by kernel_rfl) (by kernel_rfl) (by kernel_rfl) (fun _ _ _ h => h) (Or.inl ⟨by kernel_rfl, fun _ _ => by kernel_rfl⟩) (by assumption) ?_
    refine wpAnyH_take (i := 44) (v := .bool false) rfl (by kernel_rfl) (by kernel_rfl) (by kernel_rfl) (fun _ _ _ h => h) (Or.inl ⟨by kernel_rfl, fun _ _ => by kernel_rfl⟩) (by assumption) ?_
    refine wpAnyH_take (i := 45) (v := .bool false) rfl (by kernel_rfl) (by kernel_rfl) (by kernel_rfl) (fun _ _ _ h => h) (Or.inl ⟨by kernel_rfl, fun _ _ => by kernel_rfl⟩) (by assumption) ?_
    refine wpAnyH_done (by kernel_rfl) ?_ _
    go_wp2_with fail
    go_meet
    exact ⟨rfl, hA⟩
  case rest =>
    obtain ⟨rfl, hb⟩ := hcut
    obtain ⟨w25, hw25⟩ : ∃ w25, w25 = wc := ⟨_, rfl⟩
    rw [← hw25] at hb ⊢
    clear hw25
    have HB25 := hidIn (HB24.out.trans (hb.mono HB24.out.size))
    have HFl25 := hidIn (HFl24.out.keep hb)
    have HX25 := hidIn ((hb.block _ (block_lt HX24.out)).trans HX24.out)
    have HY25 := hidIn ((hb.block _ (block_lt HY24.out)).trans HY24.out)
    have HD1 := hidIn (fdown_any HFl25.out 2)
    clear hb HC6 HSm HIs HAl HFl24 HB24 HX24 HY24
    go_wp2_with fail
    refine HD1.out.mono ?_
    rintro e w26 h
    rcases h with ⟨h, _⟩ | ⟨_, h, _⟩ | ⟨_, _, rfl, hfl, hF'⟩
    · rw [kk_dn.1] at h
      cases h
    · rw [kk_dn.2.1] at h
      cases h
    have hF : Fr (FlB P O M ob3) w25 w26 := hF'.mono fun k _ hk => .inr (.inl hk)
    have HFl26 : Hid (FlAt w26 P O S M 3 ks10 f3' (delO ob3 2)) := hidIn hfl
    have HB26 := hidIn (fr_own HB25.out hF HPO.out Hob3.out)
    have HY26 := hidIn (fr_blk HFl25.out hF HY25.out (by decide))
    have HD2 := hidIn (fdown_any HFl26.out 2)
    have HD3 := hidIn (fdown_any HFl26.out 25)
    have HT7 := hidIn (ftake_any (p := 2) (now := 9) (r := kx) (ra := none) (rn := 0) (rc := 0) HFl26.out (by omega) (nilA w26) (by decide))
    clear hfl hF hF' HD1 HFl25 HB25 HX25 HY25
    go_wp2_with fail
    refine HD2.out.mono ?_
    rintro e w27 h
    rcases h with ⟨h, _⟩ | ⟨_, _, rfl, hw⟩ | ⟨_, h, _⟩
    · rw [kk_dn.2.2.1] at h
      cases h
    rotate_left
    · rw [kk_dn.2.2.2.1] at h
      cases h
    rw [hw]
    clear hw HD2 w27
    go_wp2_with fail
    refine HD3.out.mono ?_
    rintro e w27 h
    rcases h with ⟨_, rfl, hw⟩ | ⟨h, _⟩ | ⟨h, _⟩
    rotate_left
    · rw [kk_dn.2.2.2.2] at h
      cases h
    · rw [kk_dn.2.2.2.2] at h
      cases h
    rw [hw]
    clear hw HD3 w27
    have z0 := cell_of_row _ _ 0 _ _ _ HY26.out
    have z1 := cell_of_row _ _ 1 _ _ _ HY26.out
    have z2 := cell_of_row _ _ 2 _ _ _ HY26.out
    have z3 := cell_of_row _ _ 3 _ _ _ HY26.out
    have z4 := cell_of_row _ _ 4 _ _ _ HY26.out
    have z5 := cell_of_row _ _ 5 _ _ _ HY26.out
    simp at z0 z1 z2 z3 z4 z5
    go_wp2_with fail
    refine HT7.out.mono ?_
    rintro e w27 h
    rcases h with ⟨h, _⟩ | ⟨_, _, _, _, rfl, hb⟩ | ⟨_, _, _, h, _⟩
    · rw [kk_dn.2.2.1, kk_t1.2.1, kk_en.1] at h
      simp at h
    rotate_left
    · rw [kk_dn.2.2.2.1] at h
      cases h
    have HB27 := hidIn (HB26.out.trans (hb.mono HB26.out.size))
    have HFl27 := hidIn (HFl26.out.keep hb)
    have HY27 := hidIn ((hb.block _ (block_lt HY26.out)).trans HY26.out)
    clear hb HT7 HFl26 HB26 HY26 z0 z1 z2 z3 z4 z5
    go_wp2_with fail
    refine (fnew_any 0 1 4 (by omega) _).mono ?_
    rintro e w28 ⟨h, hb⟩
    rcases h with ⟨_, rfl⟩ | ⟨h, _⟩
    rotate_left
    · rw [kk_en.2.2.2.1] at h
      cases h
    have HB28 := hidIn (HB27.out.trans (hb.mono HB27.out.size))
    have HFl28 := hidIn (HFl27.out.keep hb)
    have HY28 := hidIn ((hb.block _ (block_lt HY27.out)).trans HY27.out)
    clear hb HFl27 HB27 HY27
    go_wp2_with fail
    refine (fnew_any 1 0 4 (by omega) _).mono ?_
    rintro e w29 ⟨h, hb⟩
    rcases h with ⟨_, rfl⟩ | ⟨h, _⟩
    rotate_left
    · rw [kk_en.2.2.2.2.1] at h
      cases h
    have HB29 := hidIn (HB28.out.trans (hb.mono HB28.out.size))
    have HFl29 := hidIn (HFl28.out.keep hb)
    have HY29 := hidIn ((hb.block _ (block_lt HY28.out)).trans HY28.out)
    clear hb HFl28 HB28 HY28
    go_wp2_with fail
    refine (fnew_any 1 1 65 (by omega) _).mono ?_
    rintro e w30 ⟨h, hb⟩
    rcases h with ⟨_, rfl⟩ | ⟨h, _⟩
    rotate_left
    · rw [kk_en.2.2.2.2.2] at h
      cases h
    have HB30 := hidIn (HB29.out.trans (hb.mono HB29.out.size))
    have HFl30 := hidIn (HFl29.out.keep hb)
    have HY30 := hidIn ((hb.block _ (block_lt HY29.out)).trans HY29.out)
    have HTi := hidIn (ftick2_any HFl30.out 1099511627777)
    clear hb HFl29 HB29 HY29
    go_wp2_with fail
    refine HTi.out.mono ?_
    rintro e w31 h
    rcases h with ⟨_, rfl, hb⟩ | ⟨h, _⟩
    rotate_left
    · rw [kk_en.2.1] at h
      cases h
    have HB31 := hidIn (HB30.out.trans (hb.mono HB30.out.size))
    have HFl31 := hidIn (HFl30.out.keep hb)
    have HY31 := hidIn ((hb.block _ (block_lt HY30.out)).trans HY30.out)
    have HOw2 := hidIn (fown_any HFl31.out (by omega) (claim := 1025) (now := 9) (ing := false) (l := []) (va := .slice none 0 0) (nilA w31) (fun r u h => by
      have h1 : rOf (f3' ks10.self) = kr10 := Hro3.out
      rw [h] at h1
      have h2 : r = kr10 := h1
      rw [h2]
      decide))
    clear hb HTi HFl30 HB30 HY30
    go_wp2_with fail
    refine HOw2.out.mono ?_
    rintro e w32 h
    have hro9 : rOf (f3' ks10.self) = kr10 := Hro3.out
    unfold OwnAns at h
    rw [hro9, kk_en.2.2.1] at h
    rcases h with ⟨_, rfl, hb⟩ | ⟨_, h, _⟩ | ⟨_, h, _⟩
    rotate_left
    · cases h
    · cases h
    have HB32 := hidIn (HB31.out.trans (hb.mono HB31.out.size))
    have HFl32 := hidIn (HFl31.out.keep hb)
    have HY32 := hidIn ((hb.block _ (block_lt HY31.out)).trans HY31.out)
    clear hb hro9 HOw2 HFl31 HB31 HY31 HFl32
    have Hn0 : Hid (NoFl w32 none) := hidIn (.inl rfl)
    obtain ⟨w33, hw33⟩ : ∃ w33, w32.alloc (.cells #[.int .i64 0, .int .u32 0, .int .u64 0, .int .u64 0, .pointer none, .map none] 91) = w33 := ⟨_, rfl⟩
    have hb : Below w32.heap.size w32 w33 := by rw [← hw33]; exact (Below.refl _ w32).alloc (Nat.le_refl _) _
    have hZ33 : w33.heap[w32.heap.size]? = some (.cells #[.int .i64 0, .int .u32 0, .int .u64 0, .int .u64 0, .pointer none, .map none] 91) := by rw [← hw33]; exact heap_alloc_last w32 _
    obtain ⟨b40, hb40⟩ : ∃ b40, w32.heap.size = b40 := ⟨_, rfl⟩
    rw [hb40] at hZ33
    have HB33 := hidIn (HB32.out.trans (hb.mono HB32.out.size))
    have HY33 := hidIn ((hb.block _ (block_lt HY32.out)).trans HY32.out)
    have HZ33 := hidIn hZ33
    have HNo : Hid (∀ wq, Below w33.heap.size w33 wq → NoFl wq none ∧ NoFl wq (some ⟨b40, 0, none⟩)) := hidIn fun wq hq => ⟨.inl rfl, .inr ⟨b40, rfl, (hq.block _ (block_lt HZ33.out)).trans HZ33.out⟩⟩
    have HY8 : Hid (∀ wq, Below w33.heap.size w33 wq → wq.heap[b8]? = some (.cells #[.int .i64 5, .int .u32 1, .int .u32 1, .int .i64 0, .bool false, .slice none 0 0] 38)) := hidIn fun wq hq => (hq.block _ (block_lt HY33.out)).trans HY33.out
    have HW33 := hidIn hw33
    clear hb hZ33 hw33 Hn0 HB32 HY32 HY33 HZ33
    go_upto_region 34 with fail
    rw [HW33.out]
    clear HW33 hb40
    go_wp2_with fail
    refine (nup_any (HNo.out _ (Below.refl _ _)).1).mono ?_
    rintro e w34 ⟨rfl, h34⟩
    go_wp2_with fail
    refine (ntick_any (HNo.out _ h34).2).mono ?_
    rintro e w35 ⟨rfl, hb⟩
    have h35 := h34.trans (hb.mono h34.size)
    clear hb h34
    have hy := HY8.out _ h35
    have z0 := cell_of_row _ _ 0 _ _ _ hy
    have z1 := cell_of_row _ _ 1 _ _ _ hy
    have z2 := cell_of_row _ _ 2 _ _ _ hy
    have z3 := cell_of_row _ _ 3 _ _ _ hy
    have z4 := cell_of_row _ _ 4 _ _ _ hy
    have z5 := cell_of_row _ _ 5 _ _ _ hy
    simp at z0 z1 z2 z3 z4 z5
    clear hy
    go_wp2_with fail
    refine (ntake_any (HNo.out _ h35).1).mono ?_
    rintro e w36 ⟨rfl, hb⟩
    have h36 := h35.trans (hb.mono h35.size)
    clear hb h35 z0 z1 z2 z3 z4 z5
    go_upto_region 37 with fail
    simp only [List.append]
    go_wp2_with fail
    refine (fworks_any _).mono ?_
    rintro e w37 ⟨rfl, hb⟩
    have h37 := h36.trans (hb.mono h36.size)
    clear hb h36
    go_wp2_with fail
    refine (ndown_any (HNo.out _ h37).1).mono ?_
    rintro e w38 ⟨rfl, hb⟩
    have h38 := h37.trans (hb.mono h37.size)
    clear hb h37
    go_wp2_with fail
    refine (nack_any (HNo.out _ h38).2).mono ?_
    rintro e w39 ⟨rfl, hb⟩
    have h39 := h38.trans (hb.mono h38.size)
    clear hb h38
    go_wp2_with fail
    refine (npend_any (HNo.out _ h39).1).mono ?_
    rintro e w40 ⟨rfl, hb⟩
    have h40 := h39.trans (hb.mono h39.size)
    clear hb h39
    go_wp2_with fail
    refine (nall_any (HNo.out _ h40).2).mono ?_
    rintro e w41 ⟨rfl, hb⟩
    have h41 := h40.trans (hb.mono h40.size)
    clear hb h40
    go_wp2_with fail
    refine (ncopy_any (HNo.out _ h41).1).mono ?_
    rintro e w42 ⟨rfl, hb⟩
    have h42 := h41.trans (hb.mono h41.size)
    clear hb h41
    go_wp2_with fail
    refine (ncopy_any (HNo.out _ h42).2).mono ?_
    rintro e w43 ⟨rfl, hb⟩
    have HEnd := hidIn (HB33.out.trans ((h42.trans (hb.mono h42.size)).mono HB33.out.size))
    clear hb h42
    go_wp2_with fail
    go_ret
    exact ⟨rfl, HEnd.out⟩
end Go.Proofs.Yteaaoipipjkgnaa
