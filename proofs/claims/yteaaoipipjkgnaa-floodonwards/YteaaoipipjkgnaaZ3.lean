/- The law's works. Floods that are none. FloodOnwards, without memory. Records and stamps as arguments. Small numbers of four, stamps, as arguments. Records as an argument, with what a uint32 holds. FloodOnwards: bools as an argument, the array of the best stamps. FloodKnown's states. FloodOnwards. -/
import Derived.Test.YteaaoipipjkgnaaZ2
import Derived.Test.YteaaoipipjkgnaaZ1
import Derived.Test.YteaaoipipjkgnaaNP
import Derived.Test.YteaaoipipjkgnaaX1
import Derived.Test.YteaaoipipjkgnaaGH
import Derived.Deep.DeepCutAuto
namespace Go.Proofs.Yteaaoipipjkgnaa
open Go.RowKit Go.Maps

def wr1 : Rc := ⟨1, 1, 1, 7, false, []⟩
def wF1 : Rf := putR noR9 wr1
def ws0 : Fp := newFp 1 1 4
def ws1 : Fp := (ws0.tick 0).oweL (upL ws0 0 24) 1 0
def ws2 : Fp := ((ws1.up 2).tick 0).oweO 2 [1] 0
def ws3 : Fp := (ws2.tick 3).tickL (upL ws2 0 24) 3
def ws4 : Fp := (ws3.tick 4).tickL (upL ws3 0 24) 4
def ws5 : Fp := ws4.free 2 1
theorem wk_new : nwOk 1 1 4 = true := by decide
theorem wk_own : tkOk ws0 0 = true ∧ ownR ws0 rc0 7 false [] = wr1 ∧ recOk wr1 = true ∧ upL ws0 0 24 = [] := ⟨by decide, rfl, by decide, by decide⟩
theorem wk_up : isOth ws1 2 = true ∧ tkOk ws1 0 = true ∧ (ws1.ow 2).isSome = false := ⟨by decide, by decide, by decide⟩
theorem wk_all : allR wF1 24 = [wr1] ∧ gD (wF1 1) = wr1 := ⟨by kernel_rfl, by kernel_rfl⟩
theorem wk_t3 : tkOk ws2 3 = true ∧ upL ws2 0 24 = [2] ∧ dueO ws2 2 3 = [] := ⟨by decide, by decide, by decide⟩
theorem wk_t4 : tkOk ws3 4 = true ∧ upL ws3 0 24 = [2] ∧ dueO ws3 2 4 = [1] := ⟨by decide, by decide, by decide⟩
theorem wk_end : pendA ws4 = 1 ∧ isOth ws4 2 = true ∧ mayS 1 1 1 = true ∧ (ws4.ow 2).isSome = true ∧ pendA ws5 = 0 := ⟨by decide, by decide, by decide, by decide, by decide⟩
set_option maxRecDepth 100000 in
set_option maxHeartbeats 8000000 in
theorem fworks_any (w : World) : Calls Try.prog 9 #[] w fun e w' => e = .returned (.bool true) ∧ Below w.heap.size w w' := by
  go_enter Try.func9, Try.ntmps9
  go_wp2_with fail
  refine (fnew_any 1 1 4 (by omega) _).mono ?_
  rintro e w1 ⟨h1, hb1⟩
  rcases h1 with ⟨h1, _⟩ | ⟨_, P, O, S, M, rfl, hfl, hP, hO, hS, hM⟩
  · rw [wk_new] at h1
    cases h1
  have HFl1 : Hid (FlAt w1 P O S M 0 ws0 (fun _ => none) (fun _ => none)) := hidIn hfl
  have HPO := hidIn (And.intro hP (And.intro hO hM))
  have HB1 := hidIn hb1
  clear hfl hP hO hS hM hb1
  go_wp2_with fail
  refine (lrec_any 1 1 1 _).mono ?_
  rintro e w2 ⟨rfl, hb2⟩
  obtain ⟨W3, hW3⟩ : ∃ W3, w2.alloc (.cells #[.int .i64 1, .int .u32 1, .int .u32 1, .int .i64 0, .bool false, .slice none 0 0] 38) = W3 := ⟨_, rfl⟩
  have b3' : Below w2.heap.size w2 W3 := by rw [← hW3]; exact (Below.refl _ w2).alloc (Nat.le_refl _) _
  have hX3 : W3.heap[w2.heap.size]? = some (.cells #[.int .i64 1, .int .u32 1, .int .u32 1, .int .i64 0, .bool false, .slice none 0 0] 38) := by rw [← hW3]; exact heap_alloc_last w2 _
  have b13 := hb2.trans (b3'.mono hb2.size)
  have hwl : w.heap.size ≤ w2.heap.size := Nat.le_trans HB1.out.size hb2.size
  have h1l : w1.heap.size ≤ w2.heap.size := hb2.size
  obtain ⟨b3, hb3⟩ : ∃ b3, w2.heap.size = b3 := ⟨_, rfl⟩
  rw [hb3] at hX3 hwl h1l
  have q3 := cell_of_row _ _ 3 _ _ _ hX3
  simp at q3
  have qf := frozen_new hX3 3
  obtain ⟨W4, hW4⟩ : ∃ W4, W3.setCell ⟨b3, 3, none⟩ (.int .i64 7) = W4 := ⟨_, rfl⟩
  have hX4 : W4.heap[b3]? = some (.cells #[.int .i64 1, .int .u32 1, .int .u32 1, .int .i64 7, .bool false, .slice none 0 0] 38) := by
    rw [← hW4]
    have := heap_setCell_same W3 b3 3 _ _ (.int .i64 7) hX3
    simp at this
    exact this
  have b14 : Below w1.heap.size w1 W4 := by rw [← hW4]; exact b13.setCell (p := ⟨b3, 3, none⟩) h1l _
  have HX4 := hidIn hX4
  have HFl4 := hidIn (HFl1.out.keep b14)
  have HB4 := hidIn (HB1.out.trans (b14.mono HB1.out.size))
  have HOw := hidIn (fown_any HFl4.out (by omega) (claim := 7) (now := 0) (ing := false) (l := []) (va := .slice none 0 0) (slAt_of_row (cs := ac) (fun _ => rfl) (World.ownsRow_nil W4 0 98 2) rfl) (fun r u h => by cases h))
  have HW3 := hidIn hW3
  have HW4 := hidIn hW4
  clear hb2 hW3 hW4 b3' hX3 b13 b14 hX4 HFl1 HB1 hwl h1l
  go_upto_region 5 with fail
  rw [HW3.out]
  clear HW3 hb3
  go_upto_region 6 with fail
  rw [HW4.out]
  clear HW4 q3 qf
  go_wp2_with fail
  refine HOw.out.mono ?_
  rintro e w5 h5
  have hro : rOf ((fun _ => none : Sf) ws0.self) = rc0 := rfl
  unfold OwnAns at h5
  rw [hro, wk_own.2.1, wk_own.2.2.2] at h5
  rcases h5 with ⟨h5, _⟩ | ⟨_, _, h5, _⟩ | ⟨_, _, _, u0, f1, rfl, hf1, hfl5, hs5, hF⟩
  · rw [wk_own.1, wk_own.2.2.1] at h5
    simp at h5
  · exact absurd h5 (by decide)
  have Hf1 : Hid (fR f1 = wF1) := hidIn hf1
  have HFl5 : Hid (FlAt w5 P O S M 1 ws1 f1 (fun _ => none)) := hidIn (by unfold ws1; rw [wk_own.2.2.2]; exact hfl5)
  obtain ⟨ua0, uc0, rfl⟩ := hs5.shape
  have HX5 := hidIn ((hF.block b3 (block_lt HX4.out) (HFl4.out.noB HX4.out (by decide))).trans HX4.out)
  have HB5 := hidIn (HB4.out.trans (hF.below HB4.out.size (fun j hj => by rcases hj with e | e | e | ⟨k, e⟩; rw [e]; exact HPO.out.1; rw [e]; exact HPO.out.2.1; rw [e]; exact HPO.out.2.2; cases e)))
  have HUp := hidIn (fup2_any HFl5.out 2 0)
  clear hf1 hfl5 hs5 hF hro HOw HFl4 HX4 HB4
  simp only [List.map_nil, List.length_nil]
  go_wp2_with fail
  refine HUp.out.mono ?_
  rintro e w6 h6
  have hal : allL f1 24 = [wr1] := by rw [allL_fR, Hf1.out]; exact wk_all.1
  unfold UpAns at h6
  rw [hal] at h6
  rcases h6 with ⟨h6, _⟩ | ⟨_, _, h6, _⟩ | ⟨_, _, _, u1, rfl, hfl6, hs6, hF⟩
  · rw [wk_up.1, wk_up.2.1] at h6
    simp at h6
  · rw [wk_up.2.2] at h6
    cases h6
  have Hob : Hid (w.heap.size ≤ w5.heap.size) := hidIn HB5.out.size
  obtain ⟨ob, hob⟩ : ∃ ob, putO (fun _ => none : Int → Option Nat) 2 w5.heap.size = ob := ⟨_, rfl⟩
  have HobW : Hid (∀ k j, ob k = some j → w.heap.size ≤ j) := hidIn fun k j hk => by
    rw [← hob] at hk
    unfold putO at hk
    split at hk
    · cases hk; exact Hob.out
    · cases hk
  rw [hob] at hfl6
  have HFl6 : Hid (FlAt w6 P O S M 1 ws2 f1 ob) := hidIn hfl6
  have HS6 : Hid (SndAns w5 w6 [(2, wr1)] u1) := hidIn hs6
  have HX6 := hidIn ((hF.block b3 (block_lt HX5.out) (HFl5.out.noB HX5.out (by decide))).trans HX5.out)
  have HB6 := hidIn (HB5.out.trans (hF.below HB5.out.size (fun j hj => by rcases hj with e | e | e | ⟨k, e⟩; rw [e]; exact HPO.out.1; rw [e]; exact HPO.out.2.1; rw [e]; exact HPO.out.2.2; cases e)))
  have HTk3 := hidIn (ftick2_any HFl6.out 3)
  obtain ⟨ua1, uc1, hu1⟩ := HS6.out.shape
  subst hu1
  clear hfl6 hs6 hF hal hob HUp HFl5 HX5 HB5 Hob
  simp only [List.length_cons, List.length_nil]
  go_wp2_with fail
  refine HTk3.out.mono ?_
  rintro e w7 h7
  rcases h7 with ⟨h7, _⟩ | ⟨_, u2, rfl, hfl7, hs7, hF⟩
  · rw [wk_t3.1] at h7
    cases h7
  have ht7 : tkT ws2 f1 (upL ws2 0 24) 3 = [] := by rw [wk_t3.2.1]; unfold tkT; simp [wk_t3.2.2]
  rw [ht7] at hs7
  have HFl7 : Hid (FlAt w7 P O S M 1 ws3 f1 ob) := hidIn hfl7
  obtain ⟨ua2, uc2, rfl⟩ := hs7.shape
  have HX7 := hidIn ((hF.block b3 (block_lt HX6.out) (HFl6.out.noB HX6.out (by decide))).trans HX6.out)
  have HS7 := hidIn (HS6.out.call HFl6.out hF)
  have HB7 := hidIn (HB6.out.trans (hF.below HB6.out.size (fun j hj => by rcases hj with e | e | e | ⟨k, e⟩; rw [e]; exact HPO.out.1; rw [e]; exact HPO.out.2.1; rw [e]; exact HPO.out.2.2; exact HobW.out k j e)))
  have HTk4 := hidIn (ftick2_any HFl7.out 4)
  clear hfl7 hs7 hF ht7 HTk3 HFl6 HX6 HB6 HS6
  simp only [List.length_nil]
  go_wp2_with fail
  refine HTk4.out.mono ?_
  rintro e w8 h8
  rcases h8 with ⟨h8, _⟩ | ⟨_, u3, rfl, hfl8, hs8, hF⟩
  · rw [wk_t4.1] at h8
    cases h8
  have hr1 : rOf (f1 1) = wr1 := by rw [rOf_fR, Hf1.out]; exact wk_all.2
  have ht8 : tkT ws3 f1 (upL ws3 0 24) 4 = [(2, wr1)] := by rw [wk_t4.2.1]; unfold tkT; simp [wk_t4.2.2, hr1]
  rw [ht8] at hs8
  have HFl8 : Hid (FlAt w8 P O S M 1 ws4 f1 ob) := hidIn hfl8
  have HT8 : Hid (SndAns w7 w8 [(2, wr1)] u3) := hidIn hs8
  have Hr1 := hidIn hr1
  have HX8 := hidIn ((hF.block b3 (block_lt HX7.out) (HFl7.out.noB HX7.out (by decide))).trans HX7.out)
  have HS8 := hidIn (HS7.out.call HFl7.out hF)
  have HB8 := hidIn (HB7.out.trans (hF.below HB7.out.size (fun j hj => by rcases hj with e | e | e | ⟨k, e⟩; rw [e]; exact HPO.out.1; rw [e]; exact HPO.out.2.1; rw [e]; exact HPO.out.2.2; exact HobW.out k j e)))
  obtain ⟨ua3, uc3, hu3⟩ := HT8.out.shape
  subst hu3
  have HIs1 : Hid (Calls Try.prog 27 #[.slice ua1 1 uc1, .int .i64 2, .agg #[.int .i64 1, .int .u32 1, .int .u32 1, .int .i64 7, .bool false, .slice none 0 0]] w8 fun e w' => e = .returned (.bool true) ∧ Below w8.heap.size w8 w') := hidIn (is_yes (r := wr1) (ra := none) (rc := 0) HS8.out (slAt_of_row (cs := ac) (fun _ => rfl) (World.ownsRow_nil w8 0 98 2) rfl))
  clear hfl8 hs8 hF ht8 HTk4 HFl7 HX7 HB7 HS7 hr1
  simp only [List.length_cons, List.length_nil]
  have x0 := cell_of_row _ _ 0 _ _ _ HX8.out
  have x1 := cell_of_row _ _ 1 _ _ _ HX8.out
  have x2 := cell_of_row _ _ 2 _ _ _ HX8.out
  have x3 := cell_of_row _ _ 3 _ _ _ HX8.out
  have x4 := cell_of_row _ _ 4 _ _ _ HX8.out
  have x5 := cell_of_row _ _ 5 _ _ _ HX8.out
  simp at x0 x1 x2 x3 x4 x5
  go_wp2_with fail
  refine HIs1.out.mono ?_
  rintro e w9 ⟨rfl, hb9⟩
  have HFl9 := hidIn (HFl8.out.keep hb9)
  have HX9 := hidIn ((hb9.block _ (block_lt HX8.out)).trans HX8.out)
  have HT9 := hidIn (HT8.out.keep hb9)
  have HB9 := hidIn (HB8.out.trans (hb9.mono HB8.out.size))
  have HIs2 : Hid (Calls Try.prog 27 #[.slice ua3 1 uc3, .int .i64 2, .agg #[.int .i64 1, .int .u32 1, .int .u32 1, .int .i64 7, .bool false, .slice none 0 0]] w9 fun e w' => e = .returned (.bool true) ∧ Below w9.heap.size w9 w') := hidIn (is_yes (r := wr1) (ra := none) (rc := 0) HT9.out (slAt_of_row (cs := ac) (fun _ => rfl) (World.ownsRow_nil w9 0 98 2) rfl))
  clear hb9 x0 x1 x2 x3 x4 x5 HIs1 HFl8 HX8 HT8 HB8 HS8
  have x0 := cell_of_row _ _ 0 _ _ _ HX9.out
  have x1 := cell_of_row _ _ 1 _ _ _ HX9.out
  have x2 := cell_of_row _ _ 2 _ _ _ HX9.out
  have x3 := cell_of_row _ _ 3 _ _ _ HX9.out
  have x4 := cell_of_row _ _ 4 _ _ _ HX9.out
  have x5 := cell_of_row _ _ 5 _ _ _ HX9.out
  simp at x0 x1 x2 x3 x4 x5
  go_wp2_with fail
  refine HIs2.out.mono ?_
  rintro e w10 ⟨rfl, hb10⟩
  have HFl10 := hidIn (HFl9.out.keep hb10)
  have HX10 := hidIn ((hb10.block _ (block_lt HX9.out)).trans HX9.out)
  have HB10 := hidIn (HB9.out.trans (hb10.mono HB9.out.size))
  have HPe := hidIn (fpend_any HFl10.out)
  rw [wk_end.1] at HPe
  clear hb10 x0 x1 x2 x3 x4 x5 HIs2 HFl9 HX9 HT9 HB9
  go_wp2_with fail
  refine HPe.out.mono ?_
  rintro e w11 ⟨rfl, hb11⟩
  have HFl11 := hidIn (HFl10.out.keep hb11)
  have HX11 := hidIn ((hb11.block _ (block_lt HX10.out)).trans HX10.out)
  have HB11 := hidIn (HB10.out.trans (hb11.mono HB10.out.size))
  clear hb11 HPe HFl10 HX10 HB10
  have x0 := cell_of_row _ _ 0 _ _ _ HX11.out
  have x1 := cell_of_row _ _ 1 _ _ _ HX11.out
  have x2 := cell_of_row _ _ 2 _ _ _ HX11.out
  have x3 := cell_of_row _ _ 3 _ _ _ HX11.out
  have x4 := cell_of_row _ _ 4 _ _ _ HX11.out
  have x5 := cell_of_row _ _ 5 _ _ _ HX11.out
  simp at x0 x1 x2 x3 x4 x5
  go_wp2_with fail
  refine (stamp_lit 1 1 1 7 false none 0 0 _).mono ?_
  rintro e w12 ⟨rfl, hb12⟩
  have HFl12 := hidIn (HFl11.out.keep hb12)
  have HB12 := hidIn (HB11.out.trans (hb12.mono HB11.out.size))
  have HAk := hidIn (fack_any HFl12.out 2 1 1 1 (by omega) (by omega))
  clear hb12 x0 x1 x2 x3 x4 x5 HFl11 HX11 HB11
  go_wp2_with fail
  refine HAk.out.mono ?_
  rintro e w13 h13
  unfold AckAns at h13
  rcases h13 with ⟨h13, _⟩ | ⟨_, _, h13, _⟩ | ⟨_, _, _, rfl, hfl13, hF⟩
  · rw [wk_end.2.1, wk_end.2.2.1] at h13
    simp at h13
  · rw [wk_end.2.2.2.1] at h13
    cases h13
  rw [Hr1.out, if_pos (show stOf wr1 = (1, 1, 1) from rfl)] at hfl13
  have HB13 := hidIn (HB12.out.trans (hF.below HB12.out.size (fun j hj => by obtain ⟨k, e⟩ := hj; exact HobW.out k j e)))
  have HPe := hidIn (fpend_any (s := ws5) hfl13)
  rw [wk_end.2.2.2.2] at HPe
  clear hfl13 hF HAk HFl12 HB12
  go_wp2_with fail
  refine HPe.out.mono ?_
  rintro e w14 ⟨rfl, hb14⟩
  have HB14 := hidIn (HB13.out.trans (hb14.mono HB13.out.size))
  clear hb14 HPe HB13
  go_wp2_with fail
  go_ret
  exact ⟨rfl, HB14.out⟩
end Go.Proofs.Yteaaoipipjkgnaa
namespace Go.Proofs.Yteaaoipipjkgnaa
open Go.RowKit Go.Maps

/-- A flood that is none: nil, or one that New did not make. -/
def NoFl (w : World) (o : Option Addr) : Prop := o = none ∨ ∃ P, o = some ⟨P, 0, none⟩ ∧ w.heap[P]? = some (.cells #[.int .i64 0, .int .u32 0, .int .u64 0, .int .u64 0, .pointer none, .map none] 91)
theorem NoFl.keep {w w' : World} {o : Option Addr} (h : NoFl w o) (hb : Below w.heap.size w w') : NoFl w' o := by
  rcases h with h | ⟨P, h1, h2⟩
  · exact .inl h
  · exact .inr ⟨P, h1, (hb.block _ (block_lt h2)).trans h2⟩
theorem neqOn (w : World) : (binOp BinOp.neq 89 (.map none) (.map none)).run Try.prog w = .ok (.bool false) w := by kernel_rfl
set_option maxRecDepth 100000 in
theorem nthere_any {w : World} {o : Option Addr} (h : NoFl w o) : Calls Try.prog 43 #[.pointer o] w fun e w' => e = .returned (.bool false) ∧ w' = w := by
  rcases h with rfl | ⟨P, rfl, h2⟩
  · go_enter Try.func43, Try.ntmps43
    go_wp2_with fail
    go_ret
    exact ⟨rfl, rfl⟩
  · have h0 := cell_of_row _ _ 5 _ _ _ h2
    simp at h0
    have hn := neqOn
    clear h2
    go_enter Try.func43, Try.ntmps43
    go_wp2_with fail
    go_ret
    exact ⟨rfl, rfl⟩
set_option maxRecDepth 100000 in
theorem nup_any {w : World} {o : Option Addr} {p now : Int} (h : NoFl w o) : Calls Try.prog 20 #[.pointer o, .int .i64 p, .int .u64 now] w fun e w' => e = .returned (.tuple #[.slice none 0 0, .int .i64 1]) ∧ Below w.heap.size w w' := by
  have HT := hidIn (nthere_any h)
  clear h
  go_enter Try.func20, Try.ntmps20
  go_wp2_with fail
  refine HT.out.mono ?_
  rintro e w1 ⟨rfl, h1⟩
  rw [h1]
  clear HT h1 w1
  go_wp2_with fail
  go_returns
  exact ⟨rfl, Below.refl _ _⟩
set_option maxRecDepth 100000 in
theorem ndown_any {w : World} {o : Option Addr} {p : Int} (h : NoFl w o) : Calls Try.prog 29 #[.pointer o, .int .i64 p] w fun e w' => e = .returned (.int .i64 1) ∧ Below w.heap.size w w' := by
  have HT := hidIn (nthere_any h)
  clear h
  go_enter Try.func29, Try.ntmps29
  go_wp2_with fail
  refine HT.out.mono ?_
  rintro e w1 ⟨rfl, h1⟩
  rw [h1]
  clear HT h1 w1
  go_wp2_with fail
  go_ret
  exact ⟨rfl, Below.refl _ _⟩
set_option maxRecDepth 100000 in
theorem npend_any {w : World} {o : Option Addr}  (h : NoFl w o) : Calls Try.prog 12 #[.pointer o] w fun e w' => e = .returned (.int .i64 0) ∧ Below w.heap.size w w' := by
  have HT := hidIn (nthere_any h)
  clear h
  go_enter Try.func12, Try.ntmps12
  go_wp2_with fail
  refine HT.out.mono ?_
  rintro e w1 ⟨rfl, h1⟩
  rw [h1]
  clear HT h1 w1
  go_wp2_with fail
  go_ret
  exact ⟨rfl, Below.refl _ _⟩
set_option maxRecDepth 100000 in
theorem nall_any {w : World} {o : Option Addr}  (h : NoFl w o) : Calls Try.prog 11 #[.pointer o] w fun e w' => e = .returned (.slice none 0 0) ∧ Below w.heap.size w w' := by
  have HT := hidIn (nthere_any h)
  clear h
  go_enter Try.func11, Try.ntmps11
  go_wp2_with fail
  refine HT.out.mono ?_
  rintro e w1 ⟨rfl, h1⟩
  rw [h1]
  clear HT h1 w1
  go_wp2_with fail
  go_ret
  exact ⟨rfl, Below.refl _ _⟩
set_option maxRecDepth 100000 in
theorem ncopy_any {w : World} {o : Option Addr}  (h : NoFl w o) : Calls Try.prog 30 #[.pointer o] w fun e w' => e = .returned (.pointer none) ∧ Below w.heap.size w w' := by
  have HT := hidIn (nthere_any h)
  clear h
  go_enter Try.func30, Try.ntmps30
  go_wp2_with fail
  refine HT.out.mono ?_
  rintro e w1 ⟨rfl, h1⟩
  rw [h1]
  clear HT h1 w1
  go_wp2_with fail
  go_ret
  exact ⟨rfl, Below.refl _ _⟩
set_option maxRecDepth 100000 in
theorem ntake_any {w : World} {o : Option Addr} {p now r0 r1 r2 r3 : Int} {r4 : Bool} {ra : Option Addr} {rn rc : Nat} (h : NoFl w o) : Calls Try.prog 21 #[.pointer o, .int .i64 p, .agg #[.int .i64 r0, .int .u32 r1, .int .u32 r2, .int .i64 r3, .bool r4, .slice ra rn rc], .int .u64 now] w fun e w' => e = .returned (.tuple #[.bool false, .slice none 0 0, .int .i64 1]) ∧ Below w.heap.size w w' := by
  obtain ⟨W1, hW1⟩ : ∃ W1, w.alloc (.cells #[.int .i64 r0, .int .u32 r1, .int .u32 r2, .int .i64 r3, .bool r4, .slice ra rn rc] 38) = W1 := ⟨_, rfl⟩
  have b1 : Below w.heap.size w W1 := by rw [← hW1]; exact (Below.refl _ w).alloc (Nat.le_refl _) _
  have HT := hidIn (nthere_any (h.keep b1))
  have HW := hidIn hW1
  have HB1 := hidIn b1
  clear h hW1 b1
  go_enter Try.func21, Try.ntmps21
  go_upto_region 1 with fail
  rw [HW.out]
  clear HW
  go_wp2_with fail
  refine HT.out.mono ?_
  rintro e w1 ⟨rfl, h1⟩
  rw [h1]
  clear HT h1 w1
  go_wp2_with fail
  go_returns
  exact ⟨rfl, HB1.out⟩
set_option maxRecDepth 100000 in
theorem nack_any {w : World} {o : Option Addr} {p r0 r1 r2 : Int} (h : NoFl w o) : Calls Try.prog 25 #[.pointer o, .int .i64 p, .agg #[.int .i64 r0, .int .u32 r1, .int .u32 r2]] w fun e w' => e = .returned (.int .i64 1) ∧ Below w.heap.size w w' := by
  obtain ⟨W1, hW1⟩ : ∃ W1, w.alloc (.cells #[.int .i64 r0, .int .u32 r1, .int .u32 r2] 67) = W1 := ⟨_, rfl⟩
  have b1 : Below w.heap.size w W1 := by rw [← hW1]; exact (Below.refl _ w).alloc (Nat.le_refl _) _
  have HT := hidIn (nthere_any (h.keep b1))
  have HW := hidIn hW1
  have HB1 := hidIn b1
  clear h hW1 b1
  go_enter Try.func25, Try.ntmps25
  go_upto_region 1 with fail
  rw [HW.out]
  clear HW
  go_wp2_with fail
  refine HT.out.mono ?_
  rintro e w1 ⟨rfl, h1⟩
  rw [h1]
  clear HT h1 w1
  go_wp2_with fail
  go_ret
  exact ⟨rfl, HB1.out⟩
set_option maxRecDepth 100000 in
theorem ntick_any {w : World} {o : Option Addr} {now : Int} (h : NoFl w o) : Calls Try.prog 18 #[.pointer o, .int .u64 now] w fun e w' => e = .returned (.tuple #[.slice none 0 0, .int .i64 1]) ∧ Below w.heap.size w w' := by
  obtain ⟨W1, hW1⟩ : ∃ W1, (w.alloc (.cells #[.pointer o] 26)).alloc (.cells #[.int .u64 now] 39) = W1 := ⟨_, rfl⟩
  have b1 : Below w.heap.size w W1 := by rw [← hW1]; exact ((Below.refl _ w).alloc (Nat.le_refl _) _).alloc (by simp) _
  have hA : W1.heap[w.heap.size]? = some (.cells #[.pointer o] 26) := by rw [← hW1, Below.heap_alloc _ _ _ (by simp)]; exact heap_alloc_last w _
  have a0 := cell_of_row _ _ 0 _ _ _ hA
  simp at a0
  clear hA
  have HT := hidIn (nthere_any (h.keep b1))
  have HW := hidIn hW1
  have HB1 := hidIn b1
  clear h hW1 b1
  go_enter Try.func18, Try.ntmps18
  go_upto_region 1 with fail
  rw [HW.out]
  clear HW
  go_wp2_with fail
  refine HT.out.mono ?_
  rintro e w1 ⟨rfl, h1⟩
  rw [h1]
  clear HT h1 w1
  go_wp2_with fail
  go_returns
  exact ⟨rfl, HB1.out⟩
end Go.Proofs.Yteaaoipipjkgnaa
namespace Go.Proofs.Yteaaoipipjkgnaa
open Go.RowKit Go.Maps

theorem owe_rest (s : Fp) (p o now : Int) : (s.owe p o now).self = s.self ∧ (s.owe p o now).again = s.again ∧ (s.owe p o now).last = s.last := ⟨rfl, rfl, rfl⟩
theorem oweL_rest (o now : Int) : ∀ (ps : List Int) (s : Fp), (s.oweL ps o now).self = s.self ∧ (s.oweL ps o now).again = s.again ∧ (s.oweL ps o now).last = s.last
  | [], _ => ⟨rfl, rfl, rfl⟩
  | p :: ps, s => oweL_rest o now ps (s.owe p o now)
/-- The flood that FloodOnwards plays with. -/
structure OnI (s : Fp) (F : Rf) (i : Nat) : Prop where
  se : s.self = 24
  ag : s.again = 1
  la : s.last ≤ i
  up : ∀ k, (s.ow k).isSome = decide (k = 22 ∨ k = 23)
  no : F 24 = none
theorem OnI.take {s : Fp} {f : Sf} {i : Nat} {p : Int} {r : Rc} {n n' : Nat} {ch : Bool} {s' : Fp} {f' : Sf} {T : List (Int × Rc)} (h : OnI s (fR f) i) (hr : recOk r = true) (hk : TkR (s.tick i) f p r i n ch n' s' f' T) :
    OnI s' (fR f') (i + 1) ∧ n' ≤ n + 1 ∧
      ((r.origin = 24 ∧ ch = false ∧ T = [] ∧ fR f' = fR f) ∨
       (r.origin ≠ 24 ∧ ch = false ∧ ¬ 0 < newI r.epoch r.seq (gD (fR f r.origin)).epoch (gD (fR f r.origin)).seq ∧ fR f' = fR f ∧ ∀ x ∈ T, x.1 = p ∧ x.2 = gD (fR f r.origin)) ∨
       (r.origin ≠ 24 ∧ ch = true ∧ 0 < newI r.epoch r.seq (gD (fR f r.origin)).epoch (gD (fR f r.origin)).seq ∧ fR f' = putO (fR f) r.origin r ∧ ∀ x ∈ T, x.1 ≠ p ∧ x.2 = r)) := by
  have hz : r.origin = 24 → newI r.epoch r.seq (rOf (f r.origin)).epoch (rOf (f r.origin)).seq = 1 := fun e => by
    rw [rOf_fR, e, h.no]
    exact newI_zz (recOk_pos hr).1
  have hs24 : (s.tick i).self = 24 := h.se
  have htl : (s.tick (i : Int)).last = (i : Int) := rfl
  have htu : ∀ k, ((s.tick (i : Int)).ow k).isSome = decide (k = 22 ∨ k = 23) := h.up
  rcases hk with ⟨h1, rfl, rfl, rfl, rfl, rfl⟩ | ⟨h1, rfl, rfl, rfl, rfl, rfl⟩ | ⟨h1, h2, h3⟩ | ⟨h1, h2, rfl, rfl, rfl, h4, rfl⟩
  · refine ⟨⟨h.se, h.ag, by show (i : Int) ≤ _; omega, fun k => by rw [free_up]; exact h.up k, h.no⟩, by omega, .inr (.inl ⟨fun e => absurd (h1.symm.trans (hz e)) (by decide), rfl, by rw [← rOf_fR, h1]; decide, rfl, by simp⟩)⟩
  · refine ⟨⟨h.se, h.ag, by show (i : Int) ≤ _; omega, fun k => by rw [owe_up]; exact h.up k, h.no⟩, by omega, .inr (.inl ⟨fun e => absurd (h1.symm.trans (hz e)) (by decide), rfl, by rw [← rOf_fR, h1]; decide, rfl, by simp [rOf_fR]⟩)⟩
  · rw [hs24] at h2
    have hf : (f (s.tick i).self).isSome = false := by
      have := h.no
      unfold fR at this
      rw [hs24]
      cases hq : f 24 with
      | none => rfl
      | some x => rw [hq] at this; cases this
    rcases h3 with ⟨_, rfl, rfl, rfl, rfl, rfl⟩ | ⟨h3, _⟩ | ⟨h3, _⟩
    · exact ⟨⟨h.se, h.ag, by show (i : Int) ≤ _; omega, h.up, h.no⟩, by omega, .inl ⟨h2, rfl, rfl, rfl⟩⟩
    · rw [hf] at h3; cases h3
    · rw [hf] at h3; cases h3
  · have hne : r.origin ≠ 24 := fun e => h2 (by rw [hs24]; exact e)
    have hput : fR f' = putO (fR f) r.origin r := by
      rw [h4]
      unfold putR
      rw [if_pos ⟨hr, by unfold nwR; rw [← rOf_fR]; exact h1⟩]
    obtain ⟨g1, g2, g3⟩ := oweL_rest r.origin i (upL ((s.tick i).free p r.origin) p 24) ((s.tick i).free p r.origin)
    refine ⟨⟨g1.trans h.se, g2.trans h.ag, by rw [g3]; show (i : Int) ≤ _; omega, fun k => by rw [oweL_up, free_up]; exact h.up k, ?_⟩, by omega, .inr (.inr ⟨hne, rfl, by rw [← rOf_fR, h1]; decide, hput, fun x hx => ?_⟩)⟩
    · rw [hput, putO_other _ _ (fun e => hne e.symm)]
      exact h.no
    · obtain ⟨q, hq, rfl⟩ := List.mem_map.1 hx
      exact ⟨(upL_lt hq).2.2.2, by show rOf (f' r.origin) = r; rw [rOf_fR, hput, putO_same]; rfl⟩
/-- The stamps that FloodOnwards keeps: those of the newest. -/
def bst (F : Rf) : Nat → Ed := fun o => stOf (gD (F (o : Int)))
theorem bst_put (F : Rf) (r : Rc) (h : 0 ≤ r.origin) : bst (putO F r.origin r) = upS (bst F) r.origin.toNat (stOf r) := by
  funext o
  unfold bst upS
  by_cases ho : o = r.origin.toNat
  · rw [if_pos ho, show (o : Int) = r.origin by omega, putO_same]
    rfl
  · rw [if_neg ho, putO_other _ _ (by omega)]
theorem bst_none : bst (fun _ => none) = no3 := rfl
/-- How many debts are due: all of them. -/
theorem due_all {d : Int → Option Int} {now again : Int} (h : ∀ j t, d j = some t → again ≤ now - t) : ∀ n : Nat, (dueL d now again n).length = ((List.range n).filter fun (i : Nat) => (d ((i : Int) + 1)).isSome).length
  | 0 => rfl
  | n + 1 => by
    rw [dueL_succ, List.length_append, due_all h n, List.range_succ, List.filter_append, List.length_append]
    congr 1
    cases hd : d ((n : Int) + 1) with
    | none => simp [hd]
    | some t => simp [hd, h _ _ hd]
theorem due_none {d : Int → Option Int} {now again : Int} (h : ∀ j t, 1 ≤ j → j ≤ 24 → d j = some t → ¬ again ≤ now - t) : ∀ n : Nat, n ≤ 24 → dueL d now again n = []
  | 0, _ => rfl
  | n + 1, hn => by
    rw [dueL_succ, due_none h n (by omega)]
    cases hd : d ((n : Int) + 1) with
    | none => rfl
    | some t => simp [h _ _ (by omega) (by omega) hd]
theorem due_in {d : Int → Option Int} {now again : Int} (h : ∀ j t, d j = some t → again ≤ now - t) {j : Int} {n : Nat} : j ∈ dueL d now again n ↔ (1 ≤ j ∧ j ≤ (n : Int)) ∧ (d j).isSome = true := by
  unfold dueL
  rw [List.mem_filterMap]
  constructor
  · rintro ⟨i, hi, hb⟩
    have hi' : i < n := by simpa using hi
    cases hd : d ((i : Int) + 1) with
    | none => rw [hd] at hb; cases hb
    | some t =>
      rw [hd, Option.bind_some, if_pos (h _ _ hd)] at hb
      simp only [Option.some.injEq] at hb
      subst hb
      exact ⟨by omega, by rw [hd]; rfl⟩
  · rintro ⟨h1, h2⟩
    obtain ⟨t, ht⟩ := Option.isSome_iff_exists.1 h2
    refine ⟨(j - 1).toNat, by simp; omega, ?_⟩
    rw [show (((j - 1).toNat : Nat) : Int) + 1 = j by omega, ht, Option.bind_some, if_pos (h _ _ ht)]
theorem putL_in (now : Int) {o : Int} : ∀ (os : List Int) (d : Int → Option Int), o ∈ os → putL d os now o = some now
  | [], _, h => by cases h
  | x :: os, d, h => by
    show putL (putO d x now) os now o = some now
    by_cases ho : o ∈ os
    · exact putL_in now os _ ho
    · rw [putL_not now os _ ho]
      rcases List.mem_cons.1 h with h | h
      · rw [h, putO_same]
      · exact absurd h ho
theorem cn_same {d e : Int → Option Int} (h : ∀ j : Int, 1 ≤ j → j ≤ 24 → (d j).isSome = (e j).isSome) : cn d = cn e := by
  unfold cn
  congr 1
  refine List.filter_congr fun i hi => ?_
  have : i < 24 := by simpa using hi
  exact h _ (by omega) (by omega)
/-- The two ports. -/
theorem up_two {s : Fp} (h : ∀ k, (s.ow k).isSome = decide (k = 22 ∨ k = 23)) : upL s 0 24 = [22, 23] := by
  have : upL s 0 24 = (List.range 24).filterMap fun (i : Nat) => if ((i : Int) + 1 = 22 ∨ (i : Int) + 1 = 23) ∧ (i : Int) + 1 ≠ 0 then some ((i : Int) + 1) else none := by
    unfold upL
    congr 1
    funext i
    rw [h]
    simp only [decide_eq_true_eq]
  rw [this]
  decide
theorem pend_two {s : Fp} {d e : Int → Option Int} (h : ∀ k, (s.ow k).isSome = decide (k = 22 ∨ k = 23)) (h1 : s.ow 22 = some d) (h2 : s.ow 23 = some e) : pendA s = cn d + cn e := by
  have hc : ∀ k, cnO s k = if k = 22 then cn d else if k = 23 then cn e else 0 := fun k => by
    unfold cnO
    by_cases hk : k = 22
    · rw [if_pos hk, hk, h1]
    · by_cases hk3 : k = 23
      · rw [if_neg hk, if_pos hk3, hk3, h2]
      · rw [if_neg hk, if_neg hk3]
        have := h k
        rw [decide_eq_false (by omega)] at this
        cases hq : s.ow k with
        | none => rfl
        | some x => rw [hq] at this; cases this
  unfold pendA
  simp [pendN, hc]
theorem dueO_of {s : Fp} {p now : Int} {d : Int → Option Int} (h : s.ow p = some d) : dueO s p now = dueL d now s.again 24 := by unfold dueO; rw [h]
/-- What the two ticks at the end tell, and what is pending. -/
theorem on_end {s : Fp} {F : Rf} {i : Nat} (h : OnI s F i) (hi : i ≤ 100) (hok : FpOk s) (f : Sf) :
    tkOk s 1000 = true ∧ tkOk ((s.tick 1000).tickL (upL s 0 24) 1000) 1000 = true ∧ tkT ((s.tick 1000).tickL (upL s 0 24) 1000) f (upL ((s.tick 1000).tickL (upL s 0 24) 1000) 0 24) 1000 = [] ∧
      pendA ((((s.tick 1000).tickL (upL s 0 24) 1000).tick 1000).tickL (upL ((s.tick 1000).tickL (upL s 0 24) 1000) 0 24) 1000) = (tkT s f (upL s 0 24) 1000).length := by
  have hla := h.la
  have hlt : ∀ k d j t, s.ow k = some d → d j = some t → (1 : Int) ≤ 1000 - t := fun k d j t hk hd => by have := hok.ti k d j t hk hd; omega
  obtain ⟨d, hd⟩ : ∃ d, s.ow 22 = some d := Option.isSome_iff_exists.1 (by rw [h.up]; rfl)
  obtain ⟨e, he⟩ : ∃ e, s.ow 23 = some e := Option.isSome_iff_exists.1 (by rw [h.up]; rfl)
  rw [up_two h.up]
  have hdd : dueO s 22 1000 = dueL d 1000 1 24 := by unfold dueO; rw [hd, h.ag]
  have hde : dueO s 23 1000 = dueL e 1000 1 24 := by unfold dueO; rw [he, h.ag]
  obtain ⟨s2, hs2⟩ : ∃ s2, (s.tick 1000).tickL [22, 23] 1000 = s2 := ⟨_, rfl⟩
  rw [hs2]
  have hup2 : ∀ k, (s2.ow k).isSome = decide (k = 22 ∨ k = 23) := fun k => by rw [← hs2, tickL_up]; exact h.up k
  have hag2 : s2.again = 1 := by rw [← hs2, tickL_again]; exact h.ag
  have hd2 : s2.ow 22 = some (putL d (dueL d 1000 1 24) 1000) := by
    rw [← hs2]
    show (((s.tick 1000).oweO 22 (dueO (s.tick 1000) 22 1000) 1000).oweO 23 _ 1000).ow 22 = _
    rw [oweO_other 23 1000 (by decide), oweO_ow 22 1000 _ (s.tick 1000) d hd, show dueO (s.tick 1000) 22 1000 = dueO s 22 1000 from rfl, hdd]
  have he2 : s2.ow 23 = some (putL e (dueL e 1000 1 24) 1000) := by
    rw [← hs2]
    show (((s.tick 1000).oweO 22 (dueO (s.tick 1000) 22 1000) 1000).oweO 23 (dueO ((s.tick 1000).oweO 22 (dueO (s.tick 1000) 22 1000) 1000) 23 1000) 1000).ow 23 = _
    have hx : ((s.tick 1000).oweO 22 (dueO (s.tick 1000) 22 1000) 1000).ow 23 = some e := by rw [oweO_other 22 1000 (by decide)]; exact he
    have hy : dueO ((s.tick 1000).oweO 22 (dueO (s.tick 1000) 22 1000) 1000) 23 1000 = dueL e 1000 1 24 := by
      rw [dueO_of hx, (oweO_rest 22 1000 _ _).1]
      show dueL e 1000 s.again 24 = _
      rw [h.ag]
    rw [oweO_ow 23 1000 _ _ e hx, hy]
  have hla2 : s2.last = 1000 := by
    rw [← hs2]
    show (((s.tick 1000).oweO 22 _ 1000).oweO 23 _ 1000).last = 1000
    rw [(oweO_rest 23 1000 _ _).2.1, (oweO_rest 22 1000 _ _).2.1]
    rfl
  have hno : ∀ d : Int → Option Int, (∀ j t, d j = some t → (1 : Int) ≤ 1000 - t) → dueL (putL d (dueL d 1000 1 24) 1000) 1000 1 24 = [] := fun d hl => due_none (fun j t h1 h2 hj => by
    by_cases hm : j ∈ dueL d 1000 1 24
    · rw [putL_in _ _ _ hm] at hj
      simp only [Option.some.injEq] at hj
      omega
    · rw [putL_not _ _ _ hm] at hj
      exact absurd ((due_in hl).2 ⟨⟨h1, h2⟩, by rw [hj]; rfl⟩) hm) 24 (Nat.le_refl _)
  have hcn : ∀ d : Int → Option Int, (∀ j t, d j = some t → (1 : Int) ≤ 1000 - t) → cn (putL d (dueL d 1000 1 24) 1000) = cn d := fun d hl => cn_same fun j h1 h2 => by
    by_cases hm : j ∈ dueL d 1000 1 24
    · rw [putL_in _ _ _ hm, ((due_in hl).1 hm).2]; rfl
    · rw [putL_not _ _ _ hm]
  have hd0 : dueO s2 22 1000 = [] := by unfold dueO; rw [hd2, hag2]; exact hno d (fun j t => hlt 22 d j t hd)
  have he0 : dueO s2 23 1000 = [] := by unfold dueO; rw [he2, hag2]; exact hno e (fun j t => hlt 23 e j t he)
  rw [up_two hup2]
  refine ⟨?_, ?_, ?_, ?_⟩
  · unfold tkOk
    have : s.last ≤ 1000 := by omega
    simp [this]
  · unfold tkOk
    rw [hla2]
    decide
  · unfold tkT
    simp [hd0, he0]
  · have h3 : (s2.tick 1000).tickL [22, 23] 1000 = s2.tick 1000 := by
      show ((s2.tick 1000).oweO 22 (dueO (s2.tick 1000) 22 1000) 1000).oweO 23 (dueO ((s2.tick 1000).oweO 22 (dueO (s2.tick 1000) 22 1000) 1000) 23 1000) 1000 = _
      rw [show dueO (s2.tick 1000) 22 1000 = dueO s2 22 1000 from rfl, hd0]
      show (s2.tick 1000).oweO 23 (dueO (s2.tick 1000) 23 1000) 1000 = _
      rw [show dueO (s2.tick 1000) 23 1000 = dueO s2 23 1000 from rfl, he0]
      rfl
    rw [h3, pend_two (s := s2.tick 1000) hup2 hd2 he2, hcn d (fun j t => hlt 22 d j t hd), hcn e (fun j t => hlt 23 e j t he)]
    unfold tkT
    simp only [List.flatMap_cons, List.flatMap_nil, List.append_nil, List.length_append, List.length_map]
    rw [hdd, hde, due_all (fun j t => hlt 22 d j t hd), due_all (fun j t => hlt 23 e j t he)]
    rfl
/-- The records there, up to an origin. -/
theorem allR_succ (F : Rf) (n : Nat) : allR F (n + 1) = allR F n ++ (F ((n : Int) + 1)).toList := by
  unfold allR
  rw [List.range_succ, List.filterMap_append]
  cases h : F ((n : Int) + 1) <;> simp [h]
theorem allR_pre (F : Rf) : ∀ (m n : Nat), n ≤ m → ∃ l, allR F m = allR F n ++ l
  | 0, n, h => ⟨[], by rw [show n = 0 by omega]; simp⟩
  | m + 1, n, h => by
    by_cases hn : n = m + 1
    · exact ⟨[], by rw [hn]; simp⟩
    · obtain ⟨l, hl⟩ := allR_pre F m n (by omega)
      exact ⟨l ++ (F ((m : Int) + 1)).toList, by rw [allR_succ, hl, List.append_assoc]⟩
theorem allR_at {F : Rf} {n : Nat} {g : Rc} (hn : n < 24) (h : F ((n : Int) + 1) = some g) : (allR F 24)[(allR F n).length]? = some g := by
  obtain ⟨l, hl⟩ := allR_pre F 24 (n + 1) (by omega)
  rw [hl, allR_succ, h, List.append_assoc, List.getElem?_append_right (Nat.le_refl _), Nat.sub_self]
  rfl
theorem allR_le (F : Rf) {n : Nat} (hn : n ≤ 24) : (allR F n).length ≤ n ∧ (allR F n).length ≤ (allR F 24).length := by
  obtain ⟨l, hl⟩ := allR_pre F 24 n hn
  refine ⟨?_, by rw [hl, List.length_append]; omega⟩
  unfold allR
  exact Nat.le_trans (List.length_filterMap_le _ _) (by simp)
end Go.Proofs.Yteaaoipipjkgnaa
namespace Go.Proofs.Yteaaoipipjkgnaa
open Go.ChangeShapes Go.WideShapes Go.ChangeAt Go.RowKit

section
variable {H : Type} {enc : TypeId × Value → H} {W : World}
theorem six {α : Type} {cs : Array α} (h : cs.size = 6) : ∃ c0 c1 c2 c3 c4 c5, cs = #[c0, c1, c2, c3, c4, c5] := by
  obtain ⟨l⟩ := cs
  match l, h with
  | [a, b, c, d, e, f], _ => exact ⟨a, b, c, d, e, f, rfl⟩
theorem bAdj : Try.prog.bytesOf 98 = 16 := by kernel_rfl
theorem cStamp : Try.prog.cellsOf 67 = 3 := by kernel_rfl
theorem stampF : Try.prog.underlying 67 = some (.struct #[(Try.prog.fieldsOf 67)[0]!, (Try.prog.fieldsOf 67)[1]!, (Try.prog.fieldsOf 67)[2]!]) := by kernel_rfl
theorem stampF' : ((Try.prog.fieldsOf 67)[0]!).type = 3 ∧ ((Try.prog.fieldsOf 67)[1]!).type = 22 ∧ ((Try.prog.fieldsOf 67)[2]!).type = 22 := ⟨by kernel_rfl, by kernel_rfl, by kernel_rfl⟩
set_option maxRecDepth 100000 in
/-- A stamp as an argument. -/
theorem stamp_arg {r : Reach} {b0 : Nat} {v : Value} {d : DataW H} {p : List MemPlace} (hv : Value.okWide Try.prog W r b0 67 v) (h : DataW.Trod enc Try.prog W 0 (fun _ => true) true 67 v d p) :
    ∃ o e q : Int, v = stV o e q ∧ (0 ≤ e ∧ e < 4294967296) ∧ (0 ≤ q ∧ q < 4294967296) := by
  obtain ⟨v0, v1, v2, y0, y1, y2, m, rfl, _, _, h0, h1, h2⟩ := Joins.open_agg3 stampF (by kernel_rfl) cStamp hv h
  rw [stampF'.1] at h0
  rw [stampF'.2.1] at h1
  rw [stampF'.2.2] at h2
  obtain ⟨o, ho, _⟩ := DataW.trod_int Try.underlying3 h0
  obtain ⟨e, he, _, we⟩ := DataW.trod_int Try.underlying22 h1
  obtain ⟨q, hq, _, wq⟩ := DataW.trod_int Try.underlying22 h2
  simp at ho he hq
  have b1 := bounds_u32 we
  have b2 := bounds_u32 wq
  exact ⟨o, e, q, by rw [ho, he, hq], by omega, by omega⟩
set_option maxRecDepth 100000 in
/-- A record as an argument. -/
theorem rec_arg {r : Reach} {b0 : Nat} {v : Value} {d : DataW H} {p : List MemPlace} (hv : Value.okWide Try.prog W r b0 38 v) (h : DataW.Trod enc Try.prog W 0 (fun _ => true) true 38 v d p) (hw : ∀ n ∈ d.weights Try.prog 38, n ≤ reachBytes) :
    ∃ (y : Rc) (va : Value), v = recV y va ∧ SlAt ac 2 W va y.adjs ∧ NilOk va ∧ RcB y ∧ (y.adjs.length + 1) * 16 ≤ 140737488355328 := by
  obtain ⟨cs, rfl, hsz⟩ := okWide_struct recF hv
  rw [cRec] at hsz
  obtain ⟨v0, v1, v2, v3, v4, v5, rfl⟩ := six hsz
  obtain ⟨fuel, hf⟩ := h
  obtain ⟨xs, k, _, hx, hlen, hxl, hfd⟩ := DataW.trod_struct recF hf
  match xs, hxl with
  | [z0, z1, z2, z3, z4, z5], _ =>
    have g0 := hfd 0 ((Try.prog.fieldsOf 38)[0]!) rfl
    have g1 := hfd 1 ((Try.prog.fieldsOf 38)[1]!) rfl
    have g2 := hfd 2 ((Try.prog.fieldsOf 38)[2]!) rfl
    have g3 := hfd 3 ((Try.prog.fieldsOf 38)[3]!) rfl
    have g4 := hfd 4 ((Try.prog.fieldsOf 38)[4]!) rfl
    have g5 := hfd 5 ((Try.prog.fieldsOf 38)[5]!) rfl
    rw [(recF' 0 (by omega)).1, (recF' 0 (by omega)).2] at g0
    rw [(recF' 1 (by omega)).1, (recF' 1 (by omega)).2] at g1
    rw [(recF' 2 (by omega)).1, (recF' 2 (by omega)).2] at g2
    rw [(recF' 3 (by omega)).1, (recF' 3 (by omega)).2] at g3
    rw [(recF' 4 (by omega)).1, (recF' 4 (by omega)).2] at g4
    rw [(recF' 5 (by omega)).1, (recF' 5 (by omega)).2] at g5
    simp [cInt, cU32, cBool, cAdjs, Value.cells] at g0 g1 g2 g3 g4 g5
    obtain ⟨o, ho, _⟩ := DataW.trod_int Try.underlying3 g0
    obtain ⟨e, he, _, wfe⟩ := DataW.trod_int Try.underlying22 g1
    obtain ⟨s, hs, _, wfs⟩ := DataW.trod_int Try.underlying22 g2
    obtain ⟨c, hc, _⟩ := DataW.trod_int Try.underlying3 g3
    obtain ⟨b, hb, _⟩ := DataW.trod_bool Try.underlying4 g4
    obtain ⟨l, hl, hn, _, hll⟩ := open_sl (0, 0) (cs := ac) (sz := 2) (fun _ => rfl) (by omega) Try.underlying36 cAdj (fun n cs' x h => adj_cells h) g5
    simp at ho he hs hc hb
    have b1 := bounds_u32 wfe
    have b2 := bounds_u32 wfs
    refine ⟨⟨o, e, s, c, b, l⟩, v5, by simp [ho, he, hs, hc, hb], hl, hn, ⟨by show 0 ≤ e; omega, by show e < _; omega, by show 0 ≤ s; omega, by show s < _; omega⟩, ?_⟩
    simp only [Prod.mk.injEq] at hx
    have hd := hx.1
    refine slice_weight (d := z5.1) Try.underlying36 bAdj (by omega) (fun n hn => hw n ?_) (by rcases hll with rfl | h; exact .inl rfl; exact .inr h)
    rw [hd]
    simp only [DataW.weights, recF, List.map_cons, List.map_nil, DataW.weightsEach, (recF' 0 (by omega)).1, (recF' 1 (by omega)).1, (recF' 2 (by omega)).1, (recF' 3 (by omega)).1, (recF' 4 (by omega)).1, (recF' 5 (by omega)).1, List.append_nil, List.mem_append]
    simp [hn]
end
end Go.Proofs.Yteaaoipipjkgnaa
namespace Go.Proofs.Yteaaoipipjkgnaa
open Go.ChangeShapes Go.WideShapes Go.ChangeAt Go.RowKit

section
variable {H : Type} {enc : TypeId × Value → H} {W : World}
theorem cU8' : Try.prog.cellsOf 5 = 1 := by kernel_rfl
theorem bSt : Try.prog.bytesOf 67 = 16 := by kernel_rfl
theorem stF2 : (((Try.prog.fieldsOf 67)[0]!).type = 3 ∧ ((Try.prog.fieldsOf 67)[0]!).offset = 0) ∧ (((Try.prog.fieldsOf 67)[1]!).type = 22 ∧ ((Try.prog.fieldsOf 67)[1]!).offset = 1) ∧ ((Try.prog.fieldsOf 67)[2]!).type = 22 ∧ ((Try.prog.fieldsOf 67)[2]!).offset = 2 := ⟨⟨by kernel_rfl, by kernel_rfl⟩, ⟨by kernel_rfl, by kernel_rfl⟩, by kernel_rfl, by kernel_rfl⟩
set_option maxRecDepth 100000 in
theorem st_cells {n : Nat} {cs' : List Value} {x : DataW H × List MemPlace} (h : DataW.trod enc Try.prog W 0 (fun _ => true) true n 67 cs' = some x) : ∃ y : Ed, cs' = sc3 y ∧ (0 ≤ y.2.1 ∧ y.2.1 < 4294967296) ∧ 0 ≤ y.2.2 ∧ y.2.2 < 4294967296 := by
  obtain ⟨y0, y1, y2, k, _, hlen, h0, h1, h2⟩ := Deep.trod_struct3 stampF h
  obtain ⟨⟨a0, b0⟩, ⟨a1, b1⟩, a2, b2⟩ := stF2
  rw [cStamp] at hlen
  match cs', hlen with
  | [v0, v1, v2], _ =>
    rw [a0, b0, cInt] at h0
    rw [a1, b1, cU32] at h1
    rw [a2, b2, cU32] at h2
    obtain ⟨p, hp, _, wp⟩ := DataW.trod_int Try.underlying3 h0
    obtain ⟨q, hq, _, wq⟩ := DataW.trod_int Try.underlying22 h1
    obtain ⟨r, hr, _, wr⟩ := DataW.trod_int Try.underlying22 h2
    simp at hp hq hr
    have b1 := bounds_u32 wq
    have b2 := bounds_u32 wr
    exact ⟨(p, q, r), by rw [hp, hq, hr], by simp only; omega, by simp only; omega⟩
set_option maxRecDepth 100000 in
theorem st_arg {a : Option Addr} {len cap : Nat} {d : DataW H} {p : List MemPlace} (h : DataW.Trod enc Try.prog W 0 (fun _ => true) true 112 (.slice a len cap) d p) (hw : ∀ n ∈ d.weights Try.prog 112, n ≤ reachBytes) :
    ∃ ls, SlAt sc3 3 W (.slice a len cap) ls ∧ (∀ y ∈ ls, (0 ≤ y.2.1 ∧ y.2.1 < 4294967296) ∧ 0 ≤ y.2.2 ∧ y.2.2 < 4294967296) ∧ NilOk (.slice a len cap) ∧ (ls.length + 1) * 16 ≤ 140737488355328 := by
  obtain ⟨fuel, hf⟩ := h
  obtain ⟨ns, hn1, hn2, hG, hn3⟩ := open_sl (0, 0, 0) (cs := sc3) (sz := 3) (fun _ => rfl) (by omega) Try.underlying112 cStamp (fun n cs' x h => st_cells h) (by simpa [Value.cells] using hf)
  exact ⟨ns, hn1, hG, hn2, slice_weight Try.underlying112 bSt (by omega) hw (by rcases hn3 with rfl | h; exact .inl rfl; exact .inr h)⟩
end
end Go.Proofs.Yteaaoipipjkgnaa
namespace Go.Proofs.Yteaaoipipjkgnaa
open Go.ChangeShapes Go.WideShapes Go.ChangeAt Go.RowKit

section
variable {H : Type} {enc : TypeId × Value → H} {W : World}


/-- What is known of a record: its neighbours lie there, its numbers are of 32 bits. -/
def RecB (W : World) (y : Rc × Value) : Prop := RecG W y ∧ y.1.epoch < 4294967296 ∧ y.1.seq < 4294967296 ∧ (Lit.int .i64 y.1.origin).wf = true
set_option maxRecDepth 100000 in
theorem rec_cells32 {n : Nat} {cs' : List Value} {x : DataW H × List MemPlace} (h : DataW.trod enc Try.prog W 0 (fun _ => true) true n 38 cs' = some x) : ∃ y : Rc × Value, cs' = rcc y ∧ RecB W y := by
  obtain ⟨xs, k, _, _, hlen, hxl, hf⟩ := DataW.trod_struct recF h
  rw [cRec] at hlen
  match cs', hlen with
  | [v0, v1, v2, v3, v4, v5], _ =>
    match xs, hxl with
    | [z0, z1, z2, z3, z4, z5], _ =>
      have g0 := hf 0 ((Try.prog.fieldsOf 38)[0]!) rfl
      have g1 := hf 1 ((Try.prog.fieldsOf 38)[1]!) rfl
      have g2 := hf 2 ((Try.prog.fieldsOf 38)[2]!) rfl
      have g3 := hf 3 ((Try.prog.fieldsOf 38)[3]!) rfl
      have g4 := hf 4 ((Try.prog.fieldsOf 38)[4]!) rfl
      have g5 := hf 5 ((Try.prog.fieldsOf 38)[5]!) rfl
      rw [(recF' 0 (by omega)).1, (recF' 0 (by omega)).2] at g0
      rw [(recF' 1 (by omega)).1, (recF' 1 (by omega)).2] at g1
      rw [(recF' 2 (by omega)).1, (recF' 2 (by omega)).2] at g2
      rw [(recF' 3 (by omega)).1, (recF' 3 (by omega)).2] at g3
      rw [(recF' 4 (by omega)).1, (recF' 4 (by omega)).2] at g4
      rw [(recF' 5 (by omega)).1, (recF' 5 (by omega)).2] at g5
      simp [cInt, cU32, cBool, cAdjs] at g0 g1 g2 g3 g4 g5
      obtain ⟨o, ho, _, wfo⟩ := DataW.trod_int Try.underlying3 g0
      obtain ⟨e, he, _, wfe⟩ := DataW.trod_int Try.underlying22 g1
      obtain ⟨s, hs, _, wfs⟩ := DataW.trod_int Try.underlying22 g2
      obtain ⟨c, hc, _⟩ := DataW.trod_int Try.underlying3 g3
      obtain ⟨b, hb, _⟩ := DataW.trod_bool Try.underlying4 g4
      obtain ⟨l, hl, hn, _⟩ := open_sl (0, 0) (cs := ac) (sz := 2) (fun _ => rfl) (by omega) Try.underlying36 cAdj (fun n cs' x h => adj_cells h) g5
      simp at ho he hs hc hb
      refine ⟨(⟨o, e, s, c, b, l⟩, v5), by simp [rcc, ho, he, hs, hc, hb], ⟨hl, hn, (bounds_u32 wfe).1, (bounds_u32 wfs).1⟩, ?_, ?_, wfo⟩
      · have := (bounds_u32 wfe).2; show e < 4294967296; omega
      · have := (bounds_u32 wfs).2; show s < 4294967296; omega
set_option maxRecDepth 100000 in
/-- Records as an argument. -/
theorem recs32_arg {a : Option Addr} {len cap : Nat} {d : DataW H} {p : List MemPlace} (h : DataW.Trod enc Try.prog W 0 (fun _ => true) true 42 (.slice a len cap) d p) (hw : ∀ n ∈ d.weights Try.prog 42, n ≤ reachBytes) :
    ∃ l, RecsAt W (.slice a len cap) l ∧ NilOk (.slice a len cap) ∧ (∀ y ∈ l, RecB W y) ∧ (l.length + 1) * 56 ≤ 140737488355328 := by
  obtain ⟨fuel, hf⟩ := h
  obtain ⟨l, hn1, hn2, hG, hn3⟩ := open_sl (⟨0, 0, 0, 0, false, []⟩, .slice none 0 0) (cs := rcc) (sz := 6) (fun _ => rfl) (by omega) Try.underlying42 cRec (fun n cs' x h => rec_cells32 h) (by simpa [Value.cells] using hf)
  exact ⟨l, ⟨hn1, fun y hy => (hG y hy).1.1⟩, hn2, hG, slice_weight Try.underlying42 bRec (by omega) hw (by rcases hn3 with rfl | h; exact .inl rfl; exact .inr h)⟩
end
end Go.Proofs.Yteaaoipipjkgnaa
namespace Go.Proofs.Yteaaoipipjkgnaa
open Go.ChangeShapes Go.WideShapes Go.ChangeAt Go.RowKit

abbrev bcs (x : Bool) : List Value := [.bool x]
section
variable {H : Type} {enc : TypeId × Value → H} {W : World}
theorem ccBoo : Try.prog.cellsOf 4 = 1 := by kernel_rfl
theorem bcBoo : Try.prog.bytesOf 4 = 1 := by kernel_rfl
theorem boo_cells {n : Nat} {cs' : List Value} {x : DataW H × List MemPlace} (h : DataW.trod enc Try.prog W 0 (fun _ => true) true n 4 cs' = some x) : ∃ y : Bool, cs' = bcs y ∧ True := by
  obtain ⟨o, ho, _⟩ := DataW.trod_bool Try.underlying4 h
  exact ⟨o, ho, trivial⟩
set_option maxRecDepth 100000 in
theorem bools_arg {a : Option Addr} {len cap : Nat} {d : DataW H} {p : List MemPlace} (h : DataW.Trod enc Try.prog W 0 (fun _ => true) true 72 (.slice a len cap) d p) (hw : ∀ n ∈ d.weights Try.prog 72, n ≤ reachBytes) :
    ∃ ls, SlAt bcs 1 W (.slice a len cap) ls ∧ NilOk (.slice a len cap) ∧ (ls.length + 1) * 1 ≤ 140737488355328 := by
  obtain ⟨fuel, hf⟩ := h
  obtain ⟨ns, hn1, hn2, _, hn3⟩ := open_sl false (cs := bcs) (sz := 1) (fun _ => rfl) (by omega) Try.underlying72 ccBoo (fun n cs' x h => boo_cells h) (by simpa [Value.cells] using hf)
  exact ⟨ns, hn1, hn2, slice_weight Try.underlying72 bcBoo (by omega) hw (by rcases hn3 with rfl | h; exact .inl rfl; exact .inr h)⟩
end
theorem SlAt.bools {w : World} {v : Value} {zs : List Bool} (h : SlAt bcs 1 w v zs) : ∃ a cap, v = .slice a zs.length cap ∧ zs.length ≤ 9223372036854775807 ∧ zs.length ≤ cap ∧ (0 < zs.length → ∃ bk o, a = some ⟨bk, o, none⟩ ∧ bk < w.heap.size ∧ ∀ j z, zs[j]? = some z → w.cell? ⟨bk, o + j, none⟩ = some (.bool z)) := by
  obtain ⟨a, cap, rfl, h0, h1, h2⟩ := h
  refine ⟨a, cap, rfl, h0, h1, fun hp => ?_⟩
  obtain ⟨bk, o, rfl, h3, h4⟩ := h2 hp
  exact ⟨bk, o, rfl, h3, fun j z hz => by have := h4 j z hz 0 _ rfl; rw [Nat.mul_one, Nat.add_zero] at this; exact this⟩
theorem infoBst : (Try.prog.info? 74).map (fun i => (i.zero, i.size)) = some (some (.agg (gs no3).toArray), 75) := by kernel_rfl
theorem zeroBst (w : World) : (zeroValue 74).run Try.prog w = .ok (.agg (gs no3).toArray) w := (zero_of_info infoBst).1 w
/-- A stamp is read out of the array. -/
theorem Arr.stamp {w : World} {b : Nat} {T : TypeId} {f : Nat → Ed} (h : Arr w b T (gs f)) {n : Nat} (hn : n < 25) : w.cell? ⟨b, n * 3, none⟩ = some (.int .i64 (f n).1) ∧ w.cell? ⟨b, n * 3 + 1, none⟩ = some (.int .u32 (f n).2.1) ∧ w.cell? ⟨b, n * 3 + 2, none⟩ = some (.int .u32 (f n).2.2) := by
  refine ⟨?_, ?_, ?_⟩
  · have := gs_get f hn (s := 0) (by omega)
    rw [Nat.add_zero] at this
    rw [h.cell, this]; rfl
  · rw [h.cell, gs_get f hn (s := 1) (by omega)]; rfl
  · rw [h.cell, gs_get f hn (s := 2) (by omega)]; rfl
/-- A stamp is written into the array. -/
theorem Arr.putS {w : World} {b : Nat} {T : TypeId} {f : Nat → Ed} (h : Arr w b T (gs f)) {n : Nat} (hn : n < 25) (x : Ed) : ∃ V, ((w.setCell ⟨b, n * 3, none⟩ (.int .i64 x.1)).setCell ⟨b, n * 3 + 1, none⟩ (.int .u32 x.2.1)).setCell ⟨b, n * 3 + 2, none⟩ (.int .u32 x.2.2) = V ∧ Arr V b T (gs (upS f n x)) ∧ Fr (fun j => j = b) w V := by
  refine ⟨_, rfl, ?_, (((Fr.refl (fun j => j = b) w).set (p := ⟨b, n * 3, none⟩) rfl _).set (p := ⟨b, n * 3 + 1, none⟩) rfl _).set (p := ⟨b, n * 3 + 2, none⟩) rfl _⟩
  rw [← gs_put f hn x]
  exact ((h.set _ _).set _ _).set _ _
/-- What FloodOnwards has behind some records. -/
structure OnM (w wr : World) (P O S M : Nat) (ob : Int → Option Nat) (bb i n : Nat) (s : Fp) (f : Sf) : Prop where
  fl : FlAt wr P O S M n s f ob
  le : n ≤ i
  on : OnI s (fR f) i
  ar : Arr wr bb 74 (gs (bst (fR f)))
  be : Below w.heap.size w wr
theorem OnM.keep {w wr w' : World} {P O S M : Nat} {ob : Int → Option Nat} {bb i n : Nat} {s : Fp} {f : Sf} (h : OnM w wr P O S M ob bb i n s f) (hb : Below wr.heap.size wr w') : OnM w w' P O S M ob bb i n s f :=
  ⟨h.fl.keep hb, h.le, h.on, h.ar.keep hb h.ar.lt, h.be.trans (hb.mono h.be.size)⟩
theorem OnI.more {s : Fp} {F : Rf} {i : Nat} (h : OnI s F i) : OnI s F (i + 1) := ⟨h.se, h.ag, by have := h.la; omega, h.up, h.no⟩
theorem OnM.more {w wr : World} {P O S M : Nat} {ob : Int → Option Nat} {bb i n : Nat} {s : Fp} {f : Sf} (h : OnM w wr P O S M ob bb i n s f) : OnM w wr P O S M ob bb (i + 1) n s f := ⟨h.fl, by have := h.le; omega, h.on.more, h.ar, h.be⟩
/-- The world behind Take: the array is as it was. -/
theorem arr_call {w w' : World} {P O S M n : Nat} {s : Fp} {f : Sf} {ob : Int → Option Nat} {b : Nat} {vs : List Value} (h : Arr w b 74 vs) (hf : FlAt w P O S M n s f ob) (hF : Fr (FlB P O M ob) w w') : Arr w' b 74 vs := (hF.block b (block_lt h) (hf.noB h (by decide))).trans h
/-- The flood where a block of another kind is turned. -/
theorem FlAt.arr {w w' : World} {P O S M n : Nat} {s : Fp} {f : Sf} {ob : Int → Option Nat} {b : Nat} {vs : List Value} (h : FlAt w P O S M n s f ob) (ha : Arr w b 74 vs) (hF : Fr (fun j => j = b) w w') : FlAt w' P O S M n s f ob :=
  h.frT hF (fun j hj _ => by subst hj; exact ⟨_, _, ha, by decide, by decide, by decide⟩)
theorem SndAns.arr {w0 w w' : World} {T : List (Int × Rc)} {u : Value} {b : Nat} {vs : List Value} (h : SndAns w0 w T u) (ha : Arr w b 74 vs) (hF : Fr (fun j => j = b) w w') : SndAns w0 w' T u := by
  obtain ⟨L, h1, h2, h3⟩ := h
  have hnr : ∀ j (cs : Array Value) t, w.heap[j]? = some (Obj.cells cs t) → t ≠ 74 → ¬ j = b := fun j cs t hj ht e => by
    rw [e, ha] at hj
    simp only [Option.some.injEq, Obj.cells.injEq] at hj
    exact ht hj.2.1.symm
  refine ⟨L, row_fr h1 hF (fun j hj => ?_), h2, fun x hx => (h3 x hx).fr hF (fun g cur hg => hnr g _ _ hg (by decide))⟩
  obtain ⟨cur, hc⟩ := rowTy h1 hj
  exact hnr j _ _ hc (by decide)
/-- One send that was told, as cells. -/
theorem SndAns.at {w0 w : World} {T : List (Int × Rc)} {u : Value} (h : SndAns w0 w T u) {k : Nat} {x : Int × Rc} (hx : T[k]? = some x) : ∃ bk o c va vc, u = .slice (some ⟨bk, o, none⟩) T.length c ∧ bk < w.heap.size ∧ w.cell? ⟨bk, o + k * 7, none⟩ = some (.int .i64 x.1) ∧ w.cell? ⟨bk, o + k * 7 + 1, none⟩ = some (.int .i64 x.2.origin) ∧ w.cell? ⟨bk, o + k * 7 + 2, none⟩ = some (.int .u32 x.2.epoch) ∧ w.cell? ⟨bk, o + k * 7 + 3, none⟩ = some (.int .u32 x.2.seq) ∧ w.cell? ⟨bk, o + k * 7 + 4, none⟩ = some (.int .i64 x.2.claim) ∧ w.cell? ⟨bk, o + k * 7 + 5, none⟩ = some (.bool x.2.ing) ∧ w.cell? ⟨bk, o + k * 7 + 6, none⟩ = some (.slice va x.2.adjs.length vc) := by
  obtain ⟨L, h1, h2, h3⟩ := h
  have hl : L.length = T.length := by rw [← h2, sdl_len]
  obtain ⟨⟨t, r, v⟩, hy⟩ : ∃ y, L[k]? = some y := ⟨L[k]'(by have := (List.getElem?_eq_some_iff.1 hx).1; omega), List.getElem?_eq_getElem _⟩
  have he : x = (t, r) := by
    rw [← h2] at hx
    unfold sdl at hx
    rw [List.getElem?_map, hy] at hx
    simpa using hx.symm
  subst he
  obtain ⟨va, vc, e1, _⟩ := h3 _ (List.mem_of_getElem? hy)
  simp only at e1
  subst e1
  obtain ⟨a, cap, hu, _, _, hcell⟩ := slAt_of_row (cs := sdc) (fun _ => rfl) h1 rfl
  obtain ⟨bk, o, rfl, hbk, hc⟩ := hcell (by have := (List.getElem?_eq_some_iff.1 hy).1; omega)
  rw [hl] at hu
  exact ⟨bk, o, cap, va, vc, hu, hbk, hc k _ hy 0 _ rfl, hc k _ hy 1 _ rfl, hc k _ hy 2 _ rfl, hc k _ hy 3 _ rfl, hc k _ hy 4 _ rfl, hc k _ hy 5 _ rfl, hc k _ hy 6 _ rfl⟩
end Go.Proofs.Yteaaoipipjkgnaa
namespace Go.Proofs.Yteaaoipipjkgnaa
open Go.RowKit Go.Maps

def kx : Rc := ⟨5, 1, 1, 0, false, []⟩
def kF2 : Rf := putR wF1 kx
def kr9 : Rc := ⟨1, 1, 9, 0, false, []⟩
def kr10 : Rc := ⟨1, 1, 10, 7, false, []⟩
def kF3 : Rf := putR kF2 kr10
def kr2 : Rc := ⟨1, 2, 1, 0, false, []⟩
def ks3 : Fp := ws2.free 2 1
def ks4 : Fp := ((ks3.up 3).tick 5).oweO 3 [1] 5
def ks5 : Fp := ((ks4.tick 6).free 2 5).oweL (upL ((ks4.tick 6).free 2 5) 2 24) 5 6
def ks6 : Fp := (ks5.tick 6).free 2 5
def ks7 : Fp := (ks6.tick 7).free 3 5
def ks8 : Fp := (ks7.tick 8).oweL (upL (ks7.tick 8) 0 24) 1 8
def ks9 : Fp := (ks8.tick 9).owe 2 1 9
def ks10 : Fp := ks9.down 2
theorem kk_up : isOth ws2 2 = true ∧ tkOk ws2 0 = true ∧ (ws2.ow 2).isSome = true ∧ isOth ws2 1 = false := ⟨by decide, by decide, by decide, by decide⟩
theorem kk_up3 : isOth ks3 3 = true ∧ tkOk ks3 5 = true ∧ (ks3.ow 3).isSome = false := ⟨by decide, by decide, by decide⟩
theorem kk_t1 : isOth ks4 2 = true ∧ recOk kx = true ∧ tkOk ks4 6 = true ∧ (ks4.ow 2).isSome = true ∧ upL ((ks4.tick 6).free 2 5) 2 24 = [3] := ⟨by decide, by decide, by decide, by decide, by decide⟩
theorem kk_t2 : isOth ks5 2 = true ∧ tkOk ks5 6 = true ∧ (ks5.ow 2).isSome = true := ⟨by decide, by decide, by decide⟩
theorem kk_t3 : tkOk ks6 5 = false ∧ isOth ks6 4 = true ∧ (ks6.ow 4).isSome = false ∧ isOth ks6 2 = true ∧ mayS 0 0 0 = false ∧ mayS 1 1 1 = true := ⟨by decide, by decide, by decide, by decide, by decide, by decide⟩
theorem kk_t4 : isOth ks6 3 = true ∧ tkOk ks6 7 = true ∧ (ks6.ow 3).isSome = true ∧ pendA ks7 = 1 := ⟨by decide, by decide, by decide, by decide⟩
theorem kk_t5 : isOth ks7 2 = true ∧ recOk kr9 = true ∧ tkOk ks7 8 = true ∧ (ks7.ow 2).isSome = true ∧ upL (ks7.tick 8) 0 24 = [2, 3] := ⟨by decide, by decide, by decide, by decide, by decide⟩
theorem kk_t6 : isOth ks8 2 = true ∧ recOk kr2 = true ∧ tkOk ks8 9 = true ∧ (ks8.ow 2).isSome = true := ⟨by decide, by decide, by decide, by decide⟩
theorem kk_dn : isOth ks9 2 = true ∧ (ks9.ow 2).isSome = true ∧ isOth ks10 2 = true ∧ (ks10.ow 2).isSome = false ∧ isOth ks10 25 = false := ⟨by decide, by decide, by decide, by decide, by decide⟩
theorem kk_en : tkOk ks10 9 = true ∧ tkOk ks10 1099511627777 = false ∧ recOk (ownR ks10 kr10 1025 false []) = false ∧ nwOk 0 1 4 = false ∧ nwOk 1 0 4 = false ∧ nwOk 1 1 65 = false := ⟨by decide, by decide, by decide, by decide, by decide, by decide⟩
theorem kk_F : gD (wF1 5) = rc0 ∧ gD (kF2 5) = kx ∧ gD (kF2 1) = wr1 ∧ (kF2 1).isSome = true ∧ gD (kF3 1) = kr10 ∧ (kF3 1).isSome = true ∧ (allR kF3 24).length = 2 ∧ gD (kF3 5) = kx := ⟨by kernel_rfl, by kernel_rfl, by kernel_rfl, by kernel_rfl, by kernel_rfl, by kernel_rfl, by kernel_rfl, by kernel_rfl⟩
theorem TkR.same {s : Fp} {f : Sf} {p : Int} {r : Rc} {now : Int} {n : Nat} {ch : Bool} {n' : Nat} {s' : Fp} {f' : Sf} {T : List (Int × Rc)} (h : TkR s f p r now n ch n' s' f' T) (h0 : newI r.epoch r.seq (rOf (f r.origin)).epoch (rOf (f r.origin)).seq = 0) : ch = false ∧ n' = n ∧ s' = s.free p r.origin ∧ f' = f ∧ T = [] := by
  rcases h with ⟨_, h⟩ | ⟨h, _⟩ | ⟨h, _⟩ | ⟨h, _⟩
  · exact h
  · omega
  · omega
  · omega
theorem TkR.news {s : Fp} {f : Sf} {p : Int} {r : Rc} {now : Int} {n : Nat} {ch : Bool} {n' : Nat} {s' : Fp} {f' : Sf} {T : List (Int × Rc)} (h : TkR s f p r now n ch n' s' f' T) (h0 : newI r.epoch r.seq (rOf (f r.origin)).epoch (rOf (f r.origin)).seq = 1) (ho : r.origin ≠ s.self) : ch = true ∧ n' = n + 1 ∧ s' = (s.free p r.origin).oweL (upL (s.free p r.origin) p 24) r.origin now ∧ fR f' = putR (fR f) r ∧ T = (upL (s.free p r.origin) p 24).map (fun q => (q, rOf (f' r.origin))) := by
  rcases h with ⟨h, _⟩ | ⟨h, _⟩ | ⟨_, h, _⟩ | ⟨_, _, h⟩
  · omega
  · omega
  · exact absurd h ho
  · exact h
theorem TkR.own {s : Fp} {f : Sf} {p : Int} {r : Rc} {now : Int} {n : Nat} {ch : Bool} {n' : Nat} {s' : Fp} {f' : Sf} {T : List (Int × Rc)} (h : TkR s f p r now n ch n' s' f' T) (h0 : newI r.epoch r.seq (rOf (f r.origin)).epoch (rOf (f r.origin)).seq = 1) (ho : r.origin = s.self) : OutR s f p r now n [] ch n' s' f' T := by
  rcases h with ⟨h, _⟩ | ⟨h, _⟩ | ⟨_, _, h⟩ | ⟨_, h, _⟩
  · omega
  · omega
  · exact h
  · exact absurd ho h
/-- What a call that turns a flood leaves beside it. -/
theorem fr_own {w wa wb : World} {P O M : Nat} {ob : Int → Option Nat} (hB : Below w.heap.size w wa) (hF : Fr (FlB P O M ob) wa wb) (hP : w.heap.size ≤ P ∧ w.heap.size ≤ O ∧ w.heap.size ≤ M) (ho : ∀ k j, ob k = some j → w.heap.size ≤ j) : Below w.heap.size w wb :=
  hB.trans (hF.below hB.size (fun j hj => by rcases hj with e | e | e | ⟨k, e⟩; rw [e]; exact hP.1; rw [e]; exact hP.2.1; rw [e]; exact hP.2.2; exact ho k j e))
theorem fr_blk {wa wb : World} {P O S M n : Nat} {s : Fp} {f : Sf} {ob : Int → Option Nat} (hf : FlAt wa P O S M n s f ob) (hF : Fr (FlB P O M ob) wa wb) {j : Nat} {cs : Array Value} {t : TypeId} (hj : wa.heap[j]? = some (Obj.cells cs t)) (ht : t ≠ 91) : wb.heap[j]? = some (Obj.cells cs t) := (hF.block j (block_lt hj) (hf.noB hj ht)).trans hj
theorem nilA (w : World) : SlAt ac 2 w (.slice none 0 0) [] := slAt_of_row (cs := ac) (fun _ => rfl) (World.ownsRow_nil w 0 98 2) rfl
end Go.Proofs.Yteaaoipipjkgnaa
namespace Go.Proofs.Yteaaoipipjkgnaa
open Go.RowKit Go.Maps

set_option maxRecDepth 100000 in
set_option maxHeartbeats 3000000 in
theorem floodOnwards_walk {l : List (Rc × Value)} {v fv : Value} {bs : List Bool} {w : World} (h : RecsAt w v l) (hg : ∀ y ∈ l, RecB w y) (hbs : SlAt bcs 1 w fv bs) :
    Calls Try.prog 5 #[v, fv] w fun e w' => e = .returned (.bool true) ∧ Below w.heap.size w w' := by
  obtain ⟨va, vc, rfl, hvl, _, hvat⟩ := h.r.recs
  obtain ⟨fa, fc, rfl, hfl, _, hfat⟩ := hbs.bools
  have Hv := hidIn hvat
  have Hf := hidIn hfat
  have Hg := hidIn hg
  have Ha := hidIn h.a
  obtain ⟨ln, hln⟩ : ∃ ln, l.length = ln := ⟨_, rfl⟩
  obtain ⟨lb, hlb⟩ : ∃ lb, bs.length = lb := ⟨_, rfl⟩
  rw [hln] at hvl ⊢
  rw [hlb] at hfl ⊢
  have Hln := hidIn hln
  have Hlb := hidIn hlb
  clear h hbs hg hvat hfat hln hlb
  go_enter Try.func5, Try.ntmps5
  go_wp2_with fail
  refine (fworks_any _).mono ?_
  rintro e w1 ⟨rfl, hb1⟩
  have HB1 := hidIn hb1
  clear hb1
  go_wp2_with fail
  refine (fnew_any 24 1 1 (by omega) _).mono ?_
  rintro e w2 ⟨h1, hb2⟩
  rcases h1 with ⟨h1, _⟩ | ⟨_, P, O, S, M, rfl, hfl2, hP, hO, hS, hM⟩
  · exact absurd h1 (by decide)
  have HPO : Hid (w.heap.size ≤ P ∧ w.heap.size ≤ O ∧ w.heap.size ≤ M) := hidIn (by have := HB1.out.size; omega)
  have HB2 := hidIn (HB1.out.trans (hb2.mono HB1.out.size))
  have Hob0 : Hid (∀ (k : Int) (j : Nat), (fun _ => none : Int → Option Nat) k = some j → w.heap.size ≤ j) := hidIn fun k j h => by cases h
  have HU1 := hidIn (fup2_any hfl2 22 0)
  clear hb2 hfl2 hP hO hS hM HB1
  go_wp2_with fail
  refine HU1.out.mono ?_
  rintro e w3 h3
  have hal : allL (fun _ => none : Sf) 24 = [] := by rfl
  unfold UpAns at h3
  rw [hal] at h3
  rcases h3 with ⟨h3, _⟩ | ⟨_, _, h3, _⟩ | ⟨_, _, _, u1, rfl, hfl3, hs3, hF3⟩
  · exact absurd h3 (by decide)
  · exact absurd h3 (by decide)
  obtain ⟨ob2, hob⟩ : ∃ ob2, putO (fun _ => none : Int → Option Nat) 22 w2.heap.size = ob2 := ⟨_, rfl⟩
  have Hob2 : Hid (∀ k j, ob2 k = some j → w.heap.size ≤ j) := hidIn fun k j hk => by
    rw [← hob] at hk
    unfold putO at hk
    split at hk
    · cases hk; exact HB2.out.size
    · cases hk
  rw [hob] at hfl3
  have HB3 := hidIn (fr_own HB2.out hF3 HPO.out Hob0.out)
  have HU2 := hidIn (fup2_any hfl3 23 0)
  obtain ⟨ua1, uc1, rfl⟩ := hs3.shape
  clear hfl3 hs3 hF3 hob HU1 HB2 Hob0
  simp only [List.map_nil, List.length_nil]
  go_wp2_with fail
  refine HU2.out.mono ?_
  rintro e w4 h4
  unfold UpAns at h4
  rw [hal] at h4
  rcases h4 with ⟨h4, _⟩ | ⟨_, _, h4, _⟩ | ⟨_, _, _, u2, rfl, hfl4, hs4, hF4⟩
  · exact absurd h4 (by decide)
  · exact absurd h4 (by decide)
  obtain ⟨ob, hob⟩ : ∃ ob, putO ob2 23 w3.heap.size = ob := ⟨_, rfl⟩
  have Hob : Hid (∀ k j, ob k = some j → w.heap.size ≤ j) := hidIn fun k j hk => by
    rw [← hob] at hk
    unfold putO at hk
    split at hk
    · cases hk; exact HB3.out.size
    · exact Hob2.out k j hk
  rw [hob] at hfl4
  have hb4 := fr_own HB3.out hF4 HPO.out Hob2.out
  obtain ⟨ua2, uc2, rfl⟩ := hs4.shape
  obtain ⟨s0, hs0⟩ : ∃ s0, (((((((newFp 24 1 1).up 22).tick 0).oweO 22 (([] : List Rc).map (·.origin)) 0).up 23).tick 0).oweO 23 (([] : List Rc).map (·.origin)) 0) = s0 := ⟨_, rfl⟩
  rw [hs0] at hfl4
  have hon : OnI s0 (fR (fun _ => none)) 0 := by
    rw [← hs0]
    refine ⟨rfl, rfl, by decide, fun k => ?_, rfl⟩
    show ((putO (putO (fun _ => none : Int → Option (Int → Option Int)) 22 (fun _ => none)) 23 (fun _ => none)) k).isSome = _
    unfold putO
    by_cases h23 : k = 23
    · rw [if_pos h23]; simp [h23]
    · rw [if_neg h23]
      by_cases h22 : k = 22
      · rw [if_pos h22]; simp [h22]
      · rw [if_neg h22]; simp [h22, h23]
  obtain ⟨w5, hw5⟩ : ∃ w5, w4.alloc (.cells (gs no3).toArray 74) = w5 := ⟨_, rfl⟩
  have hb5 : Below w4.heap.size w4 w5 := by rw [← hw5]; exact (Below.refl _ w4).alloc (Nat.le_refl _) _
  have ha5 : Arr w5 w4.heap.size 74 (gs (bst (fR (fun _ => none)))) := by rw [← hw5]; exact arr_new w4 _ _
  obtain ⟨bb, hbb⟩ : ∃ bb, w4.heap.size = bb := ⟨_, rfl⟩
  rw [hbb] at ha5
  have Hbb : Hid (w.heap.size ≤ bb) := hidIn (by have := hb4.size; omega)
  have HM0 : Hid (OnM w w5 P O S M ob bb 0 0 s0 (fun _ => none)) := hidIn ⟨hfl4.keep hb5, Nat.le_refl _, hon, ha5, hb4.trans (hb5.mono hb4.size)⟩
  have HW5 := hidIn hw5
  have hzb := zeroBst
  clear hfl4 hs4 hF4 hob HU2 HB3 Hob2 hb4 hs0 hon hw5 hb5 ha5 hal
  simp only [List.map_nil, List.length_nil]
  go_upto_region 9 with fail
  rw [HW5.out]
  clear HW5 hzb hbb
  go_wp2_with fail
  go_loopw [12] (fun i wr => ∃ (k n : Nat) (s : Fp) (f : Sf), k ≤ ln ∧ k ≤ lb ∧ k ≤ 60 ∧ i = .int .i64 k ∧ Hid (OnM w wr P O S M ob bb k n s f)) (fun i _ => ln - (intOf i).toNat)
  case atStart => exact ⟨0, 0, s0, _, Nat.zero_le _, Nat.zero_le _, Nat.zero_le _, rfl, HM0⟩
  case round =>
    clear HM0
    obtain ⟨k, n, s, f, hkl, hkb, hk6, rfl, HM⟩ := hrel
    by_cases hlt : k < ln ∧ k < lb ∧ k < 60
    · obtain ⟨h1, h2, h3⟩ := hlt
      have hki : (k : Int) < (ln : Int) := by omega
      have hkbi : (k : Int) < (lb : Int) := by omega
      have hk60 : (k : Int) < 60 := by omega
      obtain ⟨⟨⟨ro, re, rq, rcl, ri, rl⟩, ad⟩, hz⟩ : ∃ z, l[k]? = some z := ⟨l[k]'(by have := Hln.out; omega), List.getElem?_eq_getElem _⟩
      obtain ⟨bq, hbz⟩ : ∃ z, bs[k]? = some z := ⟨bs[k]'(by have := Hlb.out; omega), List.getElem?_eq_getElem _⟩
      obtain ⟨vb, vo, rfl, hvb, hvc⟩ := Hv.out (by have := Hln.out; omega)
      obtain ⟨fb, fo, rfl, hfb, hfc⟩ := Hf.out (by have := Hlb.out; omega)
      have hq := hvc k _ hz
      simp only at hq
      obtain ⟨⟨hrA, _, he0, hq0⟩, he1, hq1, hwf⟩ := Hg.out _ (List.mem_of_getElem? hz)
      simp only at hrA he0 hq0 he1 hq1 hwf
      have hrS := hrA
      obtain ⟨ra, rc, hre, _⟩ := hrS
      subst hre
      have HV6 := hidIn (And.intro hvb hq)
      have HrA := hidIn hrA
      have d0 := (HM.out.be.cell (p := ⟨fb, fo + k, none⟩) hfb).trans (hfc k _ hbz)
      have hbe := HM.out.be
      have c0 := (hbe.cell (p := ⟨vb, vo + k * 6, none⟩) HV6.out.1).trans HV6.out.2.1
      have c1 := (hbe.cell (p := ⟨vb, vo + k * 6 + 1, none⟩) HV6.out.1).trans HV6.out.2.2.1
      have c2 := (hbe.cell (p := ⟨vb, vo + k * 6 + 2, none⟩) HV6.out.1).trans HV6.out.2.2.2.1
      have c3 := (hbe.cell (p := ⟨vb, vo + k * 6 + 3, none⟩) HV6.out.1).trans HV6.out.2.2.2.2.1
      have c4 := (hbe.cell (p := ⟨vb, vo + k * 6 + 4, none⟩) HV6.out.1).trans HV6.out.2.2.2.2.2.1
      have c5 := (hbe.cell (p := ⟨vb, vo + k * 6 + 5, none⟩) HV6.out.1).trans HV6.out.2.2.2.2.2.2
      have HTk := hidIn (fun p => ftake_any (p := p) (now := (k : Int)) (r := ⟨ro, re, rq, rcl, ri, rl⟩) (ra := ra) (rn := rl.length) (rc := rc) HM.out.fl (by have := HM.out.le; omega) (hrA.keep HM.out.be (Nat.le_refl _)) ⟨⟨he0, he1⟩, hq0, hq1⟩)
      simp only at HTk
      generalize hrl : rl.length = rn at *
      clear hz hbz hvb hq hvc hfc hrA he0 hq0 he1 hq1 hwf hrl
      cases bq
      · go_wp2_with fail
        refine (HTk.out 22).mono ?_
        rintro e w6 hT
        rcases hT with ⟨hE, rfl, hb⟩ | ⟨_, _, _, hE, _⟩ | ⟨_, hrk, _, _, ch, u, n', s', f', T, rfl, hfl6, hs6, hF6, hkk⟩
        · have hno : recOk ⟨ro, re, rq, rcl, ri, rl⟩ = false := by
            rcases hE with hE | hE | hE
            · rw [isOth_iff.2 ⟨by omega, by rw [HM.out.on.se]; decide⟩] at hE
              cases hE
            · exact hE
            · exfalso
              have h1 := HM.out.on.la
              unfold tkOk at hE
              rw [decide_eq_true h1, decide_eq_true (by omega)] at hE
              cases hE
          have hM6 := HM.out.keep hb
          have HM6 := hidIn hM6.more
          have hB6' := hM6.be
          have e0 := (hB6'.cell (p := ⟨vb, vo + k * 6, none⟩) HV6.out.1).trans HV6.out.2.1
          have e1 := (hB6'.cell (p := ⟨vb, vo + k * 6 + 1, none⟩) HV6.out.1).trans HV6.out.2.2.1
          have e2 := (hB6'.cell (p := ⟨vb, vo + k * 6 + 2, none⟩) HV6.out.1).trans HV6.out.2.2.2.1
          have e3 := (hB6'.cell (p := ⟨vb, vo + k * 6 + 3, none⟩) HV6.out.1).trans HV6.out.2.2.2.2.1
          have e4 := (hB6'.cell (p := ⟨vb, vo + k * 6 + 4, none⟩) HV6.out.1).trans HV6.out.2.2.2.2.2.1
          have e5 := (hB6'.cell (p := ⟨vb, vo + k * 6 + 5, none⟩) HV6.out.1).trans HV6.out.2.2.2.2.2.2
          have HCk := hidIn (rcheck_any (r := ⟨ro, re, rq, rcl, ri, rl⟩) (HrA.out.keep hM6.be (Nat.le_refl _)))
          rw [show ckN ⟨ro, re, rq, rcl, ri, rl⟩ = 2 by unfold ckN; rw [hno]; rfl] at HCk
          clear hE hno hb hM6 HTk c0 c1 c2 c3 c4 c5 d0
          go_wp2_with fail
          refine HCk.out.mono ?_
          rintro e w7 ⟨rfl, hb7⟩
          have HM7 := hidIn (HM6.out.keep hb7)
          clear hb7 HCk HM6 e0 e1 e2 e3 e4 e5
          go_wp2_with fail
          go_roundw
          case rel => exact ⟨k + 1, n, s, f, by omega, by omega, by omega, by go_num, HM7⟩
          case measure => simp [intOf]; omega
        · rw [HM.out.on.up] at hE
          exact absurd hE (by decide)
        have hpos := recOk_pos hrk
        simp only at hpos
        obtain ⟨on, hon⟩ : ∃ on : Nat, ro = (on : Int) := ⟨ro.toNat, by omega⟩
        subst hon
        obtain ⟨hon', hn', hcase⟩ := HM.out.on.take hrk hkk
        have hB6 := fr_own HM.out.be hF6 HPO.out Hob.out
        have ha6 := arr_call HM.out.ar HM.out.fl hF6
        have e0 := (hB6.cell (p := ⟨vb, vo + k * 6, none⟩) HV6.out.1).trans HV6.out.2.1
        have e1 := (hB6.cell (p := ⟨vb, vo + k * 6 + 1, none⟩) HV6.out.1).trans HV6.out.2.2.1
        have e2 := (hB6.cell (p := ⟨vb, vo + k * 6 + 2, none⟩) HV6.out.1).trans HV6.out.2.2.2.1
        have e3 := (hB6.cell (p := ⟨vb, vo + k * 6 + 3, none⟩) HV6.out.1).trans HV6.out.2.2.2.2.1
        have e4 := (hB6.cell (p := ⟨vb, vo + k * 6 + 4, none⟩) HV6.out.1).trans HV6.out.2.2.2.2.2.1
        have e5 := (hB6.cell (p := ⟨vb, vo + k * 6 + 5, none⟩) HV6.out.1).trans HV6.out.2.2.2.2.2.2
        have HSt := hidIn (stamp_any ⟨(on : Int), re, rq, rcl, ri, rl⟩ ra rn rc w6)
        simp only at HSt
        have HF6 := hidIn hfl6
        have HS6 := hidIn hs6
        have HB6 := hidIn hB6
        have HA6 := hidIn ha6
        have HO6 := hidIn (And.intro hon' (Nat.le_trans hn' (Nat.succ_le_succ HM.out.le)))
        have Hcase := hidIn hcase
        have hon24 : on ≤ 24 := by omega
        have htm : T.length ≤ 9223372036854775807 := by
          obtain ⟨L, g1, g2, _⟩ := hs6
          obtain ⟨_, _, _, g3, _⟩ := slAt_of_row (cs := sdc) (fun _ => rfl) g1 rfl
          rw [← g2, sdl_len]
          exact g3
        obtain ⟨tl, htl⟩ : ∃ tl, T.length = tl := ⟨_, rfl⟩
        obtain ⟨ua, uc, hu⟩ := hs6.shape
        rw [htl] at hu htm
        subst hu
        have Htl := hidIn htl
        simp only at Hcase
        clear hfl6 hs6 hF6 hkk hon' hn' hcase hB6 ha6 hrk htl HTk HM hpos c0 c1 c2 c3 c4 c5 d0
        go_wp2_with fail
        refine HSt.out.mono ?_
        rintro e w7 ⟨rfl, hb7⟩
        obtain ⟨w8, hw8⟩ : ∃ w8, w7.alloc (.cells #[.int .i64 (on : Int), .int .u32 re, .int .u32 rq] 67) = w8 := ⟨_, rfl⟩
        have hX8 : w8.heap[w7.heap.size]? = some (.cells #[.int .i64 (on : Int), .int .u32 re, .int .u32 rq] 67) := by rw [← hw8]; exact heap_alloc_last w7 _
        have hb8 : Below w6.heap.size w6 w8 := by rw [← hw8]; exact hb7.alloc hb7.size _
        obtain ⟨sb, hsb⟩ : ∃ sb, w7.heap.size = sb := ⟨_, rfl⟩
        rw [hsb] at hX8
        have x0 := cell_of_row _ _ 0 _ _ _ hX8
        have x1 := cell_of_row _ _ 1 _ _ _ hX8
        have x2 := cell_of_row _ _ 2 _ _ _ hX8
        simp at x0 x1 x2
        have HX8 := hidIn hX8
        have HF8 := hidIn (HF6.out.keep hb8)
        have HS8 := hidIn (HS6.out.keep hb8)
        have HA8 := hidIn (HA6.out.keep hb8 HA6.out.lt)
        have HB8 := hidIn (HB6.out.trans (hb8.mono HB6.out.size))
        have HW8 := hidIn hw8
        clear hb7 hw8 hX8 hb8 HSt HF6 HS6 HB6 HA6 e0 e1 e2 e3 e4 e5
        go_upto_region 20 with fail
        rw [HW8.out]
        clear HW8 hsb
        rcases Hcase.out with ⟨h24, rfl, rfl, hff⟩ | ⟨h24, rfl, hnw, hff, hT⟩ | ⟨h24, rfl, hnw, hff, hT⟩
        · have hq24 : ((on : Int) == 24) = true := by simpa using h24
          have htl0 : tl = 0 := by rw [← Htl.out]; rfl
          have HM8 : Hid (OnM w w8 P O S M ob bb (k + 1) n' s' f') := hidIn ⟨HF8.out, HO6.out.2, HO6.out.1, by rw [hff]; exact HA8.out, HB8.out⟩
          subst htl0
          clear h24 hff Hcase
          go_wp2_with fail
          go_roundw
          case rel => exact ⟨k + 1, n', s', f', by omega, by omega, by omega, by go_num, HM8⟩
          case measure => simp [intOf]; omega
        · have hq24 : ((on : Int) == 24) = false := by simpa using h24
          have hon25 : (on : Int) < 25 := by omega
          obtain ⟨B1, B2, B3, hB⟩ : ∃ B1 B2 B3, bst (fR f) on = (B1, B2, B3) := ⟨_, _, _, rfl⟩
          have hy8 := HA8.out.stamp (n := on) (by omega)
          rw [hB] at hy8
          obtain ⟨y0, y1, y2⟩ := hy8
          simp only at y0 y1 y2
          have hBe : (gD (fR f (on : Int))).epoch = B2 ∧ (gD (fR f (on : Int))).seq = B3 := by
            unfold bst stOf at hB
            simp only [Prod.mk.injEq] at hB
            exact hB.2
          rw [hBe.1, hBe.2] at hnw
          have HNw := hidIn (fun wq => newer_any (on : Int) re rq B1 B2 B3 wq)
          generalize newI re rq B2 B3 = ni at hnw HNw
          have hni : decide (0 < ni) = false := by rw [decide_eq_false_iff_not]; omega
          have HNw2 : Hid (∀ dd os, Calls Try.prog 24 #[.agg #[.int .i64 (on : Int), .int .u32 re, .int .u32 rq], .agg #[.int .i64 B1, .int .u32 B2, .int .u32 B3]] (Go.Sort.grow (redrawn w8 dd) os) fun e w' => e = .returned (.int .i64 ni) ∧ Below (Go.Sort.grow (redrawn w8 dd) os).heap.size (Go.Sort.grow (redrawn w8 dd) os) w') := hidIn fun dd os => HNw.out _
          have g0 := cell_regrown x0
          have g1 := cell_regrown x1
          have g2 := cell_regrown x2
          have g3 := cell_regrown y0
          have g4 := cell_regrown y1
          have g5 := cell_regrown y2
          have HB' := hidIn hB
          have Hff := hidIn hff
          have HT := hidIn hT
          clear h24 hnw hff hT hB hBe HNw Hcase
          go_upto_region 23 with fail
          clear x0 x1 x2 y0 y1 y2
          refine wp_region_quiet_below (by kernel_rfl) (by kernel_rfl) ?_
          repeat (go_big_quiet_step (first | (go_at_call 24; exact Calls.regrown_of (HNw2.out _ _))))
          refine wpQuiet_nil ?_
          intro _ hw'
          obtain ⟨⟨dq, osq⟩, hw''⟩ := hw'
          subst hw''
          have hb := below_regrown w8 dq osq
          have HX9 := hidIn ((hb.block _ (block_lt HX8.out)).trans HX8.out)
          have HF9 := hidIn (HF8.out.keep hb)
          have HS9 := hidIn (HS8.out.keep hb)
          have HA9 := hidIn (HA8.out.keep hb HA8.out.lt)
          have HB9 := hidIn (HB8.out.trans (hb.mono HB8.out.size))
          generalize Go.Sort.grow (redrawn w8 dq) osq = w9 at HX9 HF9 HS9 HA9 HB9 ⊢
          clear hb HX8 HF8 HS8 HA8 HB8 HNw2 g0 g1 g2 g3 g4 g5 hni
          obtain ⟨V, hV⟩ : ∃ V, V = w9 := ⟨_, rfl⟩
          have HMV : Hid (OnM w w9 P O S M ob bb (k + 1) n' s' f') := hidIn ⟨HF9.out, HO6.out.2, HO6.out.1, by rw [Hff.out]; exact HA9.out, HB9.out⟩
          have HBs : Hid (bst (fR f') on = (B1, B2, B3)) := hidIn (by rw [Hff.out]; exact HB'.out)
          have HTx : Hid (∀ x ∈ T, x.1 = 22 ∧ stOf x.2 = (B1, B2, B3)) := hidIn fun x hx => ⟨(HT.out x hx).1, by rw [(HT.out x hx).2, ← HB'.out]; rfl⟩
          have HSV := HS9
          have HXV := HX9
          rw [← hV] at HMV HSV HXV ⊢
          clear hV HF9 HS9 HA9 HB9 HX9 HB' Hff HT
          go_wp2_with fail
          go_loopw [18] (fun i wz => ∃ j : Nat, j ≤ tl ∧ i = .int .i64 j ∧ Hid (Below V.heap.size V wz)) (fun i _ => tl - (intOf i).toNat)
          case atStart => exact ⟨0, Nat.zero_le _, rfl, hidIn (Below.refl _ _)⟩
          case round =>
            obtain ⟨j, hj, rfl, HZ⟩ := hrel
            by_cases hltj : j < tl
            · have hji : (j : Int) < (tl : Int) := by omega
              obtain ⟨⟨xt, xo, xe, xq, xcl, xi, xl⟩, hx⟩ : ∃ x, T[j]? = some x := ⟨T[j]'(by have := Htl.out; omega), List.getElem?_eq_getElem _⟩
              obtain ⟨hx1, hx2⟩ := HTx.out _ (List.mem_of_getElem? hx)
              unfold stOf at hx2
              simp only [Prod.mk.injEq] at hx1 hx2
              obtain ⟨hx2, hx3, hx4⟩ := hx2
              obtain ⟨ub, uo, ucc, ava, avc, hue, hub, e0, e1, e2, e3, e4, e5, e6⟩ := (HSV.out.keep HZ.out).at hx
              rw [Htl.out] at hue
              simp only [Value.slice.injEq] at hue
              obtain ⟨hua, _, huc⟩ := hue
              subst hua
              have hXz := (HZ.out.block _ (block_lt HXV.out)).trans HXV.out
              have x0 := cell_of_row _ _ 0 _ _ _ hXz
              simp at x0
              have hyz := (HMV.out.ar.keep HZ.out HMV.out.ar.lt).stamp (n := on) (by omega)
              rw [HBs.out] at hyz
              obtain ⟨y0, y1, y2⟩ := hyz
              simp only at y0 y1 y2 e0 e1 e2 e3 e4 e5 e6
              rw [hx2] at e1
              rw [hx3] at e2
              rw [hx4] at e3
              have heq : ∀ wq, (Op.equalIn 10000 67 (.agg #[.int .i64 B1, .int .u32 B2, .int .u32 B3]) (.agg #[.int .i64 B1, .int .u32 B2, .int .u32 B3])).run Try.prog wq = Result.ok true wq := fun wq => (eqSt (B1, B2, B3) (B1, B2, B3) wq).trans (by simp)
              subst hx1
              have hto : ((22 : Int) != 22) = false := by decide
              generalize xl.length = xn at *
              have HSt2 : Hid (∀ dd os, Calls Try.prog 23 #[.agg #[.int .i64 B1, .int .u32 B2, .int .u32 B3, .int .i64 xcl, .bool xi, .slice ava xn avc]] (Go.Sort.grow (redrawn wr dd) os) fun e w' => e = .returned (.agg #[.int .i64 B1, .int .u32 B2, .int .u32 B3]) ∧ Below (Go.Sort.grow (redrawn wr dd) os).heap.size (Go.Sort.grow (redrawn wr dd) os) w') := hidIn fun dd os => stamp_any ⟨B1, B2, B3, xcl, xi, []⟩ ava xn avc _
              have g0 := cell_regrown e0
              have g1 := cell_regrown e1
              have g2 := cell_regrown e2
              have g3 := cell_regrown e3
              have g4 := cell_regrown e4
              have g5 := cell_regrown e5
              have g6 := cell_regrown e6
              have g7 := cell_regrown x0
              have g8 := cell_regrown y0
              have g9 := cell_regrown y1
              have ga := cell_regrown y2
              clear hx hx2 hx3 hx4 huc hub hXz x0 y0 y1 y2 e0 e1 e2 e3 e4 e5 e6
              go_upto_region 30 with fail
              refine wp_region_quiet_below (by kernel_rfl) (by kernel_rfl) ?_
              repeat (go_big_quiet_step (first | (go_at_call 23; exact Calls.regrown_of (HSt2.out _ _))))
              refine wpQuiet_nil ?_
              intro _ hw'
              obtain ⟨⟨dq, osq⟩, hw''⟩ := hw'
              subst hw''
              have HZ2 := hidIn (HZ.out.trans ((below_regrown wr dq osq).mono HZ.out.size))
              generalize Go.Sort.grow (redrawn wr dq) osq = wy at HZ2 ⊢
              clear g0 g1 g2 g3 g4 g5 g6 g7 g8 g9 ga heq HSt2 HZ
              go_wp2_with fail
              go_roundw
              case rel => exact ⟨j + 1, by omega, by go_num, HZ2⟩
              case measure => simp [intOf]; omega
            · have hji : ¬ (j : Int) < (tl : Int) := by omega
              have HMz := hidIn (HMV.out.keep HZ.out)
              go_wp2_with fail
              go_roundw
              case rel => exact ⟨k + 1, n', s', f', by omega, by omega, by omega, by go_num, HMz⟩
              case measure => simp [intOf]; omega
        · have hq24 : ((on : Int) == 24) = false := by simpa using h24
          have hon25 : (on : Int) < 25 := by omega
          obtain ⟨B1, B2, B3, hB⟩ : ∃ B1 B2 B3, bst (fR f) on = (B1, B2, B3) := ⟨_, _, _, rfl⟩
          have hy8 := HA8.out.stamp (n := on) (by omega)
          rw [hB] at hy8
          obtain ⟨y0, y1, y2⟩ := hy8
          simp only at y0 y1 y2
          have hBe : (gD (fR f (on : Int))).epoch = B2 ∧ (gD (fR f (on : Int))).seq = B3 := by
            unfold bst stOf at hB
            simp only [Prod.mk.injEq] at hB
            exact hB.2
          rw [hBe.1, hBe.2] at hnw
          have HNw := hidIn (fun wq => newer_any (on : Int) re rq B1 B2 B3 wq)
          generalize newI re rq B2 B3 = ni at hnw HNw
          have hni : decide (0 < ni) = true := by rw [decide_eq_true_iff]; exact hnw
          have HNw2 : Hid (∀ dd os, Calls Try.prog 24 #[.agg #[.int .i64 (on : Int), .int .u32 re, .int .u32 rq], .agg #[.int .i64 B1, .int .u32 B2, .int .u32 B3]] (Go.Sort.grow (redrawn w8 dd) os) fun e w' => e = .returned (.int .i64 ni) ∧ Below (Go.Sort.grow (redrawn w8 dd) os).heap.size (Go.Sort.grow (redrawn w8 dd) os) w') := hidIn fun dd os => HNw.out _
          have g0 := cell_regrown x0
          have g1 := cell_regrown x1
          have g2 := cell_regrown x2
          have g3 := cell_regrown y0
          have g4 := cell_regrown y1
          have g5 := cell_regrown y2
          have HB' := hidIn hB
          have Hff := hidIn hff
          have HT := hidIn hT
          clear h24 hnw hff hT hB hBe HNw Hcase
          go_upto_region 23 with fail
          clear x0 x1 x2 y0 y1 y2
          refine wp_region_quiet_below (by kernel_rfl) (by kernel_rfl) ?_
          repeat (go_big_quiet_step (first | (go_at_call 24; exact Calls.regrown_of (HNw2.out _ _))))
          refine wpQuiet_nil ?_
          intro _ hw'
          obtain ⟨⟨dq, osq⟩, hw''⟩ := hw'
          subst hw''
          have hb := below_regrown w8 dq osq
          have HX9 := hidIn ((hb.block _ (block_lt HX8.out)).trans HX8.out)
          have HF9 := hidIn (HF8.out.keep hb)
          have HS9 := hidIn (HS8.out.keep hb)
          have HA9 := hidIn (HA8.out.keep hb HA8.out.lt)
          have HB9 := hidIn (HB8.out.trans (hb.mono HB8.out.size))
          generalize Go.Sort.grow (redrawn w8 dq) osq = w9 at HX9 HF9 HS9 HA9 HB9 ⊢
          clear hb HX8 HF8 HS8 HA8 HB8 HNw2 g0 g1 g2 g3 g4 g5 hni
          obtain ⟨V, hV, hVa, hVf⟩ := HA9.out.putS (n := on) (by omega) ((on : Int), re, rq)
          have hVb : Below w.heap.size w V := HB9.out.trans (hVf.below HB9.out.size (fun j hj => by rw [hj]; exact Hbb.out))
          have hXV := (hVf.block _ (block_lt HX9.out) (fun e => by
            have h1 := HA9.out
            unfold Arr at h1
            rw [← e, HX9.out] at h1
            simp only [Option.some.injEq, Obj.cells.injEq] at h1
            exact absurd h1.2.1 (by decide))).trans HX9.out
          have hbp : bst (putO (fR f) (on : Int) ⟨(on : Int), re, rq, rcl, ri, rl⟩) = upS (bst (fR f)) on ((on : Int), re, rq) := bst_put (fR f) ⟨(on : Int), re, rq, rcl, ri, rl⟩ (Int.natCast_nonneg on)
          have HMV : Hid (OnM w V P O S M ob bb (k + 1) n' s' f') := hidIn ⟨HF9.out.arr HA9.out hVf, HO6.out.2, HO6.out.1, by rw [Hff.out, hbp]; exact hVa, hVb⟩
          have HSV := hidIn (HS9.out.arr HA9.out hVf)
          have HXV := hidIn hXV
          have HBs : Hid (bst (fR f') on = ((on : Int), re, rq)) := hidIn (by
            rw [Hff.out]
            unfold bst
            rw [putO_same]
            rfl)
          have x0 := cell_of_row _ _ 0 _ _ _ HX9.out
          have x1 := cell_of_row _ _ 1 _ _ _ HX9.out
          have x2 := cell_of_row _ _ 2 _ _ _ HX9.out
          simp at x0 x1 x2
          obtain ⟨y0, y1, y2⟩ := HA9.out.stamp (n := on) (by omega)
          have f0 := HA9.out.frozen (on * 3)
          have f1 := HA9.out.frozen (on * 3 + 1)
          have f2 := HA9.out.frozen (on * 3 + 2)
          have HV := hidIn hV
          have HTx : Hid (∀ x ∈ T, x.1 ≠ 22 ∧ stOf x.2 = ((on : Int), re, rq)) := hidIn fun x hx => ⟨(HT.out x hx).1, by rw [(HT.out x hx).2]; rfl⟩
          clear hV hVa hVf hVb hXV hbp HF9 HS9 HA9 HB9 HX9 HB' Hff HT
          go_upto_region 27 with fail
          simp only at HV
          rw [HV.out]
          clear HV x0 x1 x2 y0 y1 y2 f0 f1 f2
          go_wp2_with fail
          go_loopw [18] (fun i wz => ∃ j : Nat, j ≤ tl ∧ i = .int .i64 j ∧ Hid (Below V.heap.size V wz)) (fun i _ => tl - (intOf i).toNat)
          case atStart => exact ⟨0, Nat.zero_le _, rfl, hidIn (Below.refl _ _)⟩
          case round =>
            obtain ⟨j, hj, rfl, HZ⟩ := hrel
            by_cases hltj : j < tl
            · have hji : (j : Int) < (tl : Int) := by omega
              obtain ⟨⟨xt, xo, xe, xq, xcl, xi, xl⟩, hx⟩ : ∃ x, T[j]? = some x := ⟨T[j]'(by have := Htl.out; omega), List.getElem?_eq_getElem _⟩
              obtain ⟨hx1, hx2⟩ := HTx.out _ (List.mem_of_getElem? hx)
              unfold stOf at hx2
              simp only [Prod.mk.injEq] at hx1 hx2
              obtain ⟨hx2, hx3, hx4⟩ := hx2
              obtain ⟨ub, uo, ucc, ava, avc, hue, hub, e0, e1, e2, e3, e4, e5, e6⟩ := (HSV.out.keep HZ.out).at hx
              rw [Htl.out] at hue
              simp only [Value.slice.injEq] at hue
              obtain ⟨hua, _, huc⟩ := hue
              subst hua
              have hXz := (HZ.out.block _ (block_lt HXV.out)).trans HXV.out
              have x0 := cell_of_row _ _ 0 _ _ _ hXz
              simp at x0
              have hyz := (HMV.out.ar.keep HZ.out HMV.out.ar.lt).stamp (n := on) (by omega)
              rw [HBs.out] at hyz
              obtain ⟨y0, y1, y2⟩ := hyz
              simp only at y0 y1 y2 e0 e1 e2 e3 e4 e5 e6
              rw [hx2] at e1
              rw [hx3] at e2
              rw [hx4] at e3
              have heq : ∀ wq, (Op.equalIn 10000 67 (.agg #[.int .i64 (on : Int), .int .u32 re, .int .u32 rq]) (.agg #[.int .i64 (on : Int), .int .u32 re, .int .u32 rq])).run Try.prog wq = Result.ok true wq := fun wq => (eqSt ((on : Int), re, rq) ((on : Int), re, rq) wq).trans (by simp)
              have hto : (xt == (22 : Int)) = false := by simpa using hx1
              generalize xl.length = xn at *
              have HSt2 : Hid (∀ dd os, Calls Try.prog 23 #[.agg #[.int .i64 (on : Int), .int .u32 re, .int .u32 rq, .int .i64 xcl, .bool xi, .slice ava xn avc]] (Go.Sort.grow (redrawn wr dd) os) fun e w' => e = .returned (.agg #[.int .i64 (on : Int), .int .u32 re, .int .u32 rq]) ∧ Below (Go.Sort.grow (redrawn wr dd) os).heap.size (Go.Sort.grow (redrawn wr dd) os) w') := hidIn fun dd os => stamp_any ⟨(on : Int), re, rq, xcl, xi, []⟩ ava xn avc _
              have g0 := cell_regrown e0
              have g1 := cell_regrown e1
              have g2 := cell_regrown e2
              have g3 := cell_regrown e3
              have g4 := cell_regrown e4
              have g5 := cell_regrown e5
              have g6 := cell_regrown e6
              have g7 := cell_regrown x0
              have g8 := cell_regrown y0
              have g9 := cell_regrown y1
              have ga := cell_regrown y2
              clear hx hx2 hx3 hx4 huc hub hXz x0 y0 y1 y2 e0 e1 e2 e3 e4 e5 e6
              go_upto_region 30 with fail
              refine wp_region_quiet_below (by kernel_rfl) (by kernel_rfl) ?_
              repeat (go_big_quiet_step (first | (go_at_call 23; exact Calls.regrown_of (HSt2.out _ _))))
              refine wpQuiet_nil ?_
              intro _ hw'
              obtain ⟨⟨dq, osq⟩, hw''⟩ := hw'
              subst hw''
              have HZ2 := hidIn (HZ.out.trans ((below_regrown wr dq osq).mono HZ.out.size))
              generalize Go.Sort.grow (redrawn wr dq) osq = wy at HZ2 ⊢
              clear g0 g1 g2 g3 g4 g5 g6 g7 g8 g9 ga heq HSt2 HZ
              go_wp2_with fail
              go_roundw
              case rel => exact ⟨j + 1, by omega, by go_num, HZ2⟩
              case measure => simp [intOf]; omega
            · have hji : ¬ (j : Int) < (tl : Int) := by omega
              have HMz := hidIn (HMV.out.keep HZ.out)
              go_wp2_with fail
              go_roundw
              case rel => exact ⟨k + 1, n', s', f', by omega, by omega, by omega, by go_num, HMz⟩
              case measure => simp [intOf]; omega
      · go_wp2_with fail
        refine (HTk.out 23).mono ?_
        rintro e w6 hT
        rcases hT with ⟨hE, rfl, hb⟩ | ⟨_, _, _, hE, _⟩ | ⟨_, hrk, _, _, ch, u, n', s', f', T, rfl, hfl6, hs6, hF6, hkk⟩
        · have hno : recOk ⟨ro, re, rq, rcl, ri, rl⟩ = false := by
            rcases hE with hE | hE | hE
            · rw [isOth_iff.2 ⟨by omega, by rw [HM.out.on.se]; decide⟩] at hE
              cases hE
            · exact hE
            · exfalso
              have h1 := HM.out.on.la
              unfold tkOk at hE
              rw [decide_eq_true h1, decide_eq_true (by omega)] at hE
              cases hE
          have hM6 := HM.out.keep hb
          have HM6 := hidIn hM6.more
          have hB6' := hM6.be
          have e0 := (hB6'.cell (p := ⟨vb, vo + k * 6, none⟩) HV6.out.1).trans HV6.out.2.1
          have e1 := (hB6'.cell (p := ⟨vb, vo + k * 6 + 1, none⟩) HV6.out.1).trans HV6.out.2.2.1
          have e2 := (hB6'.cell (p := ⟨vb, vo + k * 6 + 2, none⟩) HV6.out.1).trans HV6.out.2.2.2.1
          have e3 := (hB6'.cell (p := ⟨vb, vo + k * 6 + 3, none⟩) HV6.out.1).trans HV6.out.2.2.2.2.1
          have e4 := (hB6'.cell (p := ⟨vb, vo + k * 6 + 4, none⟩) HV6.out.1).trans HV6.out.2.2.2.2.2.1
          have e5 := (hB6'.cell (p := ⟨vb, vo + k * 6 + 5, none⟩) HV6.out.1).trans HV6.out.2.2.2.2.2.2
          have HCk := hidIn (rcheck_any (r := ⟨ro, re, rq, rcl, ri, rl⟩) (HrA.out.keep hM6.be (Nat.le_refl _)))
          rw [show ckN ⟨ro, re, rq, rcl, ri, rl⟩ = 2 by unfold ckN; rw [hno]; rfl] at HCk
          clear hE hno hb hM6 HTk c0 c1 c2 c3 c4 c5 d0
          go_wp2_with fail
          refine HCk.out.mono ?_
          rintro e w7 ⟨rfl, hb7⟩
          have HM7 := hidIn (HM6.out.keep hb7)
          clear hb7 HCk HM6 e0 e1 e2 e3 e4 e5
          go_wp2_with fail
          go_roundw
          case rel => exact ⟨k + 1, n, s, f, by omega, by omega, by omega, by go_num, HM7⟩
          case measure => simp [intOf]; omega
        · rw [HM.out.on.up] at hE
          exact absurd hE (by decide)
        have hpos := recOk_pos hrk
        simp only at hpos
        obtain ⟨on, hon⟩ : ∃ on : Nat, ro = (on : Int) := ⟨ro.toNat, by omega⟩
        subst hon
        obtain ⟨hon', hn', hcase⟩ := HM.out.on.take hrk hkk
        have hB6 := fr_own HM.out.be hF6 HPO.out Hob.out
        have ha6 := arr_call HM.out.ar HM.out.fl hF6
        have e0 := (hB6.cell (p := ⟨vb, vo + k * 6, none⟩) HV6.out.1).trans HV6.out.2.1
        have e1 := (hB6.cell (p := ⟨vb, vo + k * 6 + 1, none⟩) HV6.out.1).trans HV6.out.2.2.1
        have e2 := (hB6.cell (p := ⟨vb, vo + k * 6 + 2, none⟩) HV6.out.1).trans HV6.out.2.2.2.1
        have e3 := (hB6.cell (p := ⟨vb, vo + k * 6 + 3, none⟩) HV6.out.1).trans HV6.out.2.2.2.2.1
        have e4 := (hB6.cell (p := ⟨vb, vo + k * 6 + 4, none⟩) HV6.out.1).trans HV6.out.2.2.2.2.2.1
        have e5 := (hB6.cell (p := ⟨vb, vo + k * 6 + 5, none⟩) HV6.out.1).trans HV6.out.2.2.2.2.2.2
        have HSt := hidIn (stamp_any ⟨(on : Int), re, rq, rcl, ri, rl⟩ ra rn rc w6)
        simp only at HSt
        have HF6 := hidIn hfl6
        have HS6 := hidIn hs6
        have HB6 := hidIn hB6
        have HA6 := hidIn ha6
        have HO6 := hidIn (And.intro hon' (Nat.le_trans hn' (Nat.succ_le_succ HM.out.le)))
        have Hcase := hidIn hcase
        have hon24 : on ≤ 24 := by omega
        have htm : T.length ≤ 9223372036854775807 := by
          obtain ⟨L, g1, g2, _⟩ := hs6
          obtain ⟨_, _, _, g3, _⟩ := slAt_of_row (cs := sdc) (fun _ => rfl) g1 rfl
          rw [← g2, sdl_len]
          exact g3
        obtain ⟨tl, htl⟩ : ∃ tl, T.length = tl := ⟨_, rfl⟩
        obtain ⟨ua, uc, hu⟩ := hs6.shape
        rw [htl] at hu htm
        subst hu
        have Htl := hidIn htl
        simp only at Hcase
        clear hfl6 hs6 hF6 hkk hon' hn' hcase hB6 ha6 hrk htl HTk HM hpos c0 c1 c2 c3 c4 c5 d0
        go_wp2_with fail
        refine HSt.out.mono ?_
        rintro e w7 ⟨rfl, hb7⟩
        obtain ⟨w8, hw8⟩ : ∃ w8, w7.alloc (.cells #[.int .i64 (on : Int), .int .u32 re, .int .u32 rq] 67) = w8 := ⟨_, rfl⟩
        have hX8 : w8.heap[w7.heap.size]? = some (.cells #[.int .i64 (on : Int), .int .u32 re, .int .u32 rq] 67) := by rw [← hw8]; exact heap_alloc_last w7 _
        have hb8 : Below w6.heap.size w6 w8 := by rw [← hw8]; exact hb7.alloc hb7.size _
        obtain ⟨sb, hsb⟩ : ∃ sb, w7.heap.size = sb := ⟨_, rfl⟩
        rw [hsb] at hX8
        have x0 := cell_of_row _ _ 0 _ _ _ hX8
        have x1 := cell_of_row _ _ 1 _ _ _ hX8
        have x2 := cell_of_row _ _ 2 _ _ _ hX8
        simp at x0 x1 x2
        have HX8 := hidIn hX8
        have HF8 := hidIn (HF6.out.keep hb8)
        have HS8 := hidIn (HS6.out.keep hb8)
        have HA8 := hidIn (HA6.out.keep hb8 HA6.out.lt)
        have HB8 := hidIn (HB6.out.trans (hb8.mono HB6.out.size))
        have HW8 := hidIn hw8
        clear hb7 hw8 hX8 hb8 HSt HF6 HS6 HB6 HA6 e0 e1 e2 e3 e4 e5
        go_upto_region 20 with fail
        rw [HW8.out]
        clear HW8 hsb
        rcases Hcase.out with ⟨h24, rfl, rfl, hff⟩ | ⟨h24, rfl, hnw, hff, hT⟩ | ⟨h24, rfl, hnw, hff, hT⟩
        · have hq24 : ((on : Int) == 24) = true := by simpa using h24
          have htl0 : tl = 0 := by rw [← Htl.out]; rfl
          have HM8 : Hid (OnM w w8 P O S M ob bb (k + 1) n' s' f') := hidIn ⟨HF8.out, HO6.out.2, HO6.out.1, by rw [hff]; exact HA8.out, HB8.out⟩
          subst htl0
          clear h24 hff Hcase
          go_wp2_with fail
          go_roundw
          case rel => exact ⟨k + 1, n', s', f', by omega, by omega, by omega, by go_num, HM8⟩
          case measure => simp [intOf]; omega
        · have hq24 : ((on : Int) == 24) = false := by simpa using h24
          have hon25 : (on : Int) < 25 := by omega
          obtain ⟨B1, B2, B3, hB⟩ : ∃ B1 B2 B3, bst (fR f) on = (B1, B2, B3) := ⟨_, _, _, rfl⟩
          have hy8 := HA8.out.stamp (n := on) (by omega)
          rw [hB] at hy8
          obtain ⟨y0, y1, y2⟩ := hy8
          simp only at y0 y1 y2
          have hBe : (gD (fR f (on : Int))).epoch = B2 ∧ (gD (fR f (on : Int))).seq = B3 := by
            unfold bst stOf at hB
            simp only [Prod.mk.injEq] at hB
            exact hB.2
          rw [hBe.1, hBe.2] at hnw
          have HNw := hidIn (fun wq => newer_any (on : Int) re rq B1 B2 B3 wq)
          generalize newI re rq B2 B3 = ni at hnw HNw
          have hni : decide (0 < ni) = false := by rw [decide_eq_false_iff_not]; omega
          have HNw2 : Hid (∀ dd os, Calls Try.prog 24 #[.agg #[.int .i64 (on : Int), .int .u32 re, .int .u32 rq], .agg #[.int .i64 B1, .int .u32 B2, .int .u32 B3]] (Go.Sort.grow (redrawn w8 dd) os) fun e w' => e = .returned (.int .i64 ni) ∧ Below (Go.Sort.grow (redrawn w8 dd) os).heap.size (Go.Sort.grow (redrawn w8 dd) os) w') := hidIn fun dd os => HNw.out _
          have g0 := cell_regrown x0
          have g1 := cell_regrown x1
          have g2 := cell_regrown x2
          have g3 := cell_regrown y0
          have g4 := cell_regrown y1
          have g5 := cell_regrown y2
          have HB' := hidIn hB
          have Hff := hidIn hff
          have HT := hidIn hT
          clear h24 hnw hff hT hB hBe HNw Hcase
          go_upto_region 23 with fail
          clear x0 x1 x2 y0 y1 y2
          refine wp_region_quiet_below (by kernel_rfl) (by kernel_rfl) ?_
          repeat (go_big_quiet_step (first | (go_at_call 24; exact Calls.regrown_of (HNw2.out _ _))))
          refine wpQuiet_nil ?_
          intro _ hw'
          obtain ⟨⟨dq, osq⟩, hw''⟩ := hw'
          subst hw''
          have hb := below_regrown w8 dq osq
          have HX9 := hidIn ((hb.block _ (block_lt HX8.out)).trans HX8.out)
          have HF9 := hidIn (HF8.out.keep hb)
          have HS9 := hidIn (HS8.out.keep hb)
          have HA9 := hidIn (HA8.out.keep hb HA8.out.lt)
          have HB9 := hidIn (HB8.out.trans (hb.mono HB8.out.size))
          generalize Go.Sort.grow (redrawn w8 dq) osq = w9 at HX9 HF9 HS9 HA9 HB9 ⊢
          clear hb HX8 HF8 HS8 HA8 HB8 HNw2 g0 g1 g2 g3 g4 g5 hni
          obtain ⟨V, hV⟩ : ∃ V, V = w9 := ⟨_, rfl⟩
          have HMV : Hid (OnM w w9 P O S M ob bb (k + 1) n' s' f') := hidIn ⟨HF9.out, HO6.out.2, HO6.out.1, by rw [Hff.out]; exact HA9.out, HB9.out⟩
          have HBs : Hid (bst (fR f') on = (B1, B2, B3)) := hidIn (by rw [Hff.out]; exact HB'.out)
          have HTx : Hid (∀ x ∈ T, x.1 = 23 ∧ stOf x.2 = (B1, B2, B3)) := hidIn fun x hx => ⟨(HT.out x hx).1, by rw [(HT.out x hx).2, ← HB'.out]; rfl⟩
          have HSV := HS9
          have HXV := HX9
          rw [← hV] at HMV HSV HXV ⊢
          clear hV HF9 HS9 HA9 HB9 HX9 HB' Hff HT
          go_wp2_with fail
          go_loopw [18] (fun i wz => ∃ j : Nat, j ≤ tl ∧ i = .int .i64 j ∧ Hid (Below V.heap.size V wz)) (fun i _ => tl - (intOf i).toNat)
          case atStart => exact ⟨0, Nat.zero_le _, rfl, hidIn (Below.refl _ _)⟩
          case round =>
            obtain ⟨j, hj, rfl, HZ⟩ := hrel
            by_cases hltj : j < tl
            · have hji : (j : Int) < (tl : Int) := by omega
              obtain ⟨⟨xt, xo, xe, xq, xcl, xi, xl⟩, hx⟩ : ∃ x, T[j]? = some x := ⟨T[j]'(by have := Htl.out; omega), List.getElem?_eq_getElem _⟩
              obtain ⟨hx1, hx2⟩ := HTx.out _ (List.mem_of_getElem? hx)
              unfold stOf at hx2
              simp only [Prod.mk.injEq] at hx1 hx2
              obtain ⟨hx2, hx3, hx4⟩ := hx2
              obtain ⟨ub, uo, ucc, ava, avc, hue, hub, e0, e1, e2, e3, e4, e5, e6⟩ := (HSV.out.keep HZ.out).at hx
              rw [Htl.out] at hue
              simp only [Value.slice.injEq] at hue
              obtain ⟨hua, _, huc⟩ := hue
              subst hua
              have hXz := (HZ.out.block _ (block_lt HXV.out)).trans HXV.out
              have x0 := cell_of_row _ _ 0 _ _ _ hXz
              simp at x0
              have hyz := (HMV.out.ar.keep HZ.out HMV.out.ar.lt).stamp (n := on) (by omega)
              rw [HBs.out] at hyz
              obtain ⟨y0, y1, y2⟩ := hyz
              simp only at y0 y1 y2 e0 e1 e2 e3 e4 e5 e6
              rw [hx2] at e1
              rw [hx3] at e2
              rw [hx4] at e3
              have heq : ∀ wq, (Op.equalIn 10000 67 (.agg #[.int .i64 B1, .int .u32 B2, .int .u32 B3]) (.agg #[.int .i64 B1, .int .u32 B2, .int .u32 B3])).run Try.prog wq = Result.ok true wq := fun wq => (eqSt (B1, B2, B3) (B1, B2, B3) wq).trans (by simp)
              subst hx1
              have hto : ((23 : Int) != 23) = false := by decide
              generalize xl.length = xn at *
              have HSt2 : Hid (∀ dd os, Calls Try.prog 23 #[.agg #[.int .i64 B1, .int .u32 B2, .int .u32 B3, .int .i64 xcl, .bool xi, .slice ava xn avc]] (Go.Sort.grow (redrawn wr dd) os) fun e w' => e = .returned (.agg #[.int .i64 B1, .int .u32 B2, .int .u32 B3]) ∧ Below (Go.Sort.grow (redrawn wr dd) os).heap.size (Go.Sort.grow (redrawn wr dd) os) w') := hidIn fun dd os => stamp_any ⟨B1, B2, B3, xcl, xi, []⟩ ava xn avc _
              have g0 := cell_regrown e0
              have g1 := cell_regrown e1
              have g2 := cell_regrown e2
              have g3 := cell_regrown e3
              have g4 := cell_regrown e4
              have g5 := cell_regrown e5
              have g6 := cell_regrown e6
              have g7 := cell_regrown x0
              have g8 := cell_regrown y0
              have g9 := cell_regrown y1
              have ga := cell_regrown y2
              clear hx hx2 hx3 hx4 huc hub hXz x0 y0 y1 y2 e0 e1 e2 e3 e4 e5 e6
              go_upto_region 30 with fail
              refine wp_region_quiet_below (by kernel_rfl) (by kernel_rfl) ?_
              repeat (go_big_quiet_step (first | (go_at_call 23; exact Calls.regrown_of (HSt2.out _ _))))
              refine wpQuiet_nil ?_
              intro _ hw'
              obtain ⟨⟨dq, osq⟩, hw''⟩ := hw'
              subst hw''
              have HZ2 := hidIn (HZ.out.trans ((below_regrown wr dq osq).mono HZ.out.size))
              generalize Go.Sort.grow (redrawn wr dq) osq = wy at HZ2 ⊢
              clear g0 g1 g2 g3 g4 g5 g6 g7 g8 g9 ga heq HSt2 HZ
              go_wp2_with fail
              go_roundw
              case rel => exact ⟨j + 1, by omega, by go_num, HZ2⟩
              case measure => simp [intOf]; omega
            · have hji : ¬ (j : Int) < (tl : Int) := by omega
              have HMz := hidIn (HMV.out.keep HZ.out)
              go_wp2_with fail
              go_roundw
              case rel => exact ⟨k + 1, n', s', f', by omega, by omega, by omega, by go_num, HMz⟩
              case measure => simp [intOf]; omega
        · have hq24 : ((on : Int) == 24) = false := by simpa using h24
          have hon25 : (on : Int) < 25 := by omega
          obtain ⟨B1, B2, B3, hB⟩ : ∃ B1 B2 B3, bst (fR f) on = (B1, B2, B3) := ⟨_, _, _, rfl⟩
          have hy8 := HA8.out.stamp (n := on) (by omega)
          rw [hB] at hy8
          obtain ⟨y0, y1, y2⟩ := hy8
          simp only at y0 y1 y2
          have hBe : (gD (fR f (on : Int))).epoch = B2 ∧ (gD (fR f (on : Int))).seq = B3 := by
            unfold bst stOf at hB
            simp only [Prod.mk.injEq] at hB
            exact hB.2
          rw [hBe.1, hBe.2] at hnw
          have HNw := hidIn (fun wq => newer_any (on : Int) re rq B1 B2 B3 wq)
          generalize newI re rq B2 B3 = ni at hnw HNw
          have hni : decide (0 < ni) = true := by rw [decide_eq_true_iff]; exact hnw
          have HNw2 : Hid (∀ dd os, Calls Try.prog 24 #[.agg #[.int .i64 (on : Int), .int .u32 re, .int .u32 rq], .agg #[.int .i64 B1, .int .u32 B2, .int .u32 B3]] (Go.Sort.grow (redrawn w8 dd) os) fun e w' => e = .returned (.int .i64 ni) ∧ Below (Go.Sort.grow (redrawn w8 dd) os).heap.size (Go.Sort.grow (redrawn w8 dd) os) w') := hidIn fun dd os => HNw.out _
          have g0 := cell_regrown x0
          have g1 := cell_regrown x1
          have g2 := cell_regrown x2
          have g3 := cell_regrown y0
          have g4 := cell_regrown y1
          have g5 := cell_regrown y2
          have HB' := hidIn hB
          have Hff := hidIn hff
          have HT := hidIn hT
          clear h24 hnw hff hT hB hBe HNw Hcase
          go_upto_region 23 with fail
          clear x0 x1 x2 y0 y1 y2
          refine wp_region_quiet_below (by kernel_rfl) (by kernel_rfl) ?_
          repeat (go_big_quiet_step (first | (go_at_call 24; exact Calls.regrown_of (HNw2.out _ _))))
          refine wpQuiet_nil ?_
          intro _ hw'
          obtain ⟨⟨dq, osq⟩, hw''⟩ := hw'
          subst hw''
          have hb := below_regrown w8 dq osq
          have HX9 := hidIn ((hb.block _ (block_lt HX8.out)).trans HX8.out)
          have HF9 := hidIn (HF8.out.keep hb)
          have HS9 := hidIn (HS8.out.keep hb)
          have HA9 := hidIn (HA8.out.keep hb HA8.out.lt)
          have HB9 := hidIn (HB8.out.trans (hb.mono HB8.out.size))
          generalize Go.Sort.grow (redrawn w8 dq) osq = w9 at HX9 HF9 HS9 HA9 HB9 ⊢
          clear hb HX8 HF8 HS8 HA8 HB8 HNw2 g0 g1 g2 g3 g4 g5 hni
          obtain ⟨V, hV, hVa, hVf⟩ := HA9.out.putS (n := on) (by omega) ((on : Int), re, rq)
          have hVb : Below w.heap.size w V := HB9.out.trans (hVf.below HB9.out.size (fun j hj => by rw [hj]; exact Hbb.out))
          have hXV := (hVf.block _ (block_lt HX9.out) (fun e => by
            have h1 := HA9.out
            unfold Arr at h1
            rw [← e, HX9.out] at h1
            simp only [Option.some.injEq, Obj.cells.injEq] at h1
            exact absurd h1.2.1 (by decide))).trans HX9.out
          have hbp : bst (putO (fR f) (on : Int) ⟨(on : Int), re, rq, rcl, ri, rl⟩) = upS (bst (fR f)) on ((on : Int), re, rq) := bst_put (fR f) ⟨(on : Int), re, rq, rcl, ri, rl⟩ (Int.natCast_nonneg on)
          have HMV : Hid (OnM w V P O S M ob bb (k + 1) n' s' f') := hidIn ⟨HF9.out.arr HA9.out hVf, HO6.out.2, HO6.out.1, by rw [Hff.out, hbp]; exact hVa, hVb⟩
          have HSV := hidIn (HS9.out.arr HA9.out hVf)
          have HXV := hidIn hXV
          have HBs : Hid (bst (fR f') on = ((on : Int), re, rq)) := hidIn (by
            rw [Hff.out]
            unfold bst
            rw [putO_same]
            rfl)
          have x0 := cell_of_row _ _ 0 _ _ _ HX9.out
          have x1 := cell_of_row _ _ 1 _ _ _ HX9.out
          have x2 := cell_of_row _ _ 2 _ _ _ HX9.out
          simp at x0 x1 x2
          obtain ⟨y0, y1, y2⟩ := HA9.out.stamp (n := on) (by omega)
          have f0 := HA9.out.frozen (on * 3)
          have f1 := HA9.out.frozen (on * 3 + 1)
          have f2 := HA9.out.frozen (on * 3 + 2)
          have HV := hidIn hV
          have HTx : Hid (∀ x ∈ T, x.1 ≠ 23 ∧ stOf x.2 = ((on : Int), re, rq)) := hidIn fun x hx => ⟨(HT.out x hx).1, by rw [(HT.out x hx).2]; rfl⟩
          clear hV hVa hVf hVb hXV hbp HF9 HS9 HA9 HB9 HX9 HB' Hff HT
          go_upto_region 27 with fail
          simp only at HV
          rw [HV.out]
          clear HV x0 x1 x2 y0 y1 y2 f0 f1 f2
          go_wp2_with fail
          go_loopw [18] (fun i wz => ∃ j : Nat, j ≤ tl ∧ i = .int .i64 j ∧ Hid (Below V.heap.size V wz)) (fun i _ => tl - (intOf i).toNat)
          case atStart => exact ⟨0, Nat.zero_le _, rfl, hidIn (Below.refl _ _)⟩
          case round =>
            obtain ⟨j, hj, rfl, HZ⟩ := hrel
            by_cases hltj : j < tl
            · have hji : (j : Int) < (tl : Int) := by omega
              obtain ⟨⟨xt, xo, xe, xq, xcl, xi, xl⟩, hx⟩ : ∃ x, T[j]? = some x := ⟨T[j]'(by have := Htl.out; omega), List.getElem?_eq_getElem _⟩
              obtain ⟨hx1, hx2⟩ := HTx.out _ (List.mem_of_getElem? hx)
              unfold stOf at hx2
              simp only [Prod.mk.injEq] at hx1 hx2
              obtain ⟨hx2, hx3, hx4⟩ := hx2
              obtain ⟨ub, uo, ucc, ava, avc, hue, hub, e0, e1, e2, e3, e4, e5, e6⟩ := (HSV.out.keep HZ.out).at hx
              rw [Htl.out] at hue
              simp only [Value.slice.injEq] at hue
              obtain ⟨hua, _, huc⟩ := hue
              subst hua
              have hXz := (HZ.out.block _ (block_lt HXV.out)).trans HXV.out
              have x0 := cell_of_row _ _ 0 _ _ _ hXz
              simp at x0
              have hyz := (HMV.out.ar.keep HZ.out HMV.out.ar.lt).stamp (n := on) (by omega)
              rw [HBs.out] at hyz
              obtain ⟨y0, y1, y2⟩ := hyz
              simp only at y0 y1 y2 e0 e1 e2 e3 e4 e5 e6
              rw [hx2] at e1
              rw [hx3] at e2
              rw [hx4] at e3
              have heq : ∀ wq, (Op.equalIn 10000 67 (.agg #[.int .i64 (on : Int), .int .u32 re, .int .u32 rq]) (.agg #[.int .i64 (on : Int), .int .u32 re, .int .u32 rq])).run Try.prog wq = Result.ok true wq := fun wq => (eqSt ((on : Int), re, rq) ((on : Int), re, rq) wq).trans (by simp)
              have hto : (xt == (23 : Int)) = false := by simpa using hx1
              generalize xl.length = xn at *
              have HSt2 : Hid (∀ dd os, Calls Try.prog 23 #[.agg #[.int .i64 (on : Int), .int .u32 re, .int .u32 rq, .int .i64 xcl, .bool xi, .slice ava xn avc]] (Go.Sort.grow (redrawn wr dd) os) fun e w' => e = .returned (.agg #[.int .i64 (on : Int), .int .u32 re, .int .u32 rq]) ∧ Below (Go.Sort.grow (redrawn wr dd) os).heap.size (Go.Sort.grow (redrawn wr dd) os) w') := hidIn fun dd os => stamp_any ⟨(on : Int), re, rq, xcl, xi, []⟩ ava xn avc _
              have g0 := cell_regrown e0
              have g1 := cell_regrown e1
              have g2 := cell_regrown e2
              have g3 := cell_regrown e3
              have g4 := cell_regrown e4
              have g5 := cell_regrown e5
              have g6 := cell_regrown e6
              have g7 := cell_regrown x0
              have g8 := cell_regrown y0
              have g9 := cell_regrown y1
              have ga := cell_regrown y2
              clear hx hx2 hx3 hx4 huc hub hXz x0 y0 y1 y2 e0 e1 e2 e3 e4 e5 e6
              go_upto_region 30 with fail
              refine wp_region_quiet_below (by kernel_rfl) (by kernel_rfl) ?_
              repeat (go_big_quiet_step (first | (go_at_call 23; exact Calls.regrown_of (HSt2.out _ _))))
              refine wpQuiet_nil ?_
              intro _ hw'
              obtain ⟨⟨dq, osq⟩, hw''⟩ := hw'
              subst hw''
              have HZ2 := hidIn (HZ.out.trans ((below_regrown wr dq osq).mono HZ.out.size))
              generalize Go.Sort.grow (redrawn wr dq) osq = wy at HZ2 ⊢
              clear g0 g1 g2 g3 g4 g5 g6 g7 g8 g9 ga heq HSt2 HZ
              go_wp2_with fail
              go_roundw
              case rel => exact ⟨j + 1, by omega, by go_num, HZ2⟩
              case measure => simp [intOf]; omega
            · have hji : ¬ (j : Int) < (tl : Int) := by omega
              have HMz := hidIn (HMV.out.keep HZ.out)
              go_wp2_with fail
              go_roundw
              case rel => exact ⟨k + 1, n', s', f', by omega, by omega, by omega, by go_num, HMz⟩
              case measure => simp [intOf]; omega
    · have hgo : ¬ (k < ln ∧ k < lb ∧ k < 60) := hlt
      have HE := hidIn hgo
      clear hlt hgo
      go_upto_region 10 with fail
      go_cut [63] (fun c wx => c = .bool false ∧ wx = wr)
      case first =>
        by_cases h1 : (k : Int) < (ln : Int)
        · by_cases h2 : (k : Int) < (lb : Int)
          · have h3 : ¬ ((k : Int) < 60) := fun h => HE.out ⟨by omega, by omega, by omega⟩
            go_wp2_with fail
            go_meet
            exact ⟨rfl, rfl⟩
          · go_wp2_with fail
            go_meet
            exact ⟨rfl, rfl⟩
        · go_wp2_with fail
          go_meet
          exact ⟨rfl, rfl⟩
      case rest =>
        obtain ⟨rfl, hwc⟩ := hcut
        rw [hwc]
        clear hwc wc HE
        obtain ⟨w0, hw0⟩ : ∃ w0, w0 = wr := ⟨wr, rfl⟩
        subst hw0
        have HAl := hidIn (fall_any HM.out.fl)
        go_wp2_with fail
        refine HAl.out.mono ?_
        rintro e w7 ⟨⟨u, L, rfl, hr7, hL7, hfr7⟩, hb7⟩
        have HM7 := hidIn (HM.out.keep hb7)
        have HL7 := hidIn (slAt_of_row (cs := rcc) (fun _ => rfl) hr7 rfl).recs
        have HFr7 := hidIn hfr7
        obtain ⟨ua, uc, hu⟩ := row_shape hr7
        subst hu
        rw [allL_fR] at hL7
        have hll : (allR (fR f) 24).length = L.length := by rw [← hL7]; exact List.length_map _
        obtain ⟨al, hal⟩ : ∃ al, L.length = al := ⟨_, rfl⟩
        rw [hal] at HL7 hll ⊢
        have HLe := hidIn hL7
        have Hll := hidIn hll
        have hall : al ≤ 24 := by rw [← hll]; exact (allR_le _ (Nat.le_refl _)).1
        have hOrg : ∀ o g, fR f o = some g → recOk g = true ∧ g.origin = o := fun o g hg => ⟨(HM.out.fl.st.org hg).1, (HM.out.fl.st.org hg).2.1⟩
        have HOrg := hidIn hOrg
        clear hr7 hL7 hfr7 hb7 hll hOrg HAl HM hal
        go_wp2_with fail
        go_loopw [20, 21] (fun a o wz => ∃ m : Nat, m ≤ 24 ∧ o = .int .i64 ((m : Int) + 1) ∧ a = .int .i64 ((allR (fR f) m).length : Nat) ∧ Hid (Below w7.heap.size w7 wz)) (fun _ o _ => 25 - (intOf o).toNat)
        case atStart => exact ⟨0, Nat.zero_le _, rfl, rfl, hidIn (Below.refl _ _)⟩
        case round =>
          obtain ⟨m, hm, rfl, rfl, HZ⟩ := hrel
          by_cases hlt : m < 24
          · have hmi : (m : Int) + 1 ≤ 24 := by omega
            have hmi2 : (m : Int) + 1 < 25 := by omega
            have hmt : ((m : Int) + 1).toNat = m + 1 := by omega
            have hmn : (m : Int) + 1 = ((m + 1 : Nat) : Int) := by omega
            obtain ⟨y0, y1, y2⟩ := (HM7.out.ar.keep HZ.out HM7.out.ar.lt).stamp (n := m + 1) (by omega)
            have HSu := hidIn (allR_succ (fR f) m)
            have hle := allR_le (fR f) (n := m) (by omega)
            rw [Hll.out] at hle
            cases hF : fR f ((m : Int) + 1) with
            | none =>
              have hbz : bst (fR f) (m + 1) = (0, 0, 0) := by unfold bst; rw [← hmn, hF]; rfl
              rw [hbz] at y0 y1 y2
              have HNx : Hid ((allR (fR f) (m + 1)).length = (allR (fR f) m).length) := hidIn (by rw [HSu.out, hF]; simp)
              simp only at y0 y1 y2
              obtain ⟨nn, hnn⟩ : ∃ nn, (allR (fR f) m).length = nn := ⟨_, rfl⟩
              rw [hnn] at HNx hle ⊢
              clear hF hbz hnn HSu
              rw [hmn] at hmi hmi2 ⊢
              clear hmn hmt
              go_wp2_with fail
              go_roundw
              case rel => exact ⟨m + 1, by omega, by go_num, by rw [HNx.out], HZ⟩
              case measure => simp [intOf]; omega
            | some g =>
              obtain ⟨hgk, hgo⟩ := HOrg.out _ _ hF
              have hgp := (recOk_pos hgk).1
              have hbz : bst (fR f) (m + 1) = ((m : Int) + 1, g.epoch, g.seq) := by unfold bst stOf; rw [← hmn, hF]; simp [gD, hgo]
              rw [hbz] at y0 y1 y2
              have HNx : Hid ((allR (fR f) (m + 1)).length = (allR (fR f) m).length + 1) := hidIn (by rw [HSu.out, hF]; simp)
              have hat := allR_at (by omega) hF
              obtain ⟨nn, hnn⟩ : ∃ nn, (allR (fR f) m).length = nn := ⟨_, rfl⟩
              rw [hnn] at HNx hat hle ⊢
              have hna : nn < al := by rw [← Hll.out]; exact (List.getElem?_eq_some_iff.1 hat).1
              obtain ⟨⟨r', v'⟩, hr'⟩ : ∃ x, L[nn]? = some x := ⟨L[nn]'(by have h1 := Hll.out; have h2 := congrArg List.length HLe.out; rw [List.length_map] at h2; omega), List.getElem?_eq_getElem _⟩
              have hrg : r' = g := by
                rw [← HLe.out] at hat
                unfold rcs at hat
                rw [List.getElem?_map, hr'] at hat
                simpa using hat
              subst hrg
              obtain ⟨va', vc', hv', _⟩ := HFr7.out _ (List.mem_of_getElem? hr')
              simp only at hv'
              subst hv'
              obtain ⟨La, Lc, hLe, _, _, hLcell⟩ := HL7.out
              simp only [Value.slice.injEq] at hLe
              obtain ⟨hLa, _, hLcc⟩ := hLe
              obtain ⟨Lb, Lo, hLa2, hLb, hLc2⟩ := hLcell (by have h1 := Hll.out; have h2 := congrArg List.length HLe.out; rw [List.length_map] at h2; omega)
              subst hLa hLa2
              obtain ⟨k0, k1, k2, k3, k4, k5⟩ := hLc2 nn _ hr'
              simp only at k0 k1 k2 k3 k4 k5 y0 y1 y2
              rw [hgo] at k0
              replace k0 := (HZ.out.cell (p := ⟨Lb, Lo + nn * 6, none⟩) hLb).trans k0
              replace k1 := (HZ.out.cell (p := ⟨Lb, Lo + nn * 6 + 1, none⟩) hLb).trans k1
              replace k2 := (HZ.out.cell (p := ⟨Lb, Lo + nn * 6 + 2, none⟩) hLb).trans k2
              replace k3 := (HZ.out.cell (p := ⟨Lb, Lo + nn * 6 + 3, none⟩) hLb).trans k3
              replace k4 := (HZ.out.cell (p := ⟨Lb, Lo + nn * 6 + 4, none⟩) hLb).trans k4
              replace k5 := (HZ.out.cell (p := ⟨Lb, Lo + nn * 6 + 5, none⟩) hLb).trans k5
              obtain ⟨go, ge, gq, gcl, gi, gl⟩ := r'
              simp only at k0 k1 k2 k3 k4 k5 y0 y1 y2 hgp hgo
              generalize gl.length = gn at *
              have hni : (nn : Int) < (al : Int) := by omega
              have hge1 : decide ((al : Int) ≤ (nn : Int)) = false := by rw [decide_eq_false_iff_not]; omega
              have hge2 : decide (al ≤ nn) = false := by rw [decide_eq_false_iff_not]; omega
              have heq : ∀ wq, (Op.equalIn 10000 67 (.agg #[.int .i64 ((m + 1 : Nat) : Int), .int .u32 ge, .int .u32 gq]) (.agg #[.int .i64 ((m + 1 : Nat) : Int), .int .u32 ge, .int .u32 gq])).run Try.prog wq = Result.ok true wq := fun wq => (eqSt (((m + 1 : Nat) : Int), ge, gq) (((m + 1 : Nat) : Int), ge, gq) wq).trans (by simp)
              rw [hmn] at hmi hmi2 k0 y0 ⊢
              have HSt2 : Hid (∀ dd os, Calls Try.prog 23 #[.agg #[.int .i64 ((m + 1 : Nat) : Int), .int .u32 ge, .int .u32 gq, .int .i64 gcl, .bool gi, .slice va' gn vc']] (Go.Sort.grow (redrawn wr dd) os) fun e w' => e = .returned (.agg #[.int .i64 ((m + 1 : Nat) : Int), .int .u32 ge, .int .u32 gq]) ∧ Below (Go.Sort.grow (redrawn wr dd) os).heap.size (Go.Sort.grow (redrawn wr dd) os) w') := hidIn fun dd os => stamp_any ⟨((m + 1 : Nat) : Int), ge, gq, gcl, gi, []⟩ va' gn vc' _
              have j0 := cell_regrown k0
              have j1 := cell_regrown k1
              have j2 := cell_regrown k2
              have j3 := cell_regrown k3
              have j4 := cell_regrown k4
              have j5 := cell_regrown k5
              have j6 := cell_regrown y0
              have j7 := cell_regrown y1
              have j8 := cell_regrown y2
              clear hF hgk hgo hbz hat hnn hr' hLcell hLc2 hLcc k0 k1 k2 k3 k4 k5 HSu hmn hmt hle
              go_upto_region 38 with fail
              clear y0 y1 y2 hgp
              refine wp_region_quiet_below (by kernel_rfl) (by kernel_rfl) ?_
              repeat (go_big_quiet_step (first | (go_at_call 23; exact Calls.regrown_of (HSt2.out _ _))))
              refine wpQuiet_nil ?_
              intro _ hw'
              obtain ⟨⟨dq, osq⟩, hw''⟩ := hw'
              subst hw''
              have HZ2 := hidIn (HZ.out.trans ((below_regrown wr dq osq).mono HZ.out.size))
              generalize Go.Sort.grow (redrawn wr dq) osq = wy at HZ2 ⊢
              clear j0 j1 j2 j3 j4 j5 j6 j7 j8 heq HSt2 HZ
              go_wp2_with fail
              go_roundw
              case rel => exact ⟨m + 1, by omega, by go_num, by rw [HNx.out]; go_num, HZ2⟩
              case measure => simp [intOf]; omega
          · have hmi : ¬ ((m : Int) + 1 ≤ 24) := by omega
            have hm24 : m = 24 := by omega
            subst hm24
            rw [Hll.out]
            have HMz := hidIn (HM7.out.keep HZ.out)
            obtain ⟨hk1, hk2, hk3, hk4⟩ := on_end HMz.out.on (by omega) HMz.out.fl.ok f
            have Hk2 := hidIn hk2
            have Hk3 := hidIn hk3
            have Hk4 := hidIn hk4
            have HT1 := hidIn (ftick2_any HMz.out.fl 1000)
            clear hk2 hk3 hk4
            go_wp2_with fail
            refine HT1.out.mono ?_
            rintro e w8 h8
            rcases h8 with ⟨h8, _⟩ | ⟨_, u8, rfl, hf8, hs8, hF8⟩
            · rw [hk1] at h8; cases h8
            have HB8 := hidIn (fr_own HMz.out.be hF8 HPO.out Hob.out)
            obtain ⟨u8a, u8c, rfl⟩ := hs8.shape
            have HT2 := hidIn (ftick2_any hf8 1000)
            clear hf8 hs8 hF8 hk1 HT1
            go_wp2_with fail
            refine HT2.out.mono ?_
            rintro e w9 h9
            rcases h9 with ⟨h9, _⟩ | ⟨_, u9, rfl, hf9, hs9, hF9⟩
            · rw [Hk2.out] at h9; cases h9
            rw [Hk3.out] at hs9
            have HB9 := hidIn (fr_own HB8.out hF9 HPO.out Hob.out)
            obtain ⟨u9a, u9c, rfl⟩ := hs9.shape
            have HPe := hidIn (fpend_any hf9)
            rw [Hk4.out] at HPe
            generalize (tkT s f (upL s 0 24) 1000).length = t8 at HPe ⊢
            clear hf9 hs9 hF9 HT2 HB8 Hk2 Hk3 Hk4
            simp only [List.length_nil]
            have hqa : ((al : Int) == (al : Int)) = true := by simp
            have hqt : ((t8 : Int) == (t8 : Int)) = true := by simp
            go_wp2_with fail
            refine HPe.out.mono ?_
            rintro e w10 ⟨rfl, hb10⟩
            have HB10 := hidIn (HB9.out.trans (hb10.mono HB9.out.size))
            clear hb10 HPe HB9
            go_wp2_with fail
            go_ret
            exact ⟨rfl, HB10.out⟩
end Go.Proofs.Yteaaoipipjkgnaa
