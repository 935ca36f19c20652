/- table.Mask. table.Mask: the walk. table.Neighbours. Masks part the bits of a set (pure). TableParts: the walk. In a world of seven routers a neighbour that is taken is one of seven (pure). TableParts: the walk. Arguments of the table's laws: links of three small numbers, seven small numbers; the widths out of a row's list. A look (a byte, an entropy) as an argument; TableParts, of a look as a row hands it. -/
import Derived.Test.YtgeoghhajjlofaaGreatDoorZ6
import Derived.Test.YtgeoghhajjlofaaGreatDoorZ2
import Derived.Test.YtgeoghhajjlofaaGreatDoorZ5
import Derived.Test.YtgeoghhajjlofaaGreatDoorGH
import Derived.Test.YtgeoghhajjlofaaGreatDoorRows
namespace Go.Proofs.YtgeoghhajjlofaaGreatDoor
open Go.RowKit

/-- Does an entry take the neighbour? -/
def mkP (e : Nat) (s t : Int) (x : En) : Bool := decide (x.1.1 = s) && decide (chN e x.2 = t)
abbrev mkC (B : Nat) : Array Value := #[.pointer (some ⟨B, 0, none⟩), .pointer (some ⟨B + 1, 0, none⟩), .pointer (some ⟨B + 1 + 1, 0, none⟩)]
abbrev mkF (B : Nat) : Value := .func (.func 28) #[] (mkC B)
theorem enter_mk (args : Array Value) (w : World) : (callFunc 28 args).run Tryz.prog w = .ok (.enter 28 args) w := by kernel_rfl
set_option maxRecDepth 100000 in
set_option maxHeartbeats 2000000 in
theorem mask1_any {e : Nat} (he : e < 4294967296) {s t : Int} {B : Nat} {w : World} (h0 : w.cell? ⟨B, 0, none⟩ = some (.int .i64 s)) (h1 : w.cell? ⟨B + 1, 0, none⟩ = some (.int .u32 e)) (h2 : w.cell? ⟨B + 1 + 1, 0, none⟩ = some (.int .i64 t)) {x : En} (hx : SlAt ic 1 w (rwS x.1) x.2) :
    Calls Tryz.prog 28 (#[enV x.1] ++ mkC B) w fun r w' => r = .returned (.bool (mkP e s t x)) ∧ Below w.heap.size w w' := by
  obtain ⟨⟨a0, a1, a2, a3, a4, a5⟩, an⟩ := x
  simp only at hx
  have hlt0 := block_lt_of_cell h0
  have hlt1 := block_lt_of_cell h1
  have hlt2 := block_lt_of_cell h2
  simp only at hlt0 hlt1 hlt2
  obtain ⟨W1, hW1⟩ : ∃ W1, w.alloc (enO a0 a1 a2 (.slice a3 a4 a5)) = W1 := ⟨_, rfl⟩
  have hb : Below w.heap.size w W1 := by rw [← hW1]; exact (Below.refl _ w).alloc (Nat.le_refl _) _
  have hA : W1.heap[w.heap.size]? = some (enO a0 a1 a2 (.slice a3 a4 a5)) := by rw [← hW1]; exact heap_alloc_last w _
  obtain ⟨q, hq⟩ : ∃ q, w.heap.size = q := ⟨_, rfl⟩
  have HB := hidIn hb
  have HTk : Hid (∀ d os, Calls Tryz.prog 25 #[enV (a0, a1, a2, a3, a4, a5), .int .u32 e] (Go.Sort.grow (redrawn W1 d) os) fun r w' => r = .returned (.int .i64 (chN e an)) ∧ Below (Go.Sort.grow (redrawn W1 d) os).heap.size (Go.Sort.grow (redrawn W1 d) os) w') := hidIn fun d os => taken_any he (x := ((a0, a1, a2, a3, a4, a5), an)) ((hx.keep hb (Nat.le_refl _)).keep (below_regrown W1 d os) (Nat.le_refl _))
  have k0 := cell_regrown ((hb.cell (p := ⟨B, 0, none⟩) hlt0).trans h0)
  have k1 := cell_regrown ((hb.cell (p := ⟨B + 1, 0, none⟩) hlt1).trans h1)
  have k2 := cell_regrown ((hb.cell (p := ⟨B + 1 + 1, 0, none⟩) hlt2).trans h2)
  rw [hq] at hA
  have t0 := cell_of_row _ _ 0 _ _ _ hA
  have t1 := cell_of_row _ _ 1 _ _ _ hA
  have t2 := cell_of_row _ _ 2 _ _ _ hA
  have t3 := cell_of_row _ _ 3 _ _ _ hA
  simp at t0 t1 t2 t3
  have g0 := cell_regrown t0
  have g1 := cell_regrown t1
  have g2 := cell_regrown t2
  have g3 := cell_regrown t3
  obtain ⟨c, hc⟩ : ∃ c, chN e an = c := ⟨_, rfl⟩
  obtain ⟨r, hr⟩ : ∃ r, mkP e s t (((a0, a1, a2, a3, a4, a5), an) : En) = r := ⟨_, rfl⟩
  have hr' : r = (decide (a0 = s) && decide (c = t)) := by rw [← hr, ← hc]; rfl
  rw [hr]
  rw [hc] at HTk
  have HR := hidIn hr'
  have HW := hidIn hW1
  clear hb hA hr hr' hW1 h0 h1 h2 hlt0 hlt1 hlt2 hx hc t0 t1 t2 t3
  show Calls Tryz.prog 28 #[enV (a0, a1, a2, a3, a4, a5), .pointer (some ⟨B, 0, none⟩), .pointer (some ⟨B + 1, 0, none⟩), .pointer (some ⟨B + 1 + 1, 0, none⟩)] w _
  go_enter Tryz.func28, Tryz.ntmps28
  go_upto_region 1 with fail
  rw [HW.out]
  clear HW hq
  by_cases j0 : a0 = s
  rotate_left
  · have d0 : (a0 == s) = false := by simpa using j0
    have HE : Hid (r = false) := hidIn (by rw [HR.out, decide_eq_false j0]; rfl)
    clear j0
    refine wp_region_quiet_below (by kernel_rfl) (by kernel_rfl) ?_
    repeat (go_big_quiet_step (first | (go_at_call 25; exact Calls.regrown_of (HTk.out _ _))))
    refine wpQuiet_nil ?_
    intro _ hw'
    obtain ⟨⟨dq, osq⟩, hw''⟩ := hw'
    subst hw''
    have HRy := hidIn (HB.out.trans ((below_regrown W1 dq osq).mono HB.out.size))
    generalize Go.Sort.grow (redrawn W1 dq) osq = wy at HRy ⊢
    go_wp2_with fail
    go_ret
    exact ⟨by rw [HE.out]; rfl, HRy.out⟩
  have d0 : (a0 == s) = true := by simpa using j0
  by_cases j1 : c = t
  · have d1 : (c == t) = true := by simpa using j1
    have HE : Hid (r = true) := hidIn (by rw [HR.out, decide_eq_true j0, decide_eq_true j1]; rfl)
    clear j0 j1
    refine wp_region_quiet_below (by kernel_rfl) (by kernel_rfl) ?_
    repeat (go_big_quiet_step (first | (go_at_call 25; exact Calls.regrown_of (HTk.out _ _))))
    refine wpQuiet_nil ?_
    intro _ hw'
    obtain ⟨⟨dq, osq⟩, hw''⟩ := hw'
    subst hw''
    have HRy := hidIn (HB.out.trans ((below_regrown W1 dq osq).mono HB.out.size))
    generalize Go.Sort.grow (redrawn W1 dq) osq = wy at HRy ⊢
    go_wp2_with fail
    go_ret
    exact ⟨by rw [HE.out]; rfl, HRy.out⟩
  · have d1 : (c == t) = false := by simpa using j1
    have HE : Hid (r = false) := hidIn (by rw [HR.out, decide_eq_false j1]; simp)
    clear j0 j1
    refine wp_region_quiet_below (by kernel_rfl) (by kernel_rfl) ?_
    repeat (go_big_quiet_step (first | (go_at_call 25; exact Calls.regrown_of (HTk.out _ _))))
    refine wpQuiet_nil ?_
    intro _ hw'
    obtain ⟨⟨dq, osq⟩, hw''⟩ := hw'
    subst hw''
    have HRy := hidIn (HB.out.trans ((below_regrown W1 dq osq).mono HB.out.size))
    generalize Go.Sort.grow (redrawn W1 dq) osq = wy at HRy ⊢
    go_wp2_with fail
    go_ret
    exact ⟨by rw [HE.out]; rfl, HRy.out⟩
/-- The entries that take a neighbour. -/
theorem thoseMk_any {e : Nat} (he : e < 4294967296) {es : List En} {ua : Option Addr} {un uc qa : Nat} {s t : Int} {w : World} (h : EnAt w (.slice ua un uc) es) (hn : es.length ≤ 100000) (k0 : w.cell? ⟨qa, 0, none⟩ = some (.int .i64 s)) (k1 : w.cell? ⟨qa + 1, 0, none⟩ = some (.int .u32 e)) (k2 : w.cell? ⟨qa + 1 + 1, 0, none⟩ = some (.int .i64 t)) (self wd own : Int) :
    Calls Tryz.prog 23 #[tbV self wd own (.slice ua un uc), mkF qa] w fun r w' => ThAns w w' (es.filter (mkP e s t)) r ∧ Below w.heap.size w w' :=
  those_any h hn ⟨28, mkC qa, mkP e s t, enter_mk, fun x hx _ hbw => mask1_any he ((hbw.cell (p := ⟨qa, 0, none⟩) (block_lt_of_cell k0)).trans k0) ((hbw.cell (p := ⟨qa + 1, 0, none⟩) (block_lt_of_cell k1)).trans k1) ((hbw.cell (p := ⟨qa + 1 + 1, 0, none⟩) (block_lt_of_cell k2)).trans k2) ((h.n x hx).keep hbw (Nat.le_refl _))⟩ self wd own
end Go.Proofs.YtgeoghhajjlofaaGreatDoor
namespace Go.Proofs.YtgeoghhajjlofaaGreatDoor
open Go.RowKit

/-- The bits of entries. -/
def bitsN (L : List En) : Nat := L.foldl (fun N x => N ||| 2 ^ (x.1.2.1 - 1).toNat) 0
theorem bitsN_snoc (L : List En) (x : En) : bitsN (L ++ [x]) = bitsN L ||| 2 ^ (x.1.2.1 - 1).toNat := by simp [bitsN, List.foldl_append]
def mkOk (ok : Bool) (s t : Int) : Bool := ok && ((decide (0 ≤ s) && decide (s < 128)) && (decide (1 ≤ t) && decide (t ≤ 24)))
def mkN (ok : Bool) (e : Nat) (s t : Int) (es : List En) : Nat := if mkOk ok s t = true then bitsN (es.filter (mkP e s t)) else 0
theorem zeroBits (w : World) : (zeroValue 38).run Tryz.prog w = .ok (.agg #[.int .u64 0, .int .u64 0, .int .u64 0, .int .u64 0]) w := by kernel_rfl
theorem bs_zero : Bi.bs 0 = .agg #[.int .u64 0, .int .u64 0, .int .u64 0, .int .u64 0] := by
  unfold Bi.bs
  simp only [Bi.wd_zero]
  rfl
abbrev zO : Obj := .cells #[.int .u64 0, .int .u64 0, .int .u64 0, .int .u64 0] 38
theorem hasBs_zero {w : World} {b : Nat} (h : w.heap[b]? = some zO) : Bi.HasBs w b 0 := by
  refine ⟨?_, ?_, ?_, ?_, frozen_new h 0, frozen_new h 1, frozen_new h 2, frozen_new h 3, block_lt h⟩
  all_goals rw [Bi.wd_zero]
  · have := cell_of_row _ _ 0 _ _ _ h; simpa using this
  · have := cell_of_row _ _ 1 _ _ _ h; simpa using this
  · have := cell_of_row _ _ 2 _ _ _ h; simpa using this
  · have := cell_of_row _ _ 3 _ _ _ h; simpa using this
/-- Mask's blocks: the table, the set, the entropy, the neighbour, the answer. -/
theorem five_new (w : World) (A B C D E : Obj) : ∃ W, ((((w.alloc A).alloc B).alloc C).alloc D).alloc E = W ∧ Below w.heap.size w W ∧ W.heap[w.heap.size]? = some A ∧ W.heap[w.heap.size + 1]? = some B ∧ W.heap[w.heap.size + 1 + 1]? = some C ∧ W.heap[w.heap.size + 1 + 1 + 1]? = some D ∧ W.heap[w.heap.size + 1 + 1 + 1 + 1]? = some E := by
  refine ⟨_, rfl, ?_, ?_, ?_, ?_, ?_, ?_⟩
  · exact (((((Below.refl _ w).alloc (Nat.le_refl _) _).alloc (by simp) _).alloc (by simp <;> omega) _).alloc (by simp <;> omega) _).alloc (by simp <;> omega) _
  · rw [Below.heap_alloc _ _ _ (by simp <;> omega), Below.heap_alloc _ _ _ (by simp <;> omega), Below.heap_alloc _ _ _ (by simp <;> omega), Below.heap_alloc _ _ _ (by simp)]
    exact heap_alloc_last w A
  · rw [Below.heap_alloc _ _ _ (by simp <;> omega), Below.heap_alloc _ _ _ (by simp <;> omega), Below.heap_alloc _ _ _ (by simp)]
    have := heap_alloc_last (w.alloc A) B
    rwa [World.size_alloc] at this
  · rw [Below.heap_alloc _ _ _ (by simp <;> omega), Below.heap_alloc _ _ _ (by simp)]
    have := heap_alloc_last ((w.alloc A).alloc B) C
    rwa [World.size_alloc, World.size_alloc] at this
  · rw [Below.heap_alloc _ _ _ (by simp)]
    have := heap_alloc_last (((w.alloc A).alloc B).alloc C) D
    rwa [World.size_alloc, World.size_alloc, World.size_alloc] at this
  · have := heap_alloc_last ((((w.alloc A).alloc B).alloc C).alloc D) E
    rwa [World.size_alloc, World.size_alloc, World.size_alloc, World.size_alloc] at this
set_option maxRecDepth 100000 in
set_option maxHeartbeats 8000000 in
theorem tmask_any {e : Nat} (he : e < 4294967296) {es : List En} {u : Value} {w : World} (h : EnAt w u es) (ht : Wid w) (self width own s t : Int) :
    Calls Tryz.prog 8 #[tbV self width own u, .int .i64 s, .int .u32 e, .int .i64 t] w fun r w' => r = .returned (.tuple #[Bi.bs (mkN (tbB self width own (toT es)) e s t es), .int .i64 (ckT (mkOk (tbB self width own (toT es)) s t))]) ∧ Below w.heap.size w w' := by
  obtain ⟨ua, uc, rfl, hul, _, _⟩ := h.op
  obtain ⟨ln, hln⟩ : ∃ ln, es.length = ln := ⟨_, rfl⟩
  rw [hln] at h hul ⊢
  obtain ⟨W1, hW1, hb, hA, hB1, hB2, hB3, hZ⟩ := five_new w (tbO self width own (.slice ua ln uc)) (.cells #[.int .i64 s] 3) (.cells #[.int .u32 e] 24) (.cells #[.int .i64 t] 3) zO
  obtain ⟨q, hq⟩ : ∃ q, w.heap.size = q := ⟨_, rfl⟩
  rw [hq] at hA hB1 hB2 hB3 hZ
  have HE1 := hidIn (h.keep hb (Nat.le_refl _))
  have HCk := hidIn (tcheck_any (h.keep hb (Nat.le_refl _)) (ht.keep hb) self width own)
  have HB := hidIn hb
  have Hq := hidIn hq
  obtain ⟨ok, hok⟩ : ∃ ok, tbB self width own (toT es) = ok := ⟨_, rfl⟩
  rw [hok] at HCk ⊢
  have Hln := hidIn hln
  have Hok : Hid (ok = true → TbOk self width own (toT es)) := hidIn fun h => tbB_iff.1 (hok.trans h)
  obtain ⟨MN, hMN⟩ : ∃ MN, mkN ok e s t es = MN := ⟨_, rfl⟩
  obtain ⟨mo, hmo⟩ : ∃ mo, mkOk ok s t = mo := ⟨_, rfl⟩
  have HMN : Hid (MN = if mo = true then bitsN (es.filter (mkP e s t)) else 0) := hidIn (by rw [← hMN, ← hmo]; rfl)
  have Hmo : Hid (mo = (ok && ((decide (0 ≤ s) && decide (s < 128)) && (decide (1 ≤ t) && decide (t ≤ 24))))) := hidIn (by rw [← hmo]; rfl)
  rw [hMN, hmo]
  have d0 := cell_of_row _ _ 0 _ _ _ hA
  have d1 := cell_of_row _ _ 1 _ _ _ hA
  have d2 := cell_of_row _ _ 2 _ _ _ hA
  have d3 := cell_of_row _ _ 3 _ _ _ hA
  simp at d0 d1 d2 d3
  have HA := hidIn hA
  have HZ := hidIn hZ
  have Hs : Hid (W1.cell? ⟨q + 1, 0, none⟩ = some (.int .i64 s) ∧ W1.cell? ⟨q + 1 + 1, 0, none⟩ = some (.int .u32 e) ∧ W1.cell? ⟨q + 1 + 1 + 1, 0, none⟩ = some (.int .i64 t) ∧ q + 1 + 1 + 1 + 1 < W1.heap.size) := hidIn ⟨by have := cell_of_row _ _ 0 _ _ _ hB1; simpa using this, by have := cell_of_row _ _ 0 _ _ _ hB2; simpa using this, by have := cell_of_row _ _ 0 _ _ _ hB3; simpa using this, block_lt hZ⟩
  have HW := hidIn hW1
  have zt := zeroBits
  obtain ⟨p0, hp0⟩ : ∃ p, (decide (0 ≤ s) && decide (s < 128)) = p := ⟨_, rfl⟩
  obtain ⟨p1, hp1⟩ : ∃ p, (decide (1 ≤ t) && decide (t ≤ 24)) = p := ⟨_, rfl⟩
  have HS : Hid (∀ w', Calls Tryz.prog 22 #[.int .i64 s] w' fun e w'' => e = .returned (.bool p0) ∧ w'' = w') := hidIn fun w' => by rw [← hp0]; exact tisS_any s w'
  have HO : Hid (∀ w', Calls Tryz.prog 15 #[.int .i64 t] w' fun e w'' => e = .returned (.bool p1) ∧ w'' = w') := hidIn fun w' => by rw [← hp1]; exact tisR_any t w'
  rw [hp0, hp1] at Hmo
  clear hb hA hB1 hB2 hB3 hZ hok hW1 h ht hln hMN hmo hp0 hp1
  go_enter Tryz.func8, Tryz.ntmps8
  go_upto_region 1 with fail
  rw [HW.out]
  clear HW hq
  go_wp2_with fail
  refine HCk.out.mono ?_
  rintro r w2 ⟨rfl, hb2⟩
  have HB2 := hidIn hb2
  have hZ2 := (hb2.block _ (block_lt HZ.out)).trans HZ.out
  have hA2 := (hb2.block _ (block_lt HA.out)).trans HA.out
  have k0 := (hb2.cell (p := ⟨q + 1, 0, none⟩) (by have := Hs.out.2.2.2; show q + 1 < _; omega)).trans Hs.out.1
  have k1 := (hb2.cell (p := ⟨q + 1 + 1, 0, none⟩) (by have := Hs.out.2.2.2; show q + 1 + 1 < _; omega)).trans Hs.out.2.1
  have k2 := (hb2.cell (p := ⟨q + 1 + 1 + 1, 0, none⟩) (by have := Hs.out.2.2.2; show q + 1 + 1 + 1 < _; omega)).trans Hs.out.2.2.1
  have hbz := hasBs_zero hZ2
  obtain ⟨z0, z1, z2, z3, y0, y1, y2, y3, yl⟩ := hbz
  simp only [Bi.wd_zero, Int.natCast_zero] at z0 z1 z2 z3
  have HZ2 := hidIn hZ2
  have HA2 := hidIn hA2
  have hc2 := HB.out.trans (HB2.out.mono HB.out.size)
  have HBad0 : Hid (Bi.HasBs (Bi.World.putBs w2 (q + 1 + 1 + 1 + 1) 0) (q + 1 + 1 + 1 + 1) 0 ∧ Below w.heap.size w (Bi.World.putBs w2 (q + 1 + 1 + 1 + 1) 0)) := hidIn ⟨(hasBs_zero hZ2).put 0, Bi.below_put hc2 (by have := Hq.out; omega)⟩
  have Hc2 := hidIn hc2
  clear hb2 HCk d0 d1 d2 d3 hZ2 hA2 hc2
  have HBad : Hid (Bi.HasBs ((((w2.setCell ⟨q + 1 + 1 + 1 + 1, 0, none⟩ (.int .u64 0)).setCell ⟨q + 1 + 1 + 1 + 1, 1, none⟩ (.int .u64 0)).setCell ⟨q + 1 + 1 + 1 + 1, 2, none⟩ (.int .u64 0)).setCell ⟨q + 1 + 1 + 1 + 1, 3, none⟩ (.int .u64 0)) (q + 1 + 1 + 1 + 1) 0 ∧ Below w.heap.size w ((((w2.setCell ⟨q + 1 + 1 + 1 + 1, 0, none⟩ (.int .u64 0)).setCell ⟨q + 1 + 1 + 1 + 1, 1, none⟩ (.int .u64 0)).setCell ⟨q + 1 + 1 + 1 + 1, 2, none⟩ (.int .u64 0)).setCell ⟨q + 1 + 1 + 1 + 1, 3, none⟩ (.int .u64 0))) := hidIn (by
    have := HBad0.out
    simp only [Bi.World.putBs, Bi.wd_zero, Int.natCast_zero] at this
    exact this)
  clear HBad0
  cases ok
  · have HM0 : Hid (MN = 0 ∧ mo = false) := hidIn (by
      have h1 : mo = false := by rw [Hmo.out]; rfl
      exact ⟨by rw [HMN.out, h1]; rfl, h1⟩)
    go_wp2_with fail
    obtain ⟨hE1, hE2⟩ := HBad.out
    generalize (((World.setCell _ _ _).setCell _ _).setCell _ _).setCell _ _ = W9 at hE1 hE2 ⊢
    obtain ⟨r0, r1, r2, r3, _, _, _, _, _⟩ := hE1
    simp only [Bi.wd_zero, Int.natCast_zero] at r0 r1 r2 r3
    exact bodyPost_ret (v := .tuple #[.agg #[.int .u64 0, .int .u64 0, .int .u64 0, .int .u64 0], .int .i64 2]) (by simp [results, Tryz.results8, asAddr, Result.andThen, go_sem, r0, r1, r2, r3]) rfl ⟨by rw [HM0.out.1, HM0.out.2, bs_zero]; rfl, hE2⟩
  go_wp2_with fail
  refine (HS.out w2).mono ?_
  rintro r w3 ⟨rfl, hw3⟩
  rw [hw3]
  clear hw3 w3 HS
  cases p0
  · have HM0 : Hid (MN = 0 ∧ mo = false) := hidIn (by
      have h1 : mo = false := by rw [Hmo.out]; rfl
      exact ⟨by rw [HMN.out, h1]; rfl, h1⟩)
    go_wp2_with fail
    obtain ⟨hE1, hE2⟩ := HBad.out
    generalize (((World.setCell _ _ _).setCell _ _).setCell _ _).setCell _ _ = W9 at hE1 hE2 ⊢
    obtain ⟨r0, r1, r2, r3, _, _, _, _, _⟩ := hE1
    simp only [Bi.wd_zero, Int.natCast_zero] at r0 r1 r2 r3
    exact bodyPost_ret (v := .tuple #[.agg #[.int .u64 0, .int .u64 0, .int .u64 0, .int .u64 0], .int .i64 2]) (by simp [results, Tryz.results8, asAddr, Result.andThen, go_sem, r0, r1, r2, r3]) rfl ⟨by rw [HM0.out.1, HM0.out.2, bs_zero]; rfl, hE2⟩
  go_wp2_with fail
  refine (HO.out w2).mono ?_
  rintro r w3 ⟨rfl, hw3⟩
  rw [hw3]
  clear hw3 w3 HO
  cases p1
  · have HM0 : Hid (MN = 0 ∧ mo = false) := hidIn (by
      have h1 : mo = false := by rw [Hmo.out]; rfl
      exact ⟨by rw [HMN.out, h1]; rfl, h1⟩)
    go_wp2_with fail
    obtain ⟨hE1, hE2⟩ := HBad.out
    generalize (((World.setCell _ _ _).setCell _ _).setCell _ _).setCell _ _ = W9 at hE1 hE2 ⊢
    obtain ⟨r0, r1, r2, r3, _, _, _, _, _⟩ := hE1
    simp only [Bi.wd_zero, Int.natCast_zero] at r0 r1 r2 r3
    exact bodyPost_ret (v := .tuple #[.agg #[.int .u64 0, .int .u64 0, .int .u64 0, .int .u64 0], .int .i64 2]) (by simp [results, Tryz.results8, asAddr, Result.andThen, go_sem, r0, r1, r2, r3]) rfl ⟨by rw [HM0.out.1, HM0.out.2, bs_zero]; rfl, hE2⟩
  have HM1 : Hid (MN = bitsN (es.filter (mkP e s t)) ∧ mo = true) := hidIn (by
    have h1 : mo = true := by rw [Hmo.out]; rfl
    exact ⟨by rw [HMN.out, h1]; rfl, h1⟩)
  have HOk := hidIn (Hok.out (by trivial))
  obtain ⟨W3, hW3⟩ : ∃ W3, w2.alloc zO = W3 := ⟨_, rfl⟩
  have b3 : Below w2.heap.size w2 W3 := by rw [← hW3]; exact (Below.refl _ w2).alloc (Nat.le_refl _) _
  have hz3 : W3.heap[w2.heap.size]? = some zO := by rw [← hW3]; exact heap_alloc_last w2 _
  have hs3 : W3.heap.size = w2.heap.size + 1 := by rw [← hW3, World.size_alloc]
  obtain ⟨q3, hq3⟩ : ∃ q3, w2.heap.size = q3 := ⟨_, rfl⟩
  rw [hq3] at hz3 hs3
  have hA3 := (b3.block _ (block_lt HA2.out)).trans HA2.out
  have d0 := cell_of_row _ _ 0 _ _ _ hA3
  have d1 := cell_of_row _ _ 1 _ _ _ hA3
  have d2 := cell_of_row _ _ 2 _ _ _ hA3
  have d3 := cell_of_row _ _ 3 _ _ _ hA3
  simp at d0 d1 d2 d3
  have hE3 := (HE1.out.keep HB2.out (Nat.le_refl _)).keep b3 (Nat.le_refl _)
  have HTh := hidIn (thoseMk_any he hE3 (by have := HOk.out.parts.1; rw [List.length_map] at this; omega) ((b3.cell (p := ⟨q + 1, 0, none⟩) (block_lt_of_cell k0)).trans k0) ((b3.cell (p := ⟨q + 1 + 1, 0, none⟩) (block_lt_of_cell k1)).trans k1) ((b3.cell (p := ⟨q + 1 + 1 + 1, 0, none⟩) (block_lt_of_cell k2)).trans k2) self width own)
  have HZ3 := hidIn ((b3.block _ (block_lt HZ2.out)).trans HZ2.out)
  have Hm3 := hidIn hz3
  have Hqq : Hid (q + 1 + 1 + 1 + 1 < q3 ∧ q3 < W3.heap.size ∧ w.heap.size ≤ q) := hidIn ⟨by rw [← hq3]; exact block_lt HZ2.out, by omega, Nat.le_of_eq Hq.out⟩
  have Hc3 := hidIn (Hc2.out.trans (b3.mono Hc2.out.size))
  have HW3 := hidIn hW3
  have HFb : Hid (∀ x ∈ es.filter (mkP e s t), 1 ≤ x.1.2.1 ∧ x.1.2.1 ≤ 256) := hidIn fun x hx => by
    have h1 := (enB_ok.1 (HOk.out.parts.2.1 (toE x) (List.mem_map.2 ⟨x, (List.mem_filter.1 hx).1, rfl⟩))).2.1
    have h2 := HOk.out.w
    unfold IsW at h2
    show 1 ≤ x.1.2.1 ∧ x.1.2.1 ≤ 256
    have h3 : 1 ≤ x.1.2.1 ∧ x.1.2.1 ≤ width := h1
    omega
  obtain ⟨FL, hFL⟩ : ∃ FL, es.filter (mkP e s t) = FL := ⟨_, rfl⟩
  have hFn : FL.length ≤ 24 := by
    rw [← hFL]
    have h1 := HOk.out.parts.1
    rw [List.length_map] at h1
    exact Nat.le_trans (List.length_filter_le _ _) h1
  rw [hFL] at HTh HM1 HFb
  clear hFL b3 hz3 hs3 hA3 hE3 hW3 k0 k1 k2 z0 z1 z2 z3 y0 y1 y2 y3 yl HBad
  go_upto_region 4 with fail
  rw [HW3.out]
  clear HW3 hq3
  go_wp2_with fail
  refine HTh.out.mono ?_
  rintro r w5 ⟨⟨fa, fc, rfl, hrow⟩, hb5⟩
  have hm5 : Bi.HasBs w5 q3 (bitsN []) := (hasBs_zero Hm3.out).keep hb5 Hqq.out.2.1
  have hZ5 := (hb5.block _ (block_lt HZ3.out)).trans HZ3.out
  have Hc5 := hidIn (Hc3.out.trans (hb5.mono Hc3.out.size))
  have HRow := hidIn hrow
  have HM5 := hidIn hm5
  have HZ5 := hidIn hZ5
  have Hs5 : Hid (W3.heap.size ≤ w5.heap.size) := hidIn hb5.size
  obtain ⟨n, hn⟩ : ∃ n, FL.length = n := ⟨_, rfl⟩
  have Hn := hidIn hn
  rw [hn] at hFn HRow ⊢
  clear hm5 hZ5 hrow hb5 HTh hn d0 d1 d2 d3
  go_wp2_with fail
  go_loopw [31] (fun i wz => ∃ k : Nat, k ≤ n ∧ i = .int .i64 k ∧ Hid (Fr (fun j => j = q3) w5 wz ∧ Bi.HasBs wz q3 (bitsN (FL.take k)))) (fun i _ => n - (intOf i).toNat)
  case atStart => exact ⟨0, Nat.zero_le _, rfl, hidIn ⟨Fr.refl _ _, HM5.out⟩⟩
  case round =>
    clear HM5
    obtain ⟨k, hk, rfl, HI⟩ := hrel
    obtain ⟨hF, hM⟩ := HI.out
    clear HI
    by_cases hlt : k < n
    · have hki : (k : Int) < (n : Int) := by omega
      have hrz := row_fr HRow.out hF fun j hj e => by have := (HRow.out.lt j hj).1; have := Hqq.out.2.1; omega
      obtain ⟨a', c', hee, _, _, hcl⟩ := (slAt_of_row (cs := rwcs) (fun _ => rfl) hrz (by rw [List.length_map]; exact Hn.out)).rws
      obtain ⟨bk, o, h1, hbk, hcell⟩ := hcl (by rw [List.length_map]; have := Hn.out; omega)
      simp only [Value.slice.injEq] at hee
      obtain ⟨hea, hxx, hyy⟩ := hee
      rw [h1] at hea
      subst hea
      clear hxx hyy h1
      obtain ⟨x, hx⟩ : ∃ x, FL[k]? = some x := ⟨FL[k]'(by have := Hn.out; omega), List.getElem?_eq_getElem _⟩
      obtain ⟨e0, e1, e2, e3⟩ := hcell k x.1 (by rw [List.getElem?_map, hx]; rfl)
      have hxb := HFb.out x (List.mem_of_getElem? hx)
      have HTk : Hid (bitsN (FL.take (k + 1)) = bitsN (FL.take k) ||| 2 ^ (x.1.2.1 - 1).toNat) := hidIn (by rw [take_snoc hx, bitsN_snoc])
      obtain ⟨⟨x0, x1, x2, x3, x4, x5⟩, xn⟩ := x
      simp only at e0 e1 e2 e3 hxb HTk
      obtain ⟨m, rfl⟩ : ∃ m : Nat, x1 = (m : Int) + 1 := ⟨(x1 - 1).toNat, by omega⟩
      rw [show ((m : Int) + 1 - 1).toNat = m by omega] at HTk
      obtain ⟨NN, hNN⟩ : ∃ NN, bitsN (FL.take k) = NN := ⟨_, rfl⟩
      rw [hNN] at hM HTk
      obtain ⟨W6, hW6⟩ : ∃ W6, wr.alloc (enO x0 ((m : Int) + 1) x2 (.slice x3 x4 x5)) = W6 := ⟨_, rfl⟩
      have b6 : Below wr.heap.size wr W6 := by rw [← hW6]; exact (Below.refl _ wr).alloc (Nat.le_refl _) _
      have hz6 : W6.heap[wr.heap.size]? = some (enO x0 ((m : Int) + 1) x2 (.slice x3 x4 x5)) := by rw [← hW6]; exact heap_alloc_last wr _
      obtain ⟨q6, hq6⟩ : ∃ q6, wr.heap.size = q6 := ⟨_, rfl⟩
      rw [hq6] at hz6
      have hM6 := hM.keep b6 hM.lt
      have t1 := cell_of_row _ _ 1 _ _ _ hz6
      simp at t1
      have HWi := hidIn (Bi.with_yes NN m (by omega) W6)
      have HM6 := hidIn hM6
      obtain ⟨c0, c1, c2, c3, _, _, _, _, _⟩ := hM6
      have HF6 := hidIn (hF.trans (Fr.of_below b6))
      have HW6 := hidIn hW6
      clear hrz hcl hcell hx hbk hF hM hW6 b6 hz6 hNN hxb
      go_upto_region 7 with fail
      rw [HW6.out]
      clear HW6 hq6 e0 e1 e2 e3
      go_wp2_with fail
      refine HWi.out.mono ?_
      rintro r w7 ⟨rfl, hb7⟩
      have hM7 := HM6.out.keep hb7 HM6.out.lt
      have hF7 := HF6.out.trans (Fr.of_below hb7)
      have HN7 : Hid (Bi.HasBs (Bi.World.putBs w7 q3 (NN ||| 2 ^ m)) q3 (bitsN (FL.take (k + 1))) ∧ Fr (fun j => j = q3) w5 (Bi.World.putBs w7 q3 (NN ||| 2 ^ m))) := hidIn ⟨by rw [HTk.out]; exact hM7.put _, (((hF7.set (p := ⟨q3, 0, none⟩) rfl _).set (p := ⟨q3, 1, none⟩) rfl _).set (p := ⟨q3, 2, none⟩) rfl _).set (p := ⟨q3, 3, none⟩) rfl _⟩
      obtain ⟨g0, g1, g2, g3, g4, g5, g6, g7, g8⟩ := hM7
      clear hb7 hF7 HWi c0 c1 c2 c3 t1
      go_wp2_with fail
      go_roundw
      case rel => exact ⟨k + 1, by omega, by go_num, hidIn ⟨HN7.out.2, HN7.out.1⟩⟩
      case measure => simp [intOf]; omega
    · have hki : ¬ ((k : Int) < (n : Int)) := by omega
      rw [List.take_of_length_le (by have := Hn.out; omega), ← HM1.out.1] at hM
      have hq8 := Hqq.out
      have hZr := (hF.block _ (Nat.lt_of_lt_of_le (by omega : q + 1 + 1 + 1 + 1 < W3.heap.size) Hs5.out) (by show ¬ q + 1 + 1 + 1 + 1 = q3; omega)).trans HZ5.out
      have hb8 := (hasBs_zero hZr)
      have HE : Hid (Bi.HasBs (Bi.World.putBs wr (q + 1 + 1 + 1 + 1) MN) (q + 1 + 1 + 1 + 1) MN ∧ Below w.heap.size w (Bi.World.putBs wr (q + 1 + 1 + 1 + 1) MN)) := hidIn ⟨hb8.put MN, Bi.below_put (Hc5.out.trans (hF.below Hc5.out.size fun j hj => by omega)) (by omega)⟩
      obtain ⟨c0, c1, c2, c3, _, _, _, _, _⟩ := hM
      obtain ⟨g0, g1, g2, g3, g4, g5, g6, g7, g8⟩ := hb8
      clear hF hZr
      go_wp2_with fail
      obtain ⟨hE1, hE2⟩ := HE.out
      dsimp only [Bi.World.putBs] at hE1 hE2
      generalize (((World.setCell _ _ _).setCell _ _).setCell _ _).setCell _ _ = W9 at hE1 hE2 ⊢
      obtain ⟨r0, r1, r2, r3, _, _, _, _, _⟩ := hE1
      exact bodyPost_ret (v := .tuple #[Bi.bs MN, .int .i64 0]) (by simp [results, Tryz.results8, asAddr, Result.andThen, go_sem, r0, r1, r2, r3]) rfl ⟨by rw [HM1.out.2]; rfl, hE2⟩
end Go.Proofs.YtgeoghhajjlofaaGreatDoor
namespace Go.Proofs.YtgeoghhajjlofaaGreatDoor
open Go.RowKit

def nbP (s : Int) (x : En) : Bool := decide (x.1.1 = s)
abbrev nbC (B : Nat) : Array Value := #[.pointer (some ⟨B, 0, none⟩)]
abbrev nbF (B : Nat) : Value := .func (.func 24) #[] (nbC B)
theorem enter_nb (args : Array Value) (w : World) : (callFunc 24 args).run Tryz.prog w = .ok (.enter 24 args) w := by kernel_rfl
set_option maxRecDepth 100000 in
theorem nb1_any {s : Int} {B : Nat} {w : World} (h0 : w.cell? ⟨B, 0, none⟩ = some (.int .i64 s)) (x : En) :
    Calls Tryz.prog 24 (#[enV x.1] ++ nbC B) w fun r w' => r = .returned (.bool (nbP s x)) ∧ Below w.heap.size w w' := by
  obtain ⟨⟨a0, a1, a2, a3, a4, a5⟩, an⟩ := x
  have hlt0 := block_lt_of_cell h0
  simp only at hlt0
  obtain ⟨W1, hW1⟩ : ∃ W1, w.alloc (enO a0 a1 a2 (.slice a3 a4 a5)) = W1 := ⟨_, rfl⟩
  have hb : Below w.heap.size w W1 := by rw [← hW1]; exact (Below.refl _ w).alloc (Nat.le_refl _) _
  have hA : W1.heap[w.heap.size]? = some (enO a0 a1 a2 (.slice a3 a4 a5)) := by rw [← hW1]; exact heap_alloc_last w _
  obtain ⟨q, hq⟩ : ∃ q, w.heap.size = q := ⟨_, rfl⟩
  have HB := hidIn hb
  have k0 := (hb.cell (p := ⟨B, 0, none⟩) hlt0).trans h0
  rw [hq] at hA
  have t0 := cell_of_row _ _ 0 _ _ _ hA
  simp at t0
  obtain ⟨r, hr⟩ : ∃ r, nbP s (((a0, a1, a2, a3, a4, a5), an) : En) = r := ⟨_, rfl⟩
  have hr' : (a0 == s) = r := by rw [← hr]; unfold nbP; simp only; exact (Bool.beq_eq_decide_eq _ _)
  rw [hr]
  have HW := hidIn hW1
  clear hb hA hr hW1 h0 hlt0
  show Calls Tryz.prog 24 #[enV (a0, a1, a2, a3, a4, a5), .pointer (some ⟨B, 0, none⟩)] w _
  go_enter Tryz.func24, Tryz.ntmps24
  go_upto_region 1 with fail
  rw [HW.out]
  clear HW hq
  go_wp2_with fail
  go_ret
  exact ⟨rfl, HB.out⟩
theorem thoseNb_any {es : List En} {ua : Option Addr} {un uc qa : Nat} {s : Int} {w : World} (h : EnAt w (.slice ua un uc) es) (hn : es.length ≤ 100000) (k0 : w.cell? ⟨qa, 0, none⟩ = some (.int .i64 s)) (self wd own : Int) :
    Calls Tryz.prog 23 #[tbV self wd own (.slice ua un uc), nbF qa] w fun r w' => ThAns w w' (es.filter (nbP s)) r ∧ Below w.heap.size w w' :=
  those_any h hn ⟨24, nbC qa, nbP s, enter_nb, fun x _ _ hbw => nb1_any ((hbw.cell (p := ⟨qa, 0, none⟩) (block_lt_of_cell k0)).trans k0) x⟩ self wd own
/-- What Neighbours answers. -/
def nbOk13 (ok : Bool) (s : Int) : Bool := ok && (decide (0 ≤ s) && decide (s < 128))
def nbL (e : Nat) (s : Int) (es : List En) : List Int := (es.filter (nbP s)).map fun x => chN e x.2
def NbAns (w w' : World) (ok : Bool) (L : List Int) (r : Ending) : Prop := (ok = false ∧ r = .returned (.tuple #[.slice none 0 0, .int .i64 2])) ∨
  (ok = true ∧ ∃ a c, r = .returned (.tuple #[.slice a (rsL L).length c, .int .i64 0]) ∧ w'.ownsRow w.heap.size 3 1 (.slice a (rsL L).length c) (rsL L).length (fl ic (rsL L)))
set_option maxRecDepth 100000 in
set_option maxHeartbeats 8000000 in
theorem tnb_any {e : Nat} (he : e < 4294967296) {es : List En} {u : Value} {w : World} (h : EnAt w u es) (ht : Wid w) (self width own s : Int) :
    Calls Tryz.prog 7 #[tbV self width own u, .int .i64 s, .int .u32 e] w fun r w' => NbAns w w' (nbOk13 (tbB self width own (toT es)) s) (nbL e s es) r ∧ Below w.heap.size w w' := by
  obtain ⟨ua, uc, rfl, hul, _, _⟩ := h.op
  obtain ⟨ln, hln⟩ : ∃ ln, es.length = ln := ⟨_, rfl⟩
  rw [hln] at h hul ⊢
  obtain ⟨W1, hW1⟩ : ∃ W1, (w.alloc (tbO self width own (.slice ua ln uc))).alloc (.cells #[.int .i64 s] 3) = W1 := ⟨_, rfl⟩
  have hb : Below w.heap.size w W1 := by rw [← hW1]; exact ((Below.refl _ w).alloc (Nat.le_refl _) _).alloc (by simp) _
  have hA : W1.heap[w.heap.size]? = some (tbO self width own (.slice ua ln uc)) := by rw [← hW1, Below.heap_alloc _ _ _ (by simp)]; exact heap_alloc_last w _
  have hB1 : W1.heap[w.heap.size + 1]? = some (.cells #[.int .i64 s] 3) := by
    rw [← hW1]
    have := heap_alloc_last (w.alloc (tbO self width own (.slice ua ln uc))) (.cells #[.int .i64 s] 3)
    rwa [World.size_alloc] at this
  obtain ⟨q, hq⟩ : ∃ q, w.heap.size = q := ⟨_, rfl⟩
  rw [hq] at hA hB1
  have HE1 := hidIn (h.keep hb (Nat.le_refl _))
  have HCk := hidIn (tcheck_any (h.keep hb (Nat.le_refl _)) (ht.keep hb) self width own)
  have HB := hidIn hb
  obtain ⟨ok, hok⟩ : ∃ ok, tbB self width own (toT es) = ok := ⟨_, rfl⟩
  rw [hok] at HCk ⊢
  have Hln := hidIn hln
  have Hok : Hid (ok = true → TbOk self width own (toT es)) := hidIn fun h => tbB_iff.1 (hok.trans h)
  obtain ⟨mo, hmo⟩ : ∃ mo, nbOk13 ok s = mo := ⟨_, rfl⟩
  have Hmo : Hid (mo = (ok && (decide (0 ≤ s) && decide (s < 128)))) := hidIn (by rw [← hmo]; rfl)
  rw [hmo]
  have d0 := cell_of_row _ _ 0 _ _ _ hA
  have d1 := cell_of_row _ _ 1 _ _ _ hA
  have d2 := cell_of_row _ _ 2 _ _ _ hA
  have d3 := cell_of_row _ _ 3 _ _ _ hA
  have ds := cell_of_row _ _ 0 _ _ _ hB1
  simp at d0 d1 d2 d3 ds
  have HA := hidIn hA
  have Hds := hidIn ds
  have HW := hidIn hW1
  obtain ⟨p0, hp0⟩ : ∃ p, (decide (0 ≤ s) && decide (s < 128)) = p := ⟨_, rfl⟩
  have HS : Hid (∀ w', Calls Tryz.prog 22 #[.int .i64 s] w' fun e w'' => e = .returned (.bool p0) ∧ w'' = w') := hidIn fun w' => by rw [← hp0]; exact tisS_any s w'
  rw [hp0] at Hmo
  clear hb hA hB1 hok hW1 h ht hln hmo hp0
  go_enter Tryz.func7, Tryz.ntmps7
  go_upto_region 1 with fail
  rw [HW.out]
  clear HW hq
  go_wp2_with fail
  refine HCk.out.mono ?_
  rintro r w2 ⟨rfl, hb2⟩
  have HB2 := hidIn hb2
  have hA2 := (hb2.block _ (block_lt HA.out)).trans HA.out
  have k0 := (hb2.cell (p := ⟨q + 1, 0, none⟩) (block_lt_of_cell Hds.out)).trans Hds.out
  have Hc2 := hidIn (HB.out.trans (HB2.out.mono HB.out.size))
  clear hb2 HCk d0 d1 d2 d3 ds Hds
  cases ok
  · have HM0 : Hid (mo = false) := hidIn (by rw [Hmo.out]; rfl)
    go_wp2_with fail
    go_ret2
    exact ⟨.inl ⟨HM0.out, rfl⟩, Hc2.out⟩
  go_wp2_with fail
  refine (HS.out w2).mono ?_
  rintro r w3 ⟨rfl, hw3⟩
  rw [hw3]
  clear hw3 w3 HS
  cases p0
  · have HM0 : Hid (mo = false) := hidIn (by rw [Hmo.out]; rfl)
    go_wp2_with fail
    go_ret2
    exact ⟨.inl ⟨HM0.out, rfl⟩, Hc2.out⟩
  have HM1 : Hid (mo = true) := hidIn (by rw [Hmo.out]; rfl)
  have HOk := hidIn (Hok.out (by trivial))
  have d0 := cell_of_row _ _ 0 _ _ _ hA2
  have d1 := cell_of_row _ _ 1 _ _ _ hA2
  have d2 := cell_of_row _ _ 2 _ _ _ hA2
  have d3 := cell_of_row _ _ 3 _ _ _ hA2
  simp at d0 d1 d2 d3
  have hE2 := HE1.out.keep HB2.out (Nat.le_refl _)
  have HTh := hidIn (thoseNb_any hE2 (by have := HOk.out.parts.1; rw [List.length_map] at this; omega) k0 self width own)
  obtain ⟨FL, hFL⟩ : ∃ FL, es.filter (nbP s) = FL := ⟨_, rfl⟩
  have hFn : FL.length ≤ 24 := by
    rw [← hFL]
    have h1 := HOk.out.parts.1
    rw [List.length_map] at h1
    exact Nat.le_trans (List.length_filter_le _ _) h1
  have HFm : Hid (∀ x ∈ FL, SlAt ic 1 w2 (rwS x.1) x.2) := hidIn fun x hx => hE2.n x (by rw [← hFL] at hx; exact (List.mem_filter.1 hx).1)
  have HLs : Hid (nbL e s es = FL.map fun x => chN e x.2) := hidIn (by unfold nbL; rw [hFL])
  obtain ⟨LL, hLL⟩ : ∃ LL, nbL e s es = LL := ⟨_, rfl⟩
  rw [hLL] at HLs
  rw [hFL] at HTh
  have HLL := hidIn hLL
  clear hFL hA2 hE2 k0 hLL
  go_wp2_with fail
  refine HTh.out.mono ?_
  rintro r w5 ⟨⟨fa, fc, rfl, hrow⟩, hb5⟩
  have HRow := hidIn hrow
  have HB5 := hidIn hb5
  have Hc5 := hidIn (Hc2.out.trans (hb5.mono Hc2.out.size))
  obtain ⟨n, hn⟩ : ∃ n, FL.length = n := ⟨_, rfl⟩
  have Hn := hidIn hn
  rw [hn] at hFn HRow ⊢
  clear hrow hb5 HTh hn d0 d1 d2 d3
  go_wp2_with fail
  go_loopw [8, 23] (fun ov i wz => ∃ (k : Nat) (oa : Option Addr) (oc : Nat), k ≤ n ∧ i = .int .i64 k ∧ ov = .slice oa k oc ∧ Hid (Below w5.heap.size w5 wz ∧ wz.ownsRow w5.heap.size 3 1 (.slice oa k oc) k (fl ic ((FL.take k).map fun x => chN e x.2)))) (fun _ i _ => n - (intOf i).toNat)
  case atStart => exact ⟨0, none, 0, Nat.zero_le _, rfl, rfl, hidIn ⟨Below.refl _ _, World.ownsRow_nil _ _ _ _⟩⟩
  case round =>
    obtain ⟨k, oa, oc, hk, rfl, rfl, HI⟩ := hrel
    obtain ⟨hbz, hoz⟩ := HI.out
    clear HI
    by_cases hlt : k < n
    · have hki : (k : Int) < (n : Int) := by omega
      obtain ⟨a', c', hee, _, _, hcl⟩ := (slAt_of_row (cs := rwcs) (fun _ => rfl) (row_below HRow.out hbz (Nat.le_refl _)) (by rw [List.length_map]; exact Hn.out)).rws
      obtain ⟨bk, o, h1, hbk, hcell⟩ := hcl (by rw [List.length_map]; have := Hn.out; omega)
      simp only [Value.slice.injEq] at hee
      obtain ⟨hea, hxx, hyy⟩ := hee
      rw [h1] at hea
      subst hea
      clear hxx hyy h1
      obtain ⟨x, hx⟩ : ∃ x, FL[k]? = some x := ⟨FL[k]'(by have := Hn.out; omega), List.getElem?_eq_getElem _⟩
      obtain ⟨e0, e1, e2, e3⟩ := hcell k x.1 (by rw [List.getElem?_map, hx]; rfl)
      have hxs := HFm.out x (List.mem_of_getElem? hx)
      obtain ⟨W6, hW6⟩ : ∃ W6, wr.alloc (enO x.1.1 x.1.2.1 x.1.2.2.1 (rwS x.1)) = W6 := ⟨_, rfl⟩
      have b6 : Below wr.heap.size wr W6 := by rw [← hW6]; exact (Below.refl _ wr).alloc (Nat.le_refl _) _
      have hz6 : W6.heap[wr.heap.size]? = some (enO x.1.1 x.1.2.1 x.1.2.2.1 (rwS x.1)) := by rw [← hW6]; exact heap_alloc_last wr _
      have c6 := hbz.trans (b6.mono hbz.size)
      have HTk := hidIn (taken_any he ((hxs.keep HB5.out (Nat.le_refl _)).keep c6 (Nat.le_refl _)))
      have HTs : Hid (((FL.take (k + 1)).map fun x => chN e x.2) = ((FL.take k).map fun x => chN e x.2) ++ [chN e x.2]) := hidIn (by rw [take_snoc hx, List.map_append]; rfl)
      obtain ⟨⟨x0, x1, x2, x3, x4, x5⟩, xn⟩ := x
      simp only at e0 e1 e2 e3 hW6 hz6 HTk HTs
      obtain ⟨c, hc⟩ : ∃ c, chN e xn = c := ⟨_, rfl⟩
      rw [hc] at HTk HTs
      obtain ⟨q6, hq6⟩ : ∃ q6, wr.heap.size = q6 := ⟨_, rfl⟩
      rw [hq6] at hz6
      have t0 := cell_of_row _ _ 0 _ _ _ hz6
      have t1 := cell_of_row _ _ 1 _ _ _ hz6
      have t2 := cell_of_row _ _ 2 _ _ _ hz6
      have t3 := cell_of_row _ _ 3 _ _ _ hz6
      simp at t0 t1 t2 t3
      have Ho6 := hidIn (row_below hoz b6 (Nat.le_refl _))
      have H6 := hidIn c6
      have HW6 := hidIn hW6
      clear hcl hcell hx hxs hbk hbz hoz hW6 b6 hz6 c6 hc
      go_upto_region 7 with fail
      rw [HW6.out]
      clear HW6 hq6 e0 e1 e2 e3
      go_wp2_with fail
      refine HTk.out.mono ?_
      rintro r w7 ⟨rfl, hb7⟩
      have c7 := H6.out.trans (hb7.mono H6.out.size)
      obtain ⟨g9, gc9, w9, hrun, hown, _, _, hb9⟩ := append_int (row_below Ho6.out hb7 (Nat.le_refl _)) c (by omega) c7.size
      have HRun := hidIn hrun
      have HO : Hid (Below w5.heap.size w5 w9 ∧ w9.ownsRow w5.heap.size 3 1 (.slice (some ⟨g9, 0, none⟩) (k + 1) gc9) (k + 1) (fl ic ((FL.take (k + 1)).map fun x => chN e x.2))) := hidIn (by rw [HTs.out]; exact ⟨c7.trans hb9, hown⟩)
      clear hb7 c7 hrun hown hb9 HTk t0 t1 t2 t3
      go_wp2_with (refine l_append rfl _ _ 39 rfl HRun.out ?_)
      go_roundw
      case rel => exact ⟨k + 1, _, gc9, by omega, by go_num, rfl, HO⟩
      case measure => simp [intOf]; omega
    · have hki : ¬ ((k : Int) < (n : Int)) := by omega
      have hkn : k = n := by omega
      subst hkn
      rw [List.take_of_length_le (by have := Hn.out; omega), ← HLs.out] at hoz
      have hlk : LL.length = k := by rw [HLs.out, List.length_map]; exact Hn.out
      have Hcz := hidIn (Hc5.out.trans (hbz.mono Hc5.out.size))
      have hB5 : w.heap.size ≤ w5.heap.size := Hc5.out.size
      have hrow2 := row_low hoz hB5
      obtain ⟨jj, hjj⟩ : ∃ jj, rsL LL = jj := ⟨_, rfl⟩
      have HJ : Hid (jj = Lib.compact (LL.mergeSort fun x y => decide (x ≤ y))) := hidIn (by rw [← hjj]; rfl)
      have HAns : Hid (∀ w9 a c, w9.ownsRow w.heap.size 3 1 (.slice a jj.length c) jj.length (fl ic jj) → NbAns w w9 mo (nbL e s es) (.returned (.tuple #[.slice a jj.length c, .int .i64 0]))) := hidIn fun w9 a c h9 => .inr ⟨HM1.out, a, c, by rw [HLL.out, hjj], by rw [HLL.out, hjj]; exact h9⟩
      clear hjj hoz hbz hB5
      subst hlk
      rcases hrow2.2 with ⟨h1, h0⟩ | ⟨g, cap', cur, hu, hg, hh, h1, h2, h3, h4⟩
      · have hl0 : LL = [] := List.length_eq_zero_iff.1 h0
        simp at h1
        obtain ⟨rfl, h1b, rfl⟩ := h1
        have HJ0 : Hid (jj = []) := hidIn (by rw [HJ.out, hl0]; simp [Lib.compact, Lib.compactUpTo])
        have HS := hidIn (Tryz.slices_Sort_int_none none 0 wr)
        have HCp := hidIn (Tryz.slices_Compact_int_empty none 0 wr)
        have HA0 := hidIn (HAns.out wr none 0 (by rw [HJ0.out]; exact World.ownsRow_nil _ _ _ _))
        rw [HJ0.out] at HA0
        rw [h0]
        clear h0 hrow2 hl0 h1b HAns
        go_wp2_with fail
        refine HS.out.mono ?_
        rintro r w3 ⟨rfl, hw3⟩
        rw [hw3]
        clear hw3 w3 HS
        go_wp2_with fail
        refine HCp.out.mono ?_
        rintro r w3 ⟨rfl, hw3⟩
        rw [hw3]
        clear hw3 w3 HCp
        go_wp2_with fail
        go_ret2
        exact ⟨HA0.out, Hcz.out⟩
      · simp at hu
        obtain ⟨rfl, rfl⟩ := hu
        obtain ⟨ts, hts⟩ : ∃ ts, (LL.mergeSort fun x y => decide (x ≤ y)) = ts := ⟨_, rfl⟩
        have htl : ts.length = LL.length := by rw [← hts, List.length_mergeSort]
        have htake : cur.toList.take LL.length = LL.map (Value.int .i64) := by rw [Nat.mul_one, cints_map] at h4; exact h4
        have hS := Tryz.slices_Sort_int g 0 oc LL wr (holds_of_blockI hh htake) (block_lt hh) (by omega)
        rw [hts] at hS HJ
        have HS := hidIn hS
        have HT : Hid (∀ n os, (Sort.grow (Sort.putRow (Value.int .i64) (Sort.ahead wr n) g 0 ts.toArray) os).ownsRow w.heap.size 3 1 (.slice (some ⟨g, 0, none⟩) LL.length oc) LL.length (ts.map (Value.int .i64)) ∧ Below w.heap.size w (Sort.grow (Sort.putRow (Value.int .i64) (Sort.ahead wr n) g 0 ts.toArray) os)) := hidIn fun n os => ⟨ownsRow_sortedI htl hg hh h1 h2 h3, Hcz.out.grown (grownBy_sortedI _) Hcz.out.size (fun k hk => by cases hk; exact hg)⟩
        clear hS hts hrow2
        go_wp2_with fail
        refine HS.out.mono ?_
        rintro r w3 ⟨rfl, n, os, hw3⟩
        have h3' := HT.out n os
        rw [← hw3] at h3'
        obtain ⟨hrow3, hb3⟩ := h3'
        clear hw3 HS HT
        rw [← htl] at hrow3 ⊢
        have hcap3 : ts.length ≤ oc := by omega
        obtain ⟨cur3, hh3, ht3⟩ : ∃ cur3, w3.heap[g]? = some (.cells cur3 3 (0, 0)) ∧ cur3.toList.take ts.length = ts.map (Value.int .i64) := by
          rcases hrow3.2 with ⟨h, _⟩ | ⟨g', cap', cur3, h, _, hh3, _, _, _, h5⟩
          · simp at h
          · simp at h
            obtain ⟨rfl, _⟩ := h
            exact ⟨cur3, hh3, by rw [Nat.mul_one] at h5; exact h5⟩
        have HCp := hidIn (Tryz.slices_Compact_int g 0 oc ts w3 (holds_of_blockI hh3 ht3) (by omega) hcap3)
        have hcl := ccompact_len ts
        have HR3 : Hid (∀ q, (Sort.putRow (Value.int .i64) (Sort.ahead w3 q) g 0 (Lib.compact ts ++ List.replicate (ts.length - (Lib.compact ts).length) 0).toArray).ownsRow w.heap.size 3 1 (.slice (some ⟨g, 0, none⟩) (Lib.compact ts).length oc) (Lib.compact ts).length (fl ic (Lib.compact ts)) ∧ Below w.heap.size w (Sort.putRow (Value.int .i64) (Sort.ahead w3 q) g 0 (Lib.compact ts ++ List.replicate (ts.length - (Lib.compact ts).length) 0).toArray)) := hidIn fun q => by
          refine ⟨?_, Lib.below_putRow hb3 hg⟩
          have := Lib.ownsRow_putRow (q := q) (k := (Lib.compact ts).length) (ys := Lib.compact ts ++ List.replicate (ts.length - (Lib.compact ts).length) 0) hrow3 (by simp; omega) hcl
          rw [List.take_left] at this
          rw [cints_map]
          exact this
        clear hrow3 hb3 hh3 ht3 htl hcl
        go_wp2_with fail
        refine HCp.out.mono ?_
        rintro r w4 ⟨rfl, q, hw4⟩
        have h4' := HR3.out q
        rw [← hw4] at h4'
        have H4 := hidIn h4'
        clear hw4 HR3 HCp h4'
        have HA1 := hidIn (HAns.out w4 (some ⟨g, 0, none⟩) oc (by rw [HJ.out]; exact H4.out.1))
        rw [HJ.out] at HA1
        clear HAns
        go_wp2_with fail
        go_ret2
        exact ⟨HA1.out, H4.out.2⟩
end Go.Proofs.YtgeoghhajjlofaaGreatDoor
namespace Go.Proofs.YtgeoghhajjlofaaGreatDoor

theorem bitsN_test : ∀ (L : List En) (N j : Nat), (L.foldl (fun N x => N ||| 2 ^ (x.1.2.1 - 1).toNat) N).testBit j = (N.testBit j || L.any fun x => decide ((x.1.2.1 - 1).toNat = j))
  | [], N, j => by simp
  | x :: L, N, j => by
    rw [List.foldl_cons, bitsN_test L, List.any_cons, Nat.testBit_or, Nat.testBit_two_pow, Bool.or_assoc]
theorem bitsN_bit (L : List En) (j : Nat) : (bitsN L).testBit j = L.any fun x => decide ((x.1.2.1 - 1).toNat = j) := by
  unfold bitsN
  rw [bitsN_test, Nat.zero_testBit, Bool.false_or]
theorem bitsN_lt {L : List En} (h : ∀ x ∈ L, 1 ≤ x.1.2.1 ∧ x.1.2.1 ≤ 256) : bitsN L < 2 ^ 256 := by
  refine Nat.lt_pow_two_of_testBit _ fun j hj => ?_
  rw [bitsN_bit, List.any_eq_false]
  intro x hx
  have := h x hx
  simp only [decide_eq_true_eq]
  omega
theorem bitsN_nil {L : List En} (h : bitsN L = 0) : L = [] := by
  cases L with
  | nil => rfl
  | cons x L =>
    have h1 := bitsN_bit (x :: L) (x.1.2.1 - 1).toNat
    rw [h, Nat.zero_testBit, List.any_cons] at h1
    simp at h1
/-- The entries of a set whose neighbour is at most k. -/
def upTo13 (e : Nat) (s : Int) (k : Nat) (x : En) : Bool := decide (x.1.1 = s) && (decide (1 ≤ chN e x.2) && decide (chN e x.2 ≤ (k : Int)))
/-- No two entries have one place. -/
def UnlP (es : List En) : Prop := ∀ x ∈ es, ∀ y ∈ es, x.1.1 = y.1.1 → x.1.2.1 = y.1.2.1 → x = y
theorem unl_of : ∀ {es : List En}, (toT es).Pairwise (fun x y => x.1 < y.1 ∨ (x.1 = y.1 ∧ x.2.1 < y.2.1)) → UnlP es
  | [], _ => fun x hx => absurd hx List.not_mem_nil
  | z :: es, h => fun x hx y hy e1 e2 => by
    rw [toT, List.map_cons, List.pairwise_cons] at h
    have ih := unl_of h.2
    rcases List.mem_cons.1 hx with rfl | hx1
    · rcases List.mem_cons.1 hy with rfl | hy1
      · rfl
      · have := h.1 _ (List.mem_map.2 ⟨y, hy1, rfl⟩)
        simp only at this
        omega
    · rcases List.mem_cons.1 hy with rfl | hy1
      · have := h.1 _ (List.mem_map.2 ⟨x, hx1, rfl⟩)
        simp only at this
        omega
      · exact ih x hx1 y hy1 e1 e2
theorem mask_more (e : Nat) (s : Int) (k : Nat) (es : List En) : bitsN (es.filter (upTo13 e s (k + 1))) = bitsN (es.filter (upTo13 e s k)) ||| bitsN (es.filter (mkP e s ((k : Int) + 1))) := by
  apply Nat.eq_of_testBit_eq
  intro j
  rw [Nat.testBit_or, bitsN_bit, bitsN_bit, bitsN_bit, Bool.eq_iff_iff]
  simp only [List.any_eq_true, List.mem_filter, upTo13, mkP, Bool.and_eq_true, decide_eq_true_eq, Bool.or_eq_true]
  constructor
  · rintro ⟨x, ⟨hx, h1, h2, h3⟩, h4⟩
    by_cases hc : chN e x.2 = (k : Int) + 1
    · exact .inr ⟨x, ⟨hx, h1, hc⟩, h4⟩
    · exact .inl ⟨x, ⟨hx, h1, h2, by omega⟩, h4⟩
  · rintro (⟨x, ⟨hx, h1, h2, h3⟩, h4⟩ | ⟨x, ⟨hx, h1, h2⟩, h4⟩)
    · exact ⟨x, ⟨hx, h1, h2, by omega⟩, h4⟩
    · exact ⟨x, ⟨hx, h1, by omega, by omega⟩, h4⟩
theorem mask_apart {e : Nat} {s : Int} {k : Nat} {es : List En} (hu : UnlP es) (hb : ∀ x ∈ es, 1 ≤ x.1.2.1) : bitsN (es.filter (upTo13 e s k)) &&& bitsN (es.filter (mkP e s ((k : Int) + 1))) = 0 := by
  apply Nat.eq_of_testBit_eq
  intro j
  rw [Nat.testBit_and, bitsN_bit, bitsN_bit, Nat.zero_testBit, Bool.eq_false_iff]
  intro h
  simp only [List.any_eq_true, List.mem_filter, upTo13, mkP, Bool.and_eq_true, decide_eq_true_eq] at h
  obtain ⟨⟨x, ⟨hx, h1, h2, h3⟩, h4⟩, y, ⟨hy, g1, g2⟩, g4⟩ := h
  have hx1 := hb x hx
  have hy1 := hb y hy
  have := hu x hx y hy (by omega) (by omega)
  subst this
  omega
/-- Neighbours told so far, of a rising list. -/
def upL (k : Nat) (l : List Int) : Nat := (l.filter fun n => decide (n ≤ (k : Int))).length
theorem upL_no {k : Nat} {l : List Int} (h : ((k : Int) + 1) ∉ l) : upL (k + 1) l = upL k l := by
  unfold upL
  congr 1
  refine List.filter_congr fun n hn => ?_
  rw [decide_eq_decide]
  have : n ≠ (k : Int) + 1 := fun e => h (e ▸ hn)
  omega
theorem upL_yes : ∀ {k : Nat} {l : List Int}, l.Pairwise (fun a b => a < b) → ((k : Int) + 1) ∈ l → l[upL k l]? = some ((k : Int) + 1) ∧ upL (k + 1) l = upL k l + 1
  | k, [], _, h => by cases h
  | k, x :: l, hp, h => by
    rw [List.pairwise_cons] at hp
    rcases List.mem_cons.1 h with h1 | h1
    · have hn : ∀ y ∈ l, ¬ y ≤ (k : Int) := fun y hy => by have := hp.1 y hy; omega
      have hn2 : ∀ y ∈ l, ¬ y ≤ ((k + 1 : Nat) : Int) := fun y hy => by have := hp.1 y hy; omega
      have e0 : (l.filter fun n => decide (n ≤ (k : Int))) = [] := List.filter_eq_nil_iff.2 fun y hy => by simpa using hn y hy
      have e1 : (l.filter fun n => decide (n ≤ ((k + 1 : Nat) : Int))) = [] := List.filter_eq_nil_iff.2 fun y hy => by simpa using hn2 y hy
      unfold upL
      rw [List.filter_cons, List.filter_cons, e0, e1, if_neg (by simp; omega), if_pos (by simp; omega)]
      simp [← h1]
    · have ih := upL_yes hp.2 h1
      have hx := hp.1 _ h1
      have hu : upL k (x :: l) = upL k l + 1 := by unfold upL; rw [List.filter_cons, if_pos (by simp; omega)]; rfl
      have hu2 : upL (k + 1) (x :: l) = upL (k + 1) l + 1 := by unfold upL; rw [List.filter_cons, if_pos (by simp; omega)]; rfl
      rw [hu, hu2, List.getElem?_cons_succ]
      exact ⟨ih.1, by rw [ih.2]⟩
theorem upL_none {l : List Int} (h : ∀ n ∈ l, 1 ≤ n) : upL 0 l = 0 := by
  unfold upL
  rw [List.filter_eq_nil_iff.2 fun n hn => by have := h n hn; simp; omega]
  rfl
theorem upL_all {k : Nat} {l : List Int} (h : ∀ n ∈ l, n ≤ (k : Int)) : upL k l = l.length := by
  unfold upL
  rw [List.filter_eq_self.2 fun n hn => by simpa using h n hn]
/-- A neighbour is told where its mask is not empty. -/
theorem near_iff {e : Nat} {s : Int} {es : List En} {n : Int} : n ∈ rsL (nbL e s es) ↔ bitsN (es.filter (mkP e s n)) ≠ 0 := by
  rw [(rsL_ok _).2]
  unfold nbL
  rw [List.mem_map]
  constructor
  · rintro ⟨x, hx, rfl⟩ h0
    obtain ⟨h1, h2⟩ := List.mem_filter.1 hx
    have h3 := bitsN_nil h0
    have h4 : x ∈ es.filter (mkP e s (chN e x.2)) := List.mem_filter.2 ⟨h1, by unfold mkP nbP at *; rw [h2, decide_eq_true rfl]; rfl⟩
    rw [h3] at h4
    cases h4
  · intro h0
    cases hL : es.filter (mkP e s n) with
    | nil => rw [hL] at h0; exact absurd rfl h0
    | cons x L =>
      have hx : x ∈ es.filter (mkP e s n) := by rw [hL]; simp
      obtain ⟨h1, h2⟩ := List.mem_filter.1 hx
      unfold mkP at h2
      simp only [Bool.and_eq_true, decide_eq_true_eq] at h2
      exact ⟨x, List.mem_filter.2 ⟨h1, by unfold nbP; rw [decide_eq_true h2.1]⟩, h2.2⟩
/-- The bits that are left, one entry after the other. -/
def leftN (s : Int) (es : List En) (i : Nat) : Nat := bitsN ((es.drop i).filter (nbP s))
theorem left_none (s : Int) (es : List En) : leftN s es es.length = 0 := by unfold leftN; rw [List.drop_length]; rfl
theorem left_other {s : Int} {es : List En} {i : Nat} {x : En} (hx : es[i]? = some x) (hs : x.1.1 ≠ s) : leftN s es (i + 1) = leftN s es i := by
  unfold leftN
  rw [drop_next hx, List.filter_cons, if_neg (by unfold nbP; simpa using hs)]
theorem left_this {s : Int} {es : List En} {i : Nat} {x : En} (hu : UnlP es) (hb : ∀ x ∈ es, 1 ≤ x.1.2.1) (hn : es.Nodup) (hx : es[i]? = some x) (hs : x.1.1 = s) : (leftN s es i).testBit (x.1.2.1 - 1).toNat = true ∧ leftN s es (i + 1) = Bi.wo (leftN s es i) (2 ^ (x.1.2.1 - 1).toNat) := by
  have hd := drop_next hx
  have hxm := List.mem_of_getElem? hx
  have hnx : x ∉ es.drop (i + 1) := by
    have h1 : (es.drop i).Nodup := hn.sublist (List.drop_sublist _ _)
    rw [hd, List.nodup_cons] at h1
    exact h1.1
  constructor
  · unfold leftN
    rw [bitsN_bit, hd, List.filter_cons, if_pos (by unfold nbP; simpa using hs), List.any_cons]
    simp
  · apply Nat.eq_of_testBit_eq
    intro j
    rw [Bi.testBit_wo, Nat.testBit_two_pow]
    unfold leftN
    rw [bitsN_bit, bitsN_bit, hd, List.filter_cons, if_pos (by unfold nbP; simpa using hs), List.any_cons]
    by_cases hj : (x.1.2.1 - 1).toNat = j
    · rw [decide_eq_true hj, Bool.not_true, Bool.and_false, List.any_eq_false]
      intro y hy
      obtain ⟨h1, h2⟩ := List.mem_filter.1 hy
      unfold nbP at h2
      rw [decide_eq_true_eq] at h2
      have hym := List.mem_of_mem_drop h1
      have b1 := hb x hxm
      have b2 := hb y hym
      rw [decide_eq_true_eq]
      intro e
      have := hu y hym x hxm (by omega) (by omega)
      rw [this] at h1
      exact hnx h1
    · rw [decide_eq_false hj, Bool.not_false, Bool.and_true, Bool.false_or]
end Go.Proofs.YtgeoghhajjlofaaGreatDoor
namespace Go.Proofs.YtgeoghhajjlofaaGreatDoor
open Go.RowKit

theorem EsAt.fr {B q : Nat} {w w' : World} {u : Value} {T : List Et} (h : EsAt B w u T) (hF : Fr (fun j => j = q) w w') (hq : q < B) : EsAt B w' u T := by
  obtain ⟨es, h1, ⟨C, hC, h2⟩, h3⟩ := h
  refine ⟨es, h1, ⟨C, hC, row_fr h2 hF fun j hj e => by have := (h2.lt j hj).1; omega⟩, fun x hx => ?_⟩
  obtain ⟨C', hC', h4⟩ := h3 x hx
  exact ⟨C', hC', row_fr h4 hF fun j hj e => by have := (h4.lt j hj).1; omega⟩
theorem ans8 {w w' : World} {l : List (Rc × Value)} {self : Int} {e : Ending} (h : BldAns w w' l self 8 e) (hl : bothOk no1 (rcs l) = true) :
    ∃ W a n c, WaysIs l self W ∧ e = .returned (.tuple #[tbV self 8 (oT self W (rcs l)) (.slice a n c), .int .i64 0]) ∧ EsAt w.heap.size w' (.slice a n c) (eT self 8 W (rcs l)) := by
  obtain ⟨W, u, h1, h2, h3⟩ := h.told hl
  rw [show ((8 : Nat) : Int) = 8 from rfl] at h2
  obtain ⟨es, h4, h5⟩ := h3.at
  obtain ⟨a, c, rfl, _⟩ := h5.op
  exact ⟨W, a, _, c, h1, h2, h3⟩
/-- The table that the law built, in its block. -/
def PtM (W1 wx : World) (self : Int) (rs : List Rc) (qt : Nat) : Prop := ∃ (l : List (Rc × Value)) (W : List Rr) (es : List En) (a : Option Addr) (c : Nat), rcs l = rs ∧ WaysIs l self W ∧ wx.heap[qt]? = some (tbO self 8 (oT self W rs) (.slice a es.length c)) ∧ EnAt wx (.slice a es.length c) es ∧ toT es = eT self 8 W rs ∧ Below W1.heap.size W1 wx
theorem ptM_of {W1 w3 w4 : World} {self : Int} {rs : List Rc} {qt B : Nat} {l : List (Rc × Value)} {W : List Rr} {a : Option Addr} {n c : Nat} (hl : rcs l = rs) (hW : WaysIs l self W) (hE : EsAt B w3 (.slice a n c) (eT self 8 W (rcs l))) {c0 c1 c2 c3 : Value} (hz : w3.heap[qt]? = some (.cells #[c0, c1, c2, c3] 29)) (hq : qt < B ∨ w3.heap.size ≤ w3.heap.size ∧ (∀ es : List En, EnAt w3 (.slice a n c) es → EnAt (((( w3.setCell ⟨qt, 0, none⟩ (.int .i64 self)).setCell ⟨qt, 1, none⟩ (.int .i64 8)).setCell ⟨qt, 2, none⟩ (.int .i64 (oT self W (rcs l)))).setCell ⟨qt, 3, none⟩ (.slice a n c)) (.slice a n c) es)) (hb : Below W1.heap.size W1 w3) (hqs : W1.heap.size ≤ qt)
    (h4 : w4 = (((w3.setCell ⟨qt, 0, none⟩ (.int .i64 self)).setCell ⟨qt, 1, none⟩ (.int .i64 8)).setCell ⟨qt, 2, none⟩ (.int .i64 (oT self W (rcs l)))).setCell ⟨qt, 3, none⟩ (.slice a n c)) : PtM W1 w4 self rs qt := by
  have hF := ((((Fr.refl (fun j => j = qt) w3).set (p := ⟨qt, 0, none⟩) rfl (.int .i64 self)).set (p := ⟨qt, 1, none⟩) rfl (.int .i64 8)).set (p := ⟨qt, 2, none⟩) rfl (.int .i64 (oT self W (rcs l)))).set (p := ⟨qt, 3, none⟩) rfl (.slice a n c)
  have hz4 := set4 (.int .i64 self) (.int .i64 8) (.int .i64 (oT self W (rcs l))) (.slice a n c) hz
  rw [← h4] at hF hz4
  obtain ⟨es, h5, h6⟩ : ∃ es : List En, toT es = eT self 8 W (rcs l) ∧ EnAt w4 (.slice a n c) es := by
    rcases hq with hq | ⟨_, hq⟩
    · exact (hE.fr hF hq).at
    · obtain ⟨es, h5, h6⟩ := hE.at
      exact ⟨es, h5, by rw [h4]; exact hq es h6⟩
  obtain ⟨a', c', he, _⟩ := h6.op
  simp only [Value.slice.injEq] at he
  obtain ⟨rfl, rfl, rfl⟩ := he
  refine ⟨l, W, es, a, c, hl, hW, by rw [← hl]; exact hz4, h6, by rw [← hl]; exact h5, hb.trans (hF.below hb.size fun j hj => by omega)⟩
end Go.Proofs.YtgeoghhajjlofaaGreatDoor
namespace Go.Proofs.YtgeoghhajjlofaaGreatDoor

theorem next7 {l : List (Rc × Value)} {c C : Nat → Int} (hl : rcs l = wRs c C 7) (hu : Unl (rcs l)) {self : Int} {W : List Rr} (h : WaysIs l self W) {wd : Nat} {x : Et} (hx : x ∈ eT self wd W (rcs l)) : ∀ y ∈ x.2.2.2, y ≤ 7 := by
  unfold eT entsT at hx
  obtain ⟨t, ht, rfl⟩ := List.mem_map.1 hx
  obtain ⟨h1, h2⟩ := List.mem_filter.1 ht
  have hne : t.2.node ≠ self := by simpa using h2
  have hm := List.mem_of_find?_eq_some (told_all h1).2.1
  intro y hy
  have hy' : y ∈ t.2.next := hy
  rcases h with ⟨_, rfl⟩ | ⟨_, hF⟩
  · cases hm
  · obtain ⟨_, d, _, hR⟩ := hF.right _ hm
    obtain ⟨e, he, _, h4, _⟩ := (hR.nx hne y).1 hy'
    have h5 := ((graphOk_bd (both_may hu)).2.1 e he).2
    rw [h4] at h5
    obtain ⟨r, hr, h6⟩ := (bothN_mem hu).1 h5
    rw [hl] at hr
    have := (wRs_facts (c := c) (C := C) (n := 0)).1 r hr
    omega
theorem chN_in {e : Nat} {l : List Int} (h : nbOk l = true) (h0 : 0 < l.length) : chN e l ∈ l := by
  rw [(ch_yes e h h0).1]
  exact (best_ok (mix e) (fun e => by rw [e] at h0; simp at h0)).1
theorem taken7 {l : List (Rc × Value)} {c C : Nat → Int} (hl : rcs l = wRs c C 7) (hu : Unl (rcs l)) {self : Int} (hs : 1 ≤ self ∧ self ≤ 24) {W : List Rr} (h : WaysIs l self W) {wd : Nat} (hW : IsW wd) {es : List En} (hT : toT es = eT self wd W (rcs l)) (e : Nat) {x : En} (hx : x ∈ es) : 1 ≤ chN e x.2 ∧ chN e x.2 ≤ 7 := by
  have hm : toE x ∈ eT self wd W (rcs l) := by rw [← hT]; exact List.mem_map.2 ⟨x, hx, rfl⟩
  have hok := (ents_ok hu hs hW h).parts.2.1 _ hm
  obtain ⟨h1, _, h3, _⟩ := nxOk_ok.1 (enB_ok.1 hok).2.2.2.2
  have hin : chN e x.2 ∈ x.2 := chN_in h1 (by have : 1 ≤ x.2.length := h3; omega)
  have := next7 hl hu h hm _ hin
  have := nb_in h1 hin
  omega
end Go.Proofs.YtgeoghhajjlofaaGreatDoor
namespace Go.Proofs.YtgeoghhajjlofaaGreatDoor
open Go.RowKit

theorem ptM_late {W1 w2 w3 w4 : World} {self : Int} {rs : List Rc} {qt B : Nat} {l : List (Rc × Value)} {W : List Rr} {a : Option Addr} {n c : Nat} (hl : rcs l = rs) (hW : WaysIs l self W) (hE : EsAt B w2 (.slice a n c) (eT self 8 W (rcs l))) (hal : Below w2.heap.size w2 w3) (hqt : w2.heap.size ≤ qt) {c0 c1 c2 c3 : Value} (hz : w3.heap[qt]? = some (.cells #[c0, c1, c2, c3] 29)) (hb : Below W1.heap.size W1 w2)
    (h4 : w4 = (((w3.setCell ⟨qt, 0, none⟩ (.int .i64 self)).setCell ⟨qt, 1, none⟩ (.int .i64 8)).setCell ⟨qt, 2, none⟩ (.int .i64 (oT self W (rcs l)))).setCell ⟨qt, 3, none⟩ (.slice a n c)) : PtM W1 w4 self rs qt := by
  have hF := ((((Fr.refl (fun j => j = qt) w3).set (p := ⟨qt, 0, none⟩) rfl (.int .i64 self)).set (p := ⟨qt, 1, none⟩) rfl (.int .i64 8)).set (p := ⟨qt, 2, none⟩) rfl (.int .i64 (oT self W (rcs l)))).set (p := ⟨qt, 3, none⟩) rfl (.slice a n c)
  have hz4 := set4 (.int .i64 self) (.int .i64 8) (.int .i64 (oT self W (rcs l))) (.slice a n c) hz
  rw [← h4] at hF hz4
  have hb4 : Below w2.heap.size w2 w4 := hal.trans (hF.below hal.size fun j hj => by omega)
  obtain ⟨es, h5, h6⟩ := hE.at
  obtain ⟨a', c', he, _⟩ := h6.op
  simp only [Value.slice.injEq] at he
  obtain ⟨rfl, rfl, rfl⟩ := he
  exact ⟨l, W, es, a, c, hl, hW, by rw [← hl]; exact hz4, h6.keep hb4 (Nat.le_refl _), by rw [← hl]; exact h5, hb.trans (hb4.mono hb.size)⟩
set_option maxRecDepth 100000 in
set_option maxHeartbeats 8000000 in
theorem tableParts_walk {Lk : List Ed} {v : Value} {cs : List Int} {w : World} (h : SlAt lc13 3 w v Lk) (hL : LkB13 Lk) (hc : cs.length = 7) (hcb : ∀ x ∈ cs, 0 ≤ x ∧ x ≤ 255) (A : Nat) (hA : A ≤ 255) {en : Nat} (hen : en < 4294967296) (ht : Wid w) :
    Calls Tryz.prog 3 #[v, .agg (c7 cs).toArray, .agg #[.int .u8 A, .int .u32 en]] w fun e w' => e = .returned (.bool true) ∧ Below w.heap.size w w' := by
  obtain ⟨va, vc, rfl, hvl, _, _⟩ := h.lk13
  obtain ⟨f, hf⟩ : ∃ f : Nat → Int, (fun i => cs.getD i 0 % 20) = f := ⟨_, rfl⟩
  have Hfb : Hid (∀ i, i < 7 → 0 ≤ f i ∧ f i ≤ 1024) := hidIn fun i _ => by rw [← hf]; simp only; omega
  obtain ⟨x0, x1, x2, x3, x4, x5, x6, rfl⟩ : ∃ x0 x1 x2 x3 x4 x5 x6, cs = [x0, x1, x2, x3, x4, x5, x6] := by
    match cs, hc with
    | [x0, x1, x2, x3, x4, x5, x6], _ => exact ⟨x0, x1, x2, x3, x4, x5, x6, rfl⟩
  obtain ⟨W1, hW1⟩ : ∃ W1, (w.alloc (.cells #[.int .u8 x0, .int .u8 x1, .int .u8 x2, .int .u8 x3, .int .u8 x4, .int .u8 x5, .int .u8 x6] 23)).alloc (.cells #[.int .u8 A, .int .u32 en] 26) = W1 := ⟨_, rfl⟩
  have bA : Below w.heap.size w W1 := by rw [← hW1]; exact ((Below.refl _ w).alloc (Nat.le_refl _) _).alloc (by simp) _
  have hK : W1.heap[w.heap.size]? = some (.cells #[.int .u8 x0, .int .u8 x1, .int .u8 x2, .int .u8 x3, .int .u8 x4, .int .u8 x5, .int .u8 x6] 23) := by rw [← hW1, Below.heap_alloc _ _ _ (by simp)]; exact heap_alloc_last w _
  have hK2 : W1.heap[w.heap.size + 1]? = some (.cells #[.int .u8 A, .int .u32 en] 26) := by
    rw [← hW1]
    have := heap_alloc_last (w.alloc (.cells #[.int .u8 x0, .int .u8 x1, .int .u8 x2, .int .u8 x3, .int .u8 x4, .int .u8 x5, .int .u8 x6] 23)) (.cells #[.int .u8 A, .int .u32 en] 26)
    rwa [World.size_alloc] at this
  have HWo : Hid (∀ wx, Below W1.heap.size W1 wx → Calls Tryz.prog 5 #[.slice va Lk.length vc, .agg #[.int .u8 x0, .int .u8 x1, .int .u8 x2, .int .u8 x3, .int .u8 x4, .int .u8 x5, .int .u8 x6]] wx fun e w' => WldAns wx w' (wRs (wTb (Lk.take 12)) f 7) e ∧ Below wx.heap.size wx w') := hidIn fun wx hx => by rw [← hf]; exact world_any ((h.keep bA (Nat.le_refl _)).keep hx (Nat.le_refl _)) hL hc hcb
  have HCok := hidIn (wTb_ok (Lk.take 12))
  obtain ⟨C, hC⟩ : ∃ C, wTb (Lk.take 12) = C := ⟨_, rfl⟩
  rw [hC] at HWo HCok
  obtain ⟨q0, hq0⟩ : ∃ q0, w.heap.size = q0 := ⟨_, rfl⟩
  rw [hq0] at hK hK2
  have HCl : Hid (∀ wq, Below W1.heap.size W1 wq → wq.cell? ⟨q0 + 1, 0, none⟩ = some (.int .u8 A) ∧ wq.cell? ⟨q0 + 1, 1, none⟩ = some (.int .u32 en) ∧ wq.cell? ⟨q0, 0, none⟩ = some (.int .u8 x0) ∧ wq.cell? ⟨q0, 1, none⟩ = some (.int .u8 x1) ∧ wq.cell? ⟨q0, 2, none⟩ = some (.int .u8 x2) ∧ wq.cell? ⟨q0, 3, none⟩ = some (.int .u8 x3) ∧ wq.cell? ⟨q0, 4, none⟩ = some (.int .u8 x4) ∧ wq.cell? ⟨q0, 5, none⟩ = some (.int .u8 x5) ∧ wq.cell? ⟨q0, 6, none⟩ = some (.int .u8 x6)) := hidIn fun wq hq => by
    have j0 := (hq.block _ (block_lt hK)).trans hK
    have j1 := (hq.block _ (block_lt hK2)).trans hK2
    exact ⟨cell_of_row _ _ 0 _ _ _ j1, cell_of_row _ _ 1 _ _ _ j1, cell_of_row _ _ 0 _ _ _ j0, cell_of_row _ _ 1 _ _ _ j0, cell_of_row _ _ 2 _ _ _ j0, cell_of_row _ _ 3 _ _ _ j0, cell_of_row _ _ 4 _ _ _ j0, cell_of_row _ _ 5 _ _ _ j0, cell_of_row _ _ 6 _ _ _ j0⟩
  obtain ⟨a, ha⟩ : ∃ a, A % 7 = a := ⟨_, rfl⟩
  have ha7 : a < 7 := by omega
  have mA : (A : Int).tmod 7 = (a : Int) := by rw [← ha, Int.tmod_eq_emod_of_nonneg (by omega)]; rfl
  have hA' : (A : Int) ≤ 255 := by omega
  have wa : IntKind.i64.wrap (a : Int) = (a : Int) := by rw [IntKind.wrap_i64]; omega
  have wa1 : IntKind.i64.wrap (1 + (a : Int)) = 1 + (a : Int) := by rw [IntKind.wrap_i64]; omega
  have HB1 := hidIn bA
  have Ht := hidIn (ht.keep bA)
  have HW := hidIn hW1
  have HU := hidIn (wRs_unl HCok.out Hfb.out)
  have Hs1 : Hid (q0 + 1 < W1.heap.size) := hidIn (block_lt hK2)
  generalize Lk.length = ln at *
  clear h hL hc hcb hf bA hK hK2 hW1 hC ha ht hA HCok
  go_enter Tryz.func3, Tryz.ntmps3
  go_upto_region 1 with fail
  rw [HW.out]
  clear HW hq0
  go_cut [7, 8] (fun x y wx => ∃ qt, x = .pointer (some ⟨qt, 0, none⟩) ∧ y = .int .i64 0 ∧ Hid (PtM W1 wx (1 + (a : Int)) (wRs C f 7) qt))
  case first =>
    refine wp_region_held_drew (S := fun wx => Below W1.heap.size W1 wx) (by kernel_rfl) ((Below.refl _ W1).drew) (fun hHeld => ?_)
    have hd0 : Below W1.heap.size W1 W1.drew := hHeld
    obtain ⟨wn, hwn⟩ : ∃ wn, W1.drew = wn := ⟨_, rfl⟩
    rw [hwn] at hd0 ⊢
    clear hwn hHeld
    refine wpAnyH_take (i := 0) (v := .pointer (some ⟨q0 + 1, 0, none⟩)) rfl (by kernel_rfl) (by kernel_rfl) (by kernel_rfl) (fun _ _ _ h => h) (Or.inl ⟨by kernel_rfl, fun _ _ => by kernel_rfl⟩) (by assumption) ?_
    refine wpAnyH_take (i := 1) (v := .int .u8 A) rfl (by kernel_rfl) (by kernel_rfl) (by kernel_rfl) (fun _ _ _ h => h) (Or.inl ⟨by kernel_rfl, fun wq hSw => by
      obtain ⟨u0, u1, u2, u3, u4, u5, u6, u7, u8⟩ := HCl.out wq hSw
      go_simp⟩) (by assumption) ?_
    refine wpAnyH_take (i := 2) (v := .int .u8 a) rfl (by kernel_rfl) (by kernel_rfl) (by kernel_rfl) (fun _ _ _ h => h) (Or.inl ⟨by kernel_rfl, fun _ _ => by go_simp⟩) (by assumption) ?_
    refine wpAnyH_take (i := 3) (v := .int .i64 a) rfl (by kernel_rfl) (by kernel_rfl) (by kernel_rfl) (fun _ _ _ h => h) (Or.inl ⟨by kernel_rfl, fun _ _ => by go_simp⟩) (by assumption) ?_
    refine wpAnyH_take (i := 4) (v := .int .i64 (1 + (a : Int))) rfl (by kernel_rfl) (by kernel_rfl) (by kernel_rfl) (fun _ _ _ h => h) (Or.inl ⟨by kernel_rfl, fun _ _ => by go_simp⟩) (by assumption) ?_
    refine wpAnyH_take (i := 5) (v := .slice va ln vc) rfl (by kernel_rfl) (by kernel_rfl) (by kernel_rfl) (fun _ _ _ h => h) (Or.inl ⟨by kernel_rfl, fun _ _ => by kernel_rfl⟩) (by assumption) ?_
    refine wpAnyH_take (i := 6) (v := .agg #[.int .u8 x0, .int .u8 x1, .int .u8 x2, .int .u8 x3, .int .u8 x4, .int .u8 x5, .int .u8 x6]) rfl (by kernel_rfl) (by kernel_rfl) (by kernel_rfl) (fun _ _ _ h => h) (Or.inl ⟨by kernel_rfl, fun wq hSw => by
      obtain ⟨u0, u1, u2, u3, u4, u5, u6, u7, u8⟩ := HCl.out wq hSw
      go_simp⟩) (by assumption) ?_
    refine wpAnyH_ready (rs := [7, 12]) (by kernel_rfl) (by simp) ?_
    refine AllReadyH.cons (i := 7) rfl ?_ ?_
    · go_simp
      intro K hK
      refine (HWo.out wn hd0).mono ?_
      rintro e wk1 ⟨⟨u, l, rfl, hl, hR⟩, hx⟩
      have hk1 := hd0.trans (hx.mono hd0.size)
      obtain ⟨ua, uc, rfl⟩ := row_shape hR.r
      have hrec := hR.recs
      have hln : l.length = 7 := by have := congrArg List.length hl; simpa [wRs] using this
      rw [hln] at hrec ⊢
      refine hK.out _ _ hk1 (fun _ => ?_)
      clear hK K hx hR
      refine wpAnyH_ready (rs := [8, 12]) (by kernel_rfl) (by simp) ?_
      refine AllReadyH.cons (i := 8) rfl ?_ ?_
      · go_simp
        intro K hK
        refine (show Calls Tryz.prog 4 #[.int .i64 (1 + (a : Int)), .int .i64 8, .slice ua 7 uc] wk1 (fun e w' => BldAns wk1 w' l (1 + (a : Int)) 8 e ∧ Below wk1.heap.size wk1 w') from build_ok hrec (Ht.out.keep hk1) (self := 1 + (a : Int)) (by omega) (wd := 8) (by unfold IsW; omega) (by omega) (by rw [hl]; exact both_unl.2 HU.out)).mono ?_
        rintro e wk2 ⟨hA3, hx⟩
        obtain ⟨Ws, ta, tn, tc, hWs, rfl, hE⟩ := ans8 hA3 (by rw [hl]; exact both_unl.2 HU.out)
        obtain ⟨ow, how⟩ : ∃ ow, oT (1 + (a : Int)) Ws (rcs l) = ow := ⟨_, rfl⟩
        rw [how]
        have hk2 := hk1.trans (hx.mono hk1.size)
        refine hK.out _ _ hk2 (fun _ => ?_)
        clear hK K hx hA3
        refine wpAnyH_take (i := 9) (v := .tuple #[tbV (1 + (a : Int)) 8 ow (.slice ta tn tc), .int .i64 0]) rfl (by kernel_rfl) (by kernel_rfl) (by kernel_rfl) (fun _ _ _ h => h) (Or.inl ⟨by kernel_rfl, fun _ _ => by kernel_rfl⟩) (by assumption) ?_
        refine wpAnyH_take (i := 10) (v := tbV (1 + (a : Int)) 8 ow (.slice ta tn tc)) rfl (by kernel_rfl) (by kernel_rfl) (by kernel_rfl) (fun _ _ _ h => h) (Or.inl ⟨by kernel_rfl, fun _ _ => by kernel_rfl⟩) (by assumption) ?_
        refine wpAnyH_take (i := 11) (v := .int .i64 0) rfl (by kernel_rfl) (by kernel_rfl) (by kernel_rfl) (fun _ _ _ h => h) (Or.inl ⟨by kernel_rfl, fun _ _ => by kernel_rfl⟩) (by assumption) ?_
        refine wpAnyH_ready (rs := [12]) (by kernel_rfl) (by simp) ?_
        refine AllReadyH.cons (i := 12) rfl ?_ AllReadyH.nil
        go_simp
        intro K hK
        have hk3 := hk2.alloc (show W1.heap.size ≤ _ from hk2.size) (.cells #[.int .i64 0, .int .i64 0, .int .i64 0, .slice none 0 0] 29)
        have hzt := heap_alloc_last wk2 (.cells #[.int .i64 0, .int .i64 0, .int .i64 0, .slice none 0 0] 29)
        have hqg : W1.heap.size ≤ wk2.heap.size := hk2.size
        have hal : Below wk2.heap.size wk2 (wk2.alloc (.cells #[.int .i64 0, .int .i64 0, .int .i64 0, .slice none 0 0] 29)) := (Below.refl _ wk2).alloc (Nat.le_refl _) _
        have hsz : (wk2.alloc (.cells #[.int .i64 0, .int .i64 0, .int .i64 0, .slice none 0 0] 29)).heap.size = wk2.heap.size + 1 := World.size_alloc _ _
        refine hK.out _ _ hk3 (fun _ => ?_)
        obtain ⟨qt, hqt⟩ : ∃ qt, wk2.heap.size = qt := ⟨_, rfl⟩
        rw [hqt] at hzt hqg hsz ⊢
        generalize World.alloc _ _ = wk3 at hzt hsz hk3 hal ⊢
        clear hK K
        have hql : qt < wk3.heap.size := by omega
        refine wpAnyH_ready (rs := [13]) (by kernel_rfl) (by simp) ?_
        refine AllReadyH.cons (i := 13) rfl ?_ AllReadyH.nil
        have c0 := cell_of_row _ _ 0 _ _ _ hzt
        have c1 := cell_of_row _ _ 1 _ _ _ hzt
        have c2 := cell_of_row _ _ 2 _ _ _ hzt
        have c3 := cell_of_row _ _ 3 _ _ _ hzt
        have fz0 := frozen_new hzt 0
        have fz1 := frozen_new hzt 1
        have fz2 := frozen_new hzt 2
        have fz3 := frozen_new hzt 3
        simp at c0 c1 c2 c3
        go_simp
        intro K hK
        subst how
        have hP := ptM_late (W1 := W1) hl hWs hE hal (Nat.le_of_eq hqt) hzt hk2 rfl
        have hbS : Below W1.heap.size W1 _ := hP.choose_spec.choose_spec.choose_spec.choose_spec.choose_spec.2.2.2.2.2
        refine hK.out _ _ hbS (fun _ => ?_)
        clear hK K c0 c1 c2 c3 fz0 fz1 fz2 fz3
        generalize (((World.setCell _ _ _).setCell _ _).setCell _ _).setCell _ _ = ws at hP hbS ⊢
        refine wpAnyH_take (i := 14) (v := .int .i64 0) rfl (by kernel_rfl) (by kernel_rfl) (by kernel_rfl) (fun _ _ _ h => h) (Or.inl ⟨by kernel_rfl, fun _ _ => by kernel_rfl⟩) (by assumption) ?_
        refine wpAnyH_done (by kernel_rfl) ?_ _
        go_wp2_with fail
        go_meet
        exact ⟨qt, rfl, rfl, hidIn hP⟩
      refine AllReadyH.cons (i := 12) rfl ?_ AllReadyH.nil
      go_simp
      intro K hK
      have hk2 := hk1.alloc (show W1.heap.size ≤ _ from hk1.size) (.cells #[.int .i64 0, .int .i64 0, .int .i64 0, .slice none 0 0] 29)
      have hzt := heap_alloc_last wk1 (.cells #[.int .i64 0, .int .i64 0, .int .i64 0, .slice none 0 0] 29)
      have hqg : W1.heap.size ≤ wk1.heap.size := hk1.size
      have hal : Below wk1.heap.size wk1 (wk1.alloc (.cells #[.int .i64 0, .int .i64 0, .int .i64 0, .slice none 0 0] 29)) := (Below.refl _ wk1).alloc (Nat.le_refl _) _
      have hsz : (wk1.alloc (.cells #[.int .i64 0, .int .i64 0, .int .i64 0, .slice none 0 0] 29)).heap.size = wk1.heap.size + 1 := World.size_alloc _ _
      have hrec := hrec.keep hal (Nat.le_refl _)
      refine hK.out _ _ hk2 (fun _ => ?_)
      obtain ⟨qt, hqt⟩ : ∃ qt, wk1.heap.size = qt := ⟨_, rfl⟩
      rw [hqt] at hzt hqg hsz ⊢
      generalize World.alloc _ _ = wk2 at hzt hsz hk2 hrec ⊢
      clear hK K hal
      have hql : qt < wk2.heap.size := by omega
      refine wpAnyH_ready (rs := [8]) (by kernel_rfl) (by simp) ?_
      refine AllReadyH.cons (i := 8) rfl ?_ AllReadyH.nil
      go_simp
      intro K hK
      refine (show Calls Tryz.prog 4 #[.int .i64 (1 + (a : Int)), .int .i64 8, .slice ua 7 uc] wk2 (fun e w' => BldAns wk2 w' l (1 + (a : Int)) 8 e ∧ Below wk2.heap.size wk2 w') from build_ok hrec (Ht.out.keep hk2) (self := 1 + (a : Int)) (by omega) (wd := 8) (by unfold IsW; omega) (by omega) (by rw [hl]; exact both_unl.2 HU.out)).mono ?_
      rintro e wk3 ⟨hA3, hx⟩
      obtain ⟨Ws, ta, tn, tc, hWs, rfl, hE⟩ := ans8 hA3 (by rw [hl]; exact both_unl.2 HU.out)
      obtain ⟨ow, how⟩ : ∃ ow, oT (1 + (a : Int)) Ws (rcs l) = ow := ⟨_, rfl⟩
      rw [how]
      have hk3 := hk2.trans (hx.mono hk2.size)
      have hzt := (hx.block _ (block_lt hzt)).trans hzt
      have hqb : qt < wk2.heap.size := hql
      refine hK.out _ _ hk3 (fun _ => ?_)
      clear hK K hx hA3
      refine wpAnyH_take (i := 9) (v := .tuple #[tbV (1 + (a : Int)) 8 ow (.slice ta tn tc), .int .i64 0]) rfl (by kernel_rfl) (by kernel_rfl) (by kernel_rfl) (fun _ _ _ h => h) (Or.inl ⟨by kernel_rfl, fun _ _ => by kernel_rfl⟩) (by assumption) ?_
      refine wpAnyH_take (i := 10) (v := tbV (1 + (a : Int)) 8 ow (.slice ta tn tc)) rfl (by kernel_rfl) (by kernel_rfl) (by kernel_rfl) (fun _ _ _ h => h) (Or.inl ⟨by kernel_rfl, fun _ _ => by kernel_rfl⟩) (by assumption) ?_
      refine wpAnyH_take (i := 11) (v := .int .i64 0) rfl (by kernel_rfl) (by kernel_rfl) (by kernel_rfl) (fun _ _ _ h => h) (Or.inl ⟨by kernel_rfl, fun _ _ => by kernel_rfl⟩) (by assumption) ?_
      refine wpAnyH_ready (rs := [13]) (by kernel_rfl) (by simp) ?_
      refine AllReadyH.cons (i := 13) rfl ?_ AllReadyH.nil
      have c0 := cell_of_row _ _ 0 _ _ _ hzt
      have c1 := cell_of_row _ _ 1 _ _ _ hzt
      have c2 := cell_of_row _ _ 2 _ _ _ hzt
      have c3 := cell_of_row _ _ 3 _ _ _ hzt
      have fz0 := frozen_new hzt 0
      have fz1 := frozen_new hzt 1
      have fz2 := frozen_new hzt 2
      have fz3 := frozen_new hzt 3
      simp at c0 c1 c2 c3
      go_simp
      intro K hK
      subst how
      have hP := ptM_of (W1 := W1) hl hWs hE hzt (.inl hqb) hk3 hqg rfl
      have hbS : Below W1.heap.size W1 _ := hP.choose_spec.choose_spec.choose_spec.choose_spec.choose_spec.2.2.2.2.2
      refine hK.out _ _ hbS (fun _ => ?_)
      clear hK K c0 c1 c2 c3 fz0 fz1 fz2 fz3
      generalize (((World.setCell _ _ _).setCell _ _).setCell _ _).setCell _ _ = ws at hP hbS ⊢
      refine wpAnyH_take (i := 14) (v := .int .i64 0) rfl (by kernel_rfl) (by kernel_rfl) (by kernel_rfl) (fun _ _ _ h => h) (Or.inl ⟨by kernel_rfl, fun _ _ => by kernel_rfl⟩) (by assumption) ?_
      refine wpAnyH_done (by kernel_rfl) ?_ _
      go_wp2_with fail
      go_meet
      exact ⟨qt, rfl, rfl, hidIn hP⟩
    refine AllReadyH.cons (i := 12) rfl ?_ AllReadyH.nil
    go_simp
    intro K hK
    have hk1 := hd0.alloc (show W1.heap.size ≤ _ from hd0.size) (.cells #[.int .i64 0, .int .i64 0, .int .i64 0, .slice none 0 0] 29)
    have hzt := heap_alloc_last wn (.cells #[.int .i64 0, .int .i64 0, .int .i64 0, .slice none 0 0] 29)
    have hqg : W1.heap.size ≤ wn.heap.size := hd0.size
    have hal : Below wn.heap.size wn (wn.alloc (.cells #[.int .i64 0, .int .i64 0, .int .i64 0, .slice none 0 0] 29)) := (Below.refl _ wn).alloc (Nat.le_refl _) _
    have hsz : (wn.alloc (.cells #[.int .i64 0, .int .i64 0, .int .i64 0, .slice none 0 0] 29)).heap.size = wn.heap.size + 1 := World.size_alloc _ _
    refine hK.out _ _ hk1 (fun _ => ?_)
    obtain ⟨qt, hqt⟩ : ∃ qt, wn.heap.size = qt := ⟨_, rfl⟩
    rw [hqt] at hzt hqg hsz ⊢
    generalize World.alloc _ _ = wk1 at hzt hsz hk1 ⊢
    clear hK K hal
    have hql : qt < wk1.heap.size := by omega
    refine wpAnyH_ready (rs := [7]) (by kernel_rfl) (by simp) ?_
    refine AllReadyH.cons (i := 7) rfl ?_ AllReadyH.nil
    go_simp
    intro K hK
    refine (HWo.out wk1 hk1).mono ?_
    rintro e wk2 ⟨⟨u, l, rfl, hl, hR⟩, hx⟩
    have hk2 := hk1.trans (hx.mono hk1.size)
    obtain ⟨ua, uc, rfl⟩ := row_shape hR.r
    have hrec := hR.recs
    have hln : l.length = 7 := by have := congrArg List.length hl; simpa [wRs] using this
    rw [hln] at hrec ⊢
    have hql := Nat.lt_of_lt_of_le hql hx.size
    have hzt := (hx.block _ (block_lt hzt)).trans hzt
    refine hK.out _ _ hk2 (fun _ => ?_)
    clear hK K hx hR
    refine wpAnyH_ready (rs := [8]) (by kernel_rfl) (by simp) ?_
    refine AllReadyH.cons (i := 8) rfl ?_ AllReadyH.nil
    go_simp
    intro K hK
    refine (show Calls Tryz.prog 4 #[.int .i64 (1 + (a : Int)), .int .i64 8, .slice ua 7 uc] wk2 (fun e w' => BldAns wk2 w' l (1 + (a : Int)) 8 e ∧ Below wk2.heap.size wk2 w') from build_ok hrec (Ht.out.keep hk2) (self := 1 + (a : Int)) (by omega) (wd := 8) (by unfold IsW; omega) (by omega) (by rw [hl]; exact both_unl.2 HU.out)).mono ?_
    rintro e wk3 ⟨hA3, hx⟩
    obtain ⟨Ws, ta, tn, tc, hWs, rfl, hE⟩ := ans8 hA3 (by rw [hl]; exact both_unl.2 HU.out)
    obtain ⟨ow, how⟩ : ∃ ow, oT (1 + (a : Int)) Ws (rcs l) = ow := ⟨_, rfl⟩
    rw [how]
    have hk3 := hk2.trans (hx.mono hk2.size)
    have hzt := (hx.block _ (block_lt hzt)).trans hzt
    have hqb : qt < wk2.heap.size := hql
    refine hK.out _ _ hk3 (fun _ => ?_)
    clear hK K hx hA3
    refine wpAnyH_take (i := 9) (v := .tuple #[tbV (1 + (a : Int)) 8 ow (.slice ta tn tc), .int .i64 0]) rfl (by kernel_rfl) (by kernel_rfl) (by kernel_rfl) (fun _ _ _ h => h) (Or.inl ⟨by kernel_rfl, fun _ _ => by kernel_rfl⟩) (by assumption) ?_
    refine wpAnyH_take (i := 10) (v := tbV (1 + (a : Int)) 8 ow (.slice ta tn tc)) rfl (by kernel_rfl) (by kernel_rfl) (by kernel_rfl) (fun _ _ _ h => h) (Or.inl ⟨by kernel_rfl, fun _ _ => by kernel_rfl⟩) (by assumption) ?_
    refine wpAnyH_take (i := 11) (v := .int .i64 0) rfl (by kernel_rfl) (by kernel_rfl) (by kernel_rfl) (fun _ _ _ h => h) (Or.inl ⟨by kernel_rfl, fun _ _ => by kernel_rfl⟩) (by assumption) ?_
    refine wpAnyH_ready (rs := [13]) (by kernel_rfl) (by simp) ?_
    refine AllReadyH.cons (i := 13) rfl ?_ AllReadyH.nil
    have c0 := cell_of_row _ _ 0 _ _ _ hzt
    have c1 := cell_of_row _ _ 1 _ _ _ hzt
    have c2 := cell_of_row _ _ 2 _ _ _ hzt
    have c3 := cell_of_row _ _ 3 _ _ _ hzt
    have fz0 := frozen_new hzt 0
    have fz1 := frozen_new hzt 1
    have fz2 := frozen_new hzt 2
    have fz3 := frozen_new hzt 3
    simp at c0 c1 c2 c3
    go_simp
    intro K hK
    subst how
    have hP := ptM_of (W1 := W1) hl hWs hE hzt (.inl hqb) hk3 hqg rfl
    have hbS : Below W1.heap.size W1 _ := hP.choose_spec.choose_spec.choose_spec.choose_spec.choose_spec.2.2.2.2.2
    refine hK.out _ _ hbS (fun _ => ?_)
    clear hK K c0 c1 c2 c3 fz0 fz1 fz2 fz3
    generalize (((World.setCell _ _ _).setCell _ _).setCell _ _).setCell _ _ = ws at hP hbS ⊢
    refine wpAnyH_take (i := 14) (v := .int .i64 0) rfl (by kernel_rfl) (by kernel_rfl) (by kernel_rfl) (fun _ _ _ h => h) (Or.inl ⟨by kernel_rfl, fun _ _ => by kernel_rfl⟩) (by assumption) ?_
    refine wpAnyH_done (by kernel_rfl) ?_ _
    go_wp2_with fail
    go_meet
    exact ⟨qt, rfl, rfl, hidIn hP⟩
  case rest =>
    obtain ⟨qt, rfl, rfl, HP⟩ := hcut
    obtain ⟨l, Ws, es, ta, tc, hl, hWs, hz, hE, hT, hbc⟩ := HP.out
    have hU : Unl (rcs l) := by rw [hl]; exact HU.out
    have hTb := ents_ok hU (self := 1 + (a : Int)) (by omega) (wd := 8) (by unfold IsW; omega) hWs
    rw [hl, ← hT] at hTb
    obtain ⟨ow, how⟩ : ∃ ow, oT (1 + (a : Int)) Ws (wRs C f 7) = ow := ⟨_, rfl⟩
    rw [how] at hz hTb
    have hok : tbB (1 + (a : Int)) 8 ow (toT es) = true := tbB_iff.2 hTb
    obtain ⟨_, hp2, hp3, _⟩ := hTb.parts
    have HUn : Hid (UnlP es) := hidIn (unl_of hp3)
    have HBt : Hid (∀ x ∈ es, 1 ≤ x.1.2.1 ∧ x.1.2.1 ≤ 256) := hidIn fun x hx => by
      have h1 : 1 ≤ x.1.2.1 ∧ x.1.2.1 ≤ ((8 : Nat) : Int) := (enB_ok.1 (hp2 (toE x) (List.mem_map.2 ⟨x, hx, rfl⟩))).2.1
      omega
    have HNd : Hid es.Nodup := hidIn (by
      have h1 := List.pairwise_map.1 hp3
      exact h1.imp fun h2 e => by rw [e] at h2; simp only at h2; omega)
    have HTk : Hid (∀ x ∈ es, 1 ≤ chN en x.2 ∧ chN en x.2 ≤ 7) := hidIn fun x hx => taken7 hl hU (by omega) hWs (wd := 8) (by unfold IsW; omega) (by rw [hl]; exact hT) en hx
    have HOk := hidIn hok
    have HE := hidIn hE
    have HZ := hidIn hz
    have HTw := hidIn (Ht.out.keep hbc)
    have HBw := hidIn (HB1.out.trans (hbc.mono HB1.out.size))
    have HLk : Hid (wc.cell? ⟨q0 + 1, 1, none⟩ = some (.int .u32 en)) := hidIn (HCl.out wc hbc).2.1
    have HCk := hidIn (tcheck_any hE (Ht.out.keep hbc) (1 + (a : Int)) 8 ow)
    rw [hok, show ckT true = 0 from rfl] at HCk
    obtain ⟨n, hn⟩ : ∃ n, es.length = n := ⟨_, rfl⟩
    have Hn := hidIn hn
    rw [hn] at hz HE HZ HCk
    have d0 := cell_of_row _ _ 0 _ _ _ hz
    have d1 := cell_of_row _ _ 1 _ _ _ hz
    have d2 := cell_of_row _ _ 2 _ _ _ hz
    have d3 := cell_of_row _ _ 3 _ _ _ hz
    simp at d0 d1 d2 d3
    clear HP hl hWs hz hE hT hbc hU hTb how hok hp2 hp3 hn HCl HWo Hfb HU Ht HB1 mA wa wa1
    go_wp2_with fail
    refine HCk.out.mono ?_
    rintro e w2 ⟨rfl, hb2⟩
    have HB2 := hidIn hb2
    clear hb2 HCk d0 d1 d2 d3
    go_wp2_with fail
    go_loopw [9] (fun i wr => ∃ k : Nat, k ≤ 4 ∧ i = .int .i64 k ∧ Hid (Below wc.heap.size wc wr)) (fun i _ => 4 - (intOf i).toNat)
    case atStart => exact ⟨0, by omega, rfl, HB2⟩
    case round =>
      clear HB2
      obtain ⟨k, hk, rfl, HR⟩ := hrel
      by_cases hlt : k < 4
      · have hki : (k : Int) < 4 := by omega
        obtain ⟨W3, hW3⟩ : ∃ W3, wr.alloc zO = W3 := ⟨_, rfl⟩
        have b3 : Below wr.heap.size wr W3 := by rw [← hW3]; exact (Below.refl _ wr).alloc (Nat.le_refl _) _
        have hz3 : W3.heap[wr.heap.size]? = some zO := by rw [← hW3]; exact heap_alloc_last wr _
        obtain ⟨qb, hqb⟩ : ∃ qb, wr.heap.size = qb := ⟨_, rfl⟩
        rw [hqb] at hz3
        have c3 := HR.out.trans (b3.mono HR.out.size)
        have hzt := (c3.block _ (block_lt HZ.out)).trans HZ.out
        have d0 := cell_of_row _ _ 0 _ _ _ hzt
        have d1 := cell_of_row _ _ 1 _ _ _ hzt
        have d2 := cell_of_row _ _ 2 _ _ _ hzt
        have d3 := cell_of_row _ _ 3 _ _ _ hzt
        simp at d0 d1 d2 d3
        have d4 := (c3.cell (block_lt_of_cell HLk.out)).trans HLk.out
        have HNb := hidIn (tnb_any hen (HE.out.keep c3 (Nat.le_refl _)) (HTw.out.keep c3) (1 + (a : Int)) 8 ow k)
        rw [HOk.out, show nbOk13 true (k : Int) = true by unfold nbOk13; simp; omega] at HNb
        have HC3 := hidIn c3
        have Hz3 := hidIn hz3
        have Hqb : Hid (wc.heap.size ≤ qb ∧ qb < W3.heap.size) := hidIn ⟨by rw [← hqb]; exact HR.out.size, block_lt hz3⟩
        have HW3 := hidIn hW3
        clear hW3 b3 hz3 c3 hzt
        go_upto_region 8 with fail
        rw [HW3.out]
        clear HW3 hqb
        go_wp2_with fail
        refine HNb.out.mono ?_
        rintro e w5 ⟨hN, hb5⟩
        rcases hN with ⟨h1, _⟩ | ⟨_, na, nc, rfl, hrow⟩
        · cases h1
        have HNg : Hid (∀ p, na = some p → W3.heap.size ≤ p.block) := hidIn fun p hp => by
          rcases hrow.2 with ⟨h, _⟩ | ⟨g, cap', cur, h, hb, _⟩
          · simp only [Value.slice.injEq] at h
            rw [hp] at h
            cases h.1
          · simp only [Value.slice.injEq] at h
            rw [hp] at h
            have h1 := h.1
            simp only [Option.some.injEq] at h1
            rw [h1]
            exact hb
        have HNr : Hid (∀ n, n ∈ rsL (nbL en k es) ↔ bitsN (es.filter (mkP en k n)) ≠ 0) := hidIn fun n => near_iff
        have HNp : Hid ((rsL (nbL en k es)).Pairwise fun x y => x < y) := hidIn (rsL_ok _).1
        have HN7 : Hid (∀ n ∈ rsL (nbL en k es), 1 ≤ n ∧ n ≤ 7) := hidIn fun n hn => by
          rw [(rsL_ok _).2] at hn
          obtain ⟨x, hx, rfl⟩ := List.mem_map.1 hn
          exact HTk.out x (List.mem_filter.1 hx).1
        obtain ⟨NL, hNL⟩ : ∃ NL, rsL (nbL en k es) = NL := ⟨_, rfl⟩
        rw [hNL] at hrow HNr HNp HN7 ⊢
        obtain ⟨nl, hnl⟩ : ∃ nl, NL.length = nl := ⟨_, rfl⟩
        have Hnl := hidIn hnl
        have HNs := hidIn (slAt_of_row (cs := ic) (fun _ => rfl) hrow rfl)
        rw [hnl] at HNs ⊢
        have HM0 : Hid (Bi.HasBs w5 qb (bitsN (es.filter (upTo13 en k 0)))) := hidIn (by
          rw [show es.filter (upTo13 en k 0) = [] from List.filter_eq_nil_iff.2 fun x hx => by unfold upTo13; simp; omega]
          exact (hasBs_zero Hz3.out).keep hb5 Hqb.out.2)
        have HC5 := hidIn (HC3.out.trans (hb5.mono HC3.out.size))
        clear hrow hb5 hNL hnl HNb d0 d1 d2 d3 d4
        go_wp2_with fail
        go_loopw [13, 14] (fun at' n wz => ∃ j : Nat, j ≤ 8 ∧ n = .int .i64 ((j : Int) + 1) ∧ at' = .int .i64 (upL j NL) ∧ Hid (Fr (fun i => i = qb) w5 wz ∧ Bi.HasBs wz qb (bitsN (es.filter (upTo13 en k j))))) (fun _ n _ => (9 - intOf n).toNat)
        case atStart => exact ⟨0, by omega, by go_num, by rw [upL_none fun n hn => (HN7.out n hn).1]; rfl, hidIn ⟨Fr.refl _ _, HM0.out⟩⟩
        case round =>
          clear HM0
          obtain ⟨j, hj, rfl, rfl, HI⟩ := hrel
          obtain ⟨hF, hM⟩ := HI.out
          clear HI
          have cw : Below wc.heap.size wc wr := HC5.out.trans (hF.below HC5.out.size fun i hi => by have := Hqb.out.1; omega)
          by_cases hjl : j < 8
          · have hji : (j : Int) + 1 ≤ 8 := by omega
            have hzt := (cw.block _ (block_lt HZ.out)).trans HZ.out
            have d0 := cell_of_row _ _ 0 _ _ _ hzt
            have d1 := cell_of_row _ _ 1 _ _ _ hzt
            have d2 := cell_of_row _ _ 2 _ _ _ hzt
            have d3 := cell_of_row _ _ 3 _ _ _ hzt
            simp at d0 d1 d2 d3
            have d4 := (cw.cell (block_lt_of_cell HLk.out)).trans HLk.out
            have HMk := hidIn (tmask_any hen (HE.out.keep cw (Nat.le_refl _)) (HTw.out.keep cw) (1 + (a : Int)) 8 ow k ((j : Int) + 1))
            have hmo : mkOk true (k : Int) ((j : Int) + 1) = true := by unfold mkOk; simp; omega
            rw [HOk.out, hmo, show mkN true en k ((j : Int) + 1) es = bitsN (es.filter (mkP en k ((j : Int) + 1))) by unfold mkN; rw [hmo]; rfl, show ckT true = 0 from rfl] at HMk
            have HXM := hidIn (mask_apart (e := en) (s := k) (k := j) HUn.out fun x hx => (HBt.out x hx).1)
            have HXo := hidIn (mask_more en k j es)
            have HMn := hidIn (HNr.out ((j : Int) + 1))
            have HMl := hidIn (bitsN_lt (L := es.filter (mkP en k ((j : Int) + 1))) fun x hx => HBt.out x (List.mem_filter.1 hx).1)
            obtain ⟨M, hMe⟩ : ∃ M, bitsN (es.filter (mkP en k ((j : Int) + 1))) = M := ⟨_, rfl⟩
            obtain ⟨X, hXe⟩ : ∃ X, bitsN (es.filter (upTo13 en k j)) = X := ⟨_, rfl⟩
            rw [hMe] at HMk HXM HXo HMn HMl
            rw [hXe] at hM HXM HXo
            have HFw := hidIn hF
            have HMw := hidIn hM
            have Hcw := hidIn cw
            clear hF hM cw hzt hmo hMe hXe
            go_wp2_with fail
            refine HMk.out.mono ?_
            rintro e w6 ⟨rfl, hb6⟩
            obtain ⟨W7, hW7⟩ : ∃ W7, w6.alloc (.cells #[.int .u64 (Bi.wd M 0), .int .u64 (Bi.wd M 1), .int .u64 (Bi.wd M 2), .int .u64 (Bi.wd M 3)] 38) = W7 := ⟨_, rfl⟩
            have b7 : Below w6.heap.size w6 W7 := by rw [← hW7]; exact (Below.refl _ w6).alloc (Nat.le_refl _) _
            have hM7 : Bi.HasBs W7 w6.heap.size M := by rw [← hW7]; exact Bi.hasBs_new w6 M
            have c7' := hb6.trans (b7.mono hb6.size)
            have hX7 := HMw.out.keep c7' HMw.out.lt
            obtain ⟨q7, hq7⟩ : ∃ q7, w6.heap.size = q7 := ⟨_, rfl⟩
            rw [hq7] at hM7
            have HF7 := hidIn (HFw.out.trans (Fr.of_below c7'))
            have HX7 := hidIn hX7
            have HM7 := hidIn hM7
            obtain ⟨c0, c1, c2, c3, _, _, _, _, _⟩ := hX7
            obtain ⟨g0, g1, g2, g3, _, _, _, _, _⟩ := hM7
            have HAn := hidIn (Bi.and_any X M W7)
            rw [HXM.out] at HAn
            have hq0 := fun w' => Bi.eq_zero 0 (by omega) w'
            have hqM := fun w' => Bi.eq_zero M HMl.out w'
            simp only [Bi.bs] at hq0 hqM
            have HW7 := hidIn hW7
            clear hb6 hW7 b7 c7' HMk d0 d1 d2 d3 d4
            go_upto_region 16 with fail
            rw [HW7.out]
            clear HW7 hq7
            go_wp2_with fail
            refine HAn.out.mono ?_
            rintro e w8 ⟨rfl, hb8⟩
            have hx8 := HX7.out.keep hb8 HX7.out.lt
            have hm8 := HM7.out.keep hb8 HM7.out.lt
            have HF8 := hidIn (HF7.out.trans (Fr.of_below hb8))
            have HX8 := hidIn hx8
            clear hb8 HAn c0 c1 c2 c3 g0 g1 g2 g3
            obtain ⟨c0, c1, c2, c3, _, _, _, _, _⟩ := hx8
            obtain ⟨g0, g1, g2, g3, _, _, _, _, _⟩ := hm8
            have z0 : ((0 : Nat) == 0) = true := rfl
            by_cases hM0 : M = 0
            · have hmz : (M == 0) = true := by simpa using hM0
              have HUp : Hid (upL (j + 1) NL = upL j NL) := hidIn (upL_no fun h => (HMn.out.1 h) hM0)
              clear hM0
              have HOr := hidIn (Bi.or_any X M w8)
              go_wp2_with fail
              refine HOr.out.mono ?_
              rintro e w9 ⟨rfl, hb9⟩
              have hx9 := HX8.out.keep hb9 HX8.out.lt
              have hF9 := HF8.out.trans (Fr.of_below hb9)
              have HN9 : Hid (Bi.HasBs (Bi.World.putBs w9 qb (X ||| M)) qb (bitsN (es.filter (upTo13 en k (j + 1)))) ∧ Fr (fun i => i = qb) w5 (Bi.World.putBs w9 qb (X ||| M))) := hidIn ⟨by rw [HXo.out]; exact hx9.put _, (((hF9.set (p := ⟨qb, 0, none⟩) rfl _).set (p := ⟨qb, 1, none⟩) rfl _).set (p := ⟨qb, 2, none⟩) rfl _).set (p := ⟨qb, 3, none⟩) rfl _⟩
              obtain ⟨h0, h1, h2, h3, h4, h5, h6, h7, h8⟩ := hx9
              clear hb9 hF9 HOr c0 c1 c2 c3 g0 g1 g2 g3
              go_wp2_with fail
              go_roundw
              case rel => exact ⟨j + 1, by omega, by go_num, by rw [HUp.out], hidIn ⟨HN9.out.2, HN9.out.1⟩⟩
              case measure => simp [intOf]; omega
            · have hmz : (M == 0) = false := by simpa using hM0
              obtain ⟨hu1, hu2⟩ := upL_yes HNp.out (HMn.out.2 hM0)
              obtain ⟨at0, hat0⟩ : ∃ at0, upL j NL = at0 := ⟨_, rfl⟩
              rw [hat0] at hu1 hu2 ⊢
              have hal : at0 < nl := by have := (List.getElem?_eq_some_iff.1 hu1).1; rw [Hnl.out] at this; exact this
              have hali : (at0 : Int) < (nl : Int) := by omega
              have hge : ¬ (nl : Int) ≤ (at0 : Int) := by omega
              obtain ⟨a'', c'', hee, hnb, _, hcl⟩ := HNs.out.ints
              have hnb2 : nl ≤ 9223372036854775807 := by have := Hnl.out; omega
              have hwat : IntKind.i64.wrap ((at0 : Int) + 1) = (at0 : Int) + 1 := by rw [IntKind.wrap_i64]; omega
              obtain ⟨bk, oo, hbo, hbk, hcell⟩ := hcl (by have := Hnl.out; omega)
              simp only [Value.slice.injEq] at hee
              obtain ⟨hea, hxx, hyy⟩ := hee
              rw [← hea] at hbo
              have hg := HNg.out _ hbo
              have hne : bk ≠ qb := by have := Hqb.out.2; simp only at hg; omega
              have e8 : w8.cell? ⟨bk, oo + at0, none⟩ = some (.int .i64 ((j : Int) + 1)) := by
                have h3 := HF8.out.block bk hbk hne
                rw [← hcell at0 _ hu1]
                simp only [World.cell?, h3]
              have HUp : Hid (upL (j + 1) NL = at0 + 1) := hidIn hu2
              have HOr := hidIn (Bi.or_any X M w8)
              subst hbo
              clear hea hxx hyy hM0 hu1 hu2 hat0 hcl hcell hg hnb
              go_wp2_with fail
              refine HOr.out.mono ?_
              rintro e w9 ⟨rfl, hb9⟩
              have hx9 := HX8.out.keep hb9 HX8.out.lt
              have hF9 := HF8.out.trans (Fr.of_below hb9)
              have HN9 : Hid (Bi.HasBs (Bi.World.putBs w9 qb (X ||| M)) qb (bitsN (es.filter (upTo13 en k (j + 1)))) ∧ Fr (fun i => i = qb) w5 (Bi.World.putBs w9 qb (X ||| M))) := hidIn ⟨by rw [HXo.out]; exact hx9.put _, (((hF9.set (p := ⟨qb, 0, none⟩) rfl _).set (p := ⟨qb, 1, none⟩) rfl _).set (p := ⟨qb, 2, none⟩) rfl _).set (p := ⟨qb, 3, none⟩) rfl _⟩
              obtain ⟨h0, h1, h2, h3, h4, h5, h6, h7, h8⟩ := hx9
              clear hb9 hF9 HOr c0 c1 c2 c3 g0 g1 g2 g3 e8
              go_wp2_with fail
              go_roundw
              case rel => exact ⟨j + 1, by omega, by go_num, by rw [HUp.out]; go_num, hidIn ⟨HN9.out.2, HN9.out.1⟩⟩
              case measure => simp [intOf]; omega
          · have hji : ¬ (j : Int) + 1 ≤ 8 := by omega
            obtain rfl : j = 8 := by omega
            have HUa : Hid (upL 8 NL = nl) := hidIn (by rw [upL_all fun n hn => by have := HN7.out n hn; omega]; exact Hnl.out)
            have HB0 : Hid (Bi.HasBs wr qb (leftN k es 0)) := hidIn (by
              have e : es.filter (upTo13 en k 8) = (es.drop 0).filter (nbP k) := by
                rw [List.drop_zero]
                refine List.filter_congr fun x hx => ?_
                have := HTk.out x hx
                unfold upTo13 nbP
                rw [decide_eq_true (show 1 ≤ chN en x.2 from this.1), decide_eq_true (show chN en x.2 ≤ ((8 : Nat) : Int) by omega)]
                simp
              unfold leftN
              rw [← e]
              exact hM)
            have Hcw := hidIn cw
            rw [HUa.out]
            clear hF hM cw
            go_wp2_with fail
            go_loopw [17] (fun i wy => ∃ t : Nat, t ≤ n ∧ i = .int .i64 t ∧ Hid (Bi.HasBs wy qb (leftN k es t) ∧ Below wc.heap.size wc wy)) (fun i _ => n - (intOf i).toNat)
            case atStart => exact ⟨0, Nat.zero_le _, rfl, hidIn ⟨HB0.out, Hcw.out⟩⟩
            case round =>
              clear HB0 Hcw
              obtain ⟨t, ht, rfl, HI⟩ := hrel
              have hzt := (HI.out.2.block _ (block_lt HZ.out)).trans HZ.out
              have d3 := cell_of_row _ _ 3 _ _ _ hzt
              simp at d3
              by_cases htl : t < n
              · have hti : (t : Int) < (n : Int) := by omega
                obtain ⟨ea, ec, hee, hnb0, _, hcl⟩ := HE.out.op
                have hnb : n ≤ 9223372036854775807 := by have := Hn.out; omega
                clear hnb0
                rw [Hn.out] at hee hcl
                simp only [Value.slice.injEq] at hee
                obtain ⟨hea, hxa, hxb⟩ := hee
                clear hxa hxb
                obtain ⟨bk, oo, hbo, hbk, hcell⟩ := hcl (by omega)
                rw [← hea] at hbo
                subst hbo
                obtain ⟨x, hx⟩ : ∃ z, es[t]? = some z := ⟨es[t]'(by have := Hn.out; omega), List.getElem?_eq_getElem _⟩
                have hg0 := (HI.out.2.cell (p := ⟨bk, oo + t * 4, none⟩) hbk).trans (hcell t x hx).1
                have hg1 := (HI.out.2.cell (p := ⟨bk, oo + t * 4 + 1, none⟩) hbk).trans (hcell t x hx).2.1
                have Hx := hidIn hx
                have HIk := hidIn HI.out
                have hqw : wc.heap.size ≤ qb := Hqb.out.1
                obtain ⟨sx, hsx⟩ : ∃ s, x.1.1 = s := ⟨_, rfl⟩
                rw [hsx] at hg0
                have Hsx := hidIn hsx
                clear hea hcl hcell hx HI hsx
                by_cases hs : sx = (k : Int)
                · have hsb : (sx != (k : Int)) = false := by simp [hs]
                  obtain ⟨b, hb⟩ : ∃ b : Nat, x.1.2.1 = (b : Int) + 1 := ⟨(x.1.2.1 - 1).toNat, by have := (HBt.out x (List.mem_of_getElem? Hx.out)).1; omega⟩
                  have hb256 : b < 256 := by have := (HBt.out x (List.mem_of_getElem? Hx.out)).2; omega
                  rw [hb] at hg1
                  obtain ⟨ht1, ht2⟩ := left_this (s := (k : Int)) HUn.out (fun x hx => (HBt.out x hx).1) HNd.out Hx.out (by rw [Hsx.out, hs])
                  rw [hb, show ((b : Int) + 1 - 1).toNat = b from by omega] at ht1 ht2
                  have hNl : leftN k es t < 2 ^ 256 := bitsN_lt fun x hx => HBt.out x (List.mem_of_mem_drop (List.mem_filter.1 hx).1)
                  have HNx := hidIn ht2
                  have HHs := hidIn (fun wx => Bi.has_yes (leftN k es t) hNl b hb256 wx)
                  have HWo := hidIn (fun wx => Bi.without_yes (leftN k es t) b hb256 wx)
                  rw [ht1] at HHs
                  obtain ⟨Y, hY⟩ : ∃ Y, Bi.wo (leftN k es t) (2 ^ b) = Y := ⟨_, rfl⟩
                  rw [hY] at HNx HWo
                  clear hY
                  obtain ⟨X, hX⟩ : ∃ X, leftN k es t = X := ⟨_, rfl⟩
                  rw [hX] at HIk HHs HWo
                  have Hb := hidIn hb
                  clear ht1 ht2 hNl hX hb hs
                  go_upto_region 29 with fail
                  have hqt : qt < wc.heap.size := block_lt HZ.out
                  have HCq : Hid (∀ wq, Fr (fun i => i = qb) wr wq → wq.cell? ⟨qt, 3, none⟩ = some (.slice (some ⟨bk, oo, none⟩) n tc) ∧ wq.cell? ⟨bk, oo + t * 4 + 1, none⟩ = some (.int .i64 ((b : Int) + 1))) := hidIn fun wq hF => by
                    have h1 := hF.block qt (block_lt_of_cell d3) (by omega)
                    have h2 := hF.block bk (block_lt_of_cell hg1) (by omega)
                    refine ⟨?_, ?_⟩
                    · rw [← d3]; simp only [World.cell?, h1]
                    · rw [← hg1]; simp only [World.cell?, h2]
                  clear d3 hg1 hg0
                  refine wp_region_held_drew (S := fun wx => Below wr.heap.size wr wx) (by kernel_rfl) ((Below.refl _ wr).drew) (fun hHeld => ?_)
                  have hd0 : Below wr.heap.size wr wr.drew := hHeld
                  obtain ⟨wn, hwn⟩ : ∃ wn, wr.drew = wn := ⟨_, rfl⟩
                  rw [hwn] at hd0 ⊢
                  clear hwn hHeld
                  refine wpAnyH_take (i := 0) (v := .agg #[.int .u64 (Bi.wd X 0), .int .u64 (Bi.wd X 1), .int .u64 (Bi.wd X 2), .int .u64 (Bi.wd X 3)]) rfl (by kernel_rfl) (by kernel_rfl) (by kernel_rfl) (fun _ _ _ h => h) (Or.inl ⟨by kernel_rfl, fun wq hSw => by
                    obtain ⟨v0, v1, v2, v3, _, _, _, _, _⟩ := HIk.out.1.keep hSw HIk.out.1.lt
                    go_simp⟩) (by assumption) ?_
                  refine wpAnyH_take (i := 1) (v := .pointer (some ⟨qt, 3, none⟩)) rfl (by kernel_rfl) (by kernel_rfl) (by kernel_rfl) (fun _ _ _ h => h) (Or.inl ⟨by kernel_rfl, fun _ _ => by kernel_rfl⟩) (by assumption) ?_
                  refine wpAnyH_take (i := 2) (v := .slice (some ⟨bk, oo, none⟩) n tc) rfl (by kernel_rfl) (by kernel_rfl) (by kernel_rfl) (fun _ _ _ h => h) (Or.inl ⟨by kernel_rfl, fun wq hSw => by
                    obtain ⟨v0, v1⟩ := HCq.out wq (Fr.of_below hSw)
                    go_simp⟩) (by assumption) ?_
                  refine wpAnyH_take (i := 3) (v := .int .i64 t) rfl (by kernel_rfl) (by kernel_rfl) (by kernel_rfl) (fun _ _ _ h => h) (Or.inl ⟨by kernel_rfl, fun _ _ => by kernel_rfl⟩) (by assumption) ?_
                  refine wpAnyH_take (i := 4) (v := .pointer (some ⟨bk, oo + t * 4, none⟩)) rfl (by kernel_rfl) (by kernel_rfl) (by kernel_rfl) (fun _ _ _ h => h) (Or.inl ⟨by kernel_rfl, fun _ _ => by go_simp⟩) (by assumption) ?_
                  refine wpAnyH_take (i := 5) (v := .pointer (some ⟨bk, oo + t * 4 + 1, none⟩)) rfl (by kernel_rfl) (by kernel_rfl) (by kernel_rfl) (fun _ _ _ h => h) (Or.inl ⟨by kernel_rfl, fun _ _ => by go_simp⟩) (by assumption) ?_
                  refine wpAnyH_take (i := 6) (v := .int .i64 ((b : Int) + 1)) rfl (by kernel_rfl) (by kernel_rfl) (by kernel_rfl) (fun _ _ _ h => h) (Or.inl ⟨by kernel_rfl, fun wq hSw => by
                    obtain ⟨v0, v1⟩ := HCq.out wq (Fr.of_below hSw)
                    go_simp⟩) (by assumption) ?_
                  refine wpAnyH_ready (rs := [7]) (by kernel_rfl) (by simp) ?_
                  refine AllReadyH.cons (i := 7) rfl ?_ AllReadyH.nil
                  go_simp
                  intro K hK
                  refine (HHs.out wn).mono ?_
                  rintro e wk1 ⟨rfl, hx1⟩
                  have hk1 := hd0.trans (hx1.mono hd0.size)
                  refine hK.out _ _ hk1 (fun _ => ?_)
                  clear hK K
                  refine wpAnyH_take (i := 8) (v := .bool false) rfl (by kernel_rfl) (by kernel_rfl) (by kernel_rfl) (fun _ _ _ h => h) (Or.inl ⟨by kernel_rfl, fun _ _ => by kernel_rfl⟩) (by assumption) ?_
                  refine wpAnyH_done (by kernel_rfl) ?_ _
                  have HK1 := hidIn hk1
                  have HX1 := hidIn (HIk.out.1.keep hk1 HIk.out.1.lt)
                  clear hd0 hx1 hk1
                  go_upto_region 31 with fail
                  refine wp_region_held_drew (S := fun wx => Fr (fun i => i = qb) wr wx) (by kernel_rfl) ((Fr.of_below HK1.out).drew) (fun hHeld => ?_)
                  have hd0 : Fr (fun i => i = qb) wr wk1.drew := hHeld
                  have hb0 : Below wk1.heap.size wk1 wk1.drew := (Below.refl _ wk1).drew
                  obtain ⟨wn2, hwn⟩ : ∃ wn2, wk1.drew = wn2 := ⟨_, rfl⟩
                  rw [hwn] at hd0 hb0 ⊢
                  clear hwn hHeld
                  refine wpAnyH_take (i := 1) (v := .pointer (some ⟨qt, 3, none⟩)) rfl (by kernel_rfl) (by kernel_rfl) (by kernel_rfl) (fun _ _ _ h => h) (Or.inl ⟨by kernel_rfl, fun _ _ => by kernel_rfl⟩) (by assumption) ?_
                  refine wpAnyH_take (i := 2) (v := .slice (some ⟨bk, oo, none⟩) n tc) rfl (by kernel_rfl) (by kernel_rfl) (by kernel_rfl) (fun _ _ _ h => h) (Or.inl ⟨by kernel_rfl, fun wq hSw => by
                    obtain ⟨v0, v1⟩ := HCq.out wq hSw
                    go_simp⟩) (by assumption) ?_
                  refine wpAnyH_take (i := 3) (v := .int .i64 t) rfl (by kernel_rfl) (by kernel_rfl) (by kernel_rfl) (fun _ _ _ h => h) (Or.inl ⟨by kernel_rfl, fun _ _ => by kernel_rfl⟩) (by assumption) ?_
                  refine wpAnyH_take (i := 4) (v := .pointer (some ⟨bk, oo + t * 4, none⟩)) rfl (by kernel_rfl) (by kernel_rfl) (by kernel_rfl) (fun _ _ _ h => h) (Or.inl ⟨by kernel_rfl, fun _ _ => by go_simp⟩) (by assumption) ?_
                  refine wpAnyH_take (i := 5) (v := .pointer (some ⟨bk, oo + t * 4 + 1, none⟩)) rfl (by kernel_rfl) (by kernel_rfl) (by kernel_rfl) (fun _ _ _ h => h) (Or.inl ⟨by kernel_rfl, fun _ _ => by go_simp⟩) (by assumption) ?_
                  refine wpAnyH_take (i := 6) (v := .int .i64 ((b : Int) + 1)) rfl (by kernel_rfl) (by kernel_rfl) (by kernel_rfl) (fun _ _ _ h => h) (Or.inl ⟨by kernel_rfl, fun wq hSw => by
                    obtain ⟨v0, v1⟩ := HCq.out wq hSw
                    go_simp⟩) (by assumption) ?_
                  have hX2 := HX1.out.keep hb0 HX1.out.lt
                  have HX2 := hidIn hX2
                  obtain ⟨c0, c1, c2, c3, _, _, _, _, _⟩ := hX2
                  refine wpAnyH_ready (rs := [0]) (by kernel_rfl) (by simp) ?_
                  refine AllReadyH.cons (i := 0) rfl ?_ AllReadyH.nil
                  go_simp
                  intro K hK
                  refine hK.out _ _ hd0 (fun _ => ?_)
                  clear hK K c0 c1 c2 c3
                  refine wpAnyH_ready (rs := [7]) (by kernel_rfl) (by simp) ?_
                  refine AllReadyH.cons (i := 7) rfl ?_ AllReadyH.nil
                  go_simp
                  intro K hK
                  refine (HWo.out wn2).mono ?_
                  rintro e wk2 ⟨rfl, hx2⟩
                  have hk2 := hd0.trans (Fr.of_below (S := fun i => i = qb) hx2)
                  have hX3 := HX2.out.keep hx2 HX2.out.lt
                  refine hK.out _ _ hk2 (fun _ => ?_)
                  clear hK K hx2
                  refine wpAnyH_take (i := 8) (v := .tuple #[.agg #[.int .u64 (Bi.wd Y 0), .int .u64 (Bi.wd Y 1), .int .u64 (Bi.wd Y 2), .int .u64 (Bi.wd Y 3)], .int .i64 0]) rfl (by kernel_rfl) (by kernel_rfl) (by kernel_rfl) (fun _ _ _ h => h) (Or.inl ⟨by kernel_rfl, fun _ _ => by kernel_rfl⟩) (by assumption) ?_
                  refine wpAnyH_take (i := 9) (v := .agg #[.int .u64 (Bi.wd Y 0), .int .u64 (Bi.wd Y 1), .int .u64 (Bi.wd Y 2), .int .u64 (Bi.wd Y 3)]) rfl (by kernel_rfl) (by kernel_rfl) (by kernel_rfl) (fun _ _ _ h => h) (Or.inl ⟨by kernel_rfl, fun _ _ => by kernel_rfl⟩) (by assumption) ?_
                  refine wpAnyH_take (i := 10) (v := .int .i64 0) rfl (by kernel_rfl) (by kernel_rfl) (by kernel_rfl) (fun _ _ _ h => h) (Or.inl ⟨by kernel_rfl, fun _ _ => by kernel_rfl⟩) (by assumption) ?_
                  have HN9 : Hid (Bi.HasBs (Bi.World.putBs wk2 qb Y) qb (leftN k es (t + 1))) := hidIn (by rw [HNx.out]; exact hX3.put _)
                  have hS9 : Fr (fun i => i = qb) wr (Bi.World.putBs wk2 qb Y) := (((hk2.set (p := ⟨qb, 0, none⟩) rfl _).set (p := ⟨qb, 1, none⟩) rfl _).set (p := ⟨qb, 2, none⟩) rfl _).set (p := ⟨qb, 3, none⟩) rfl _
                  have HB9 : Hid (Below wc.heap.size wc (Bi.World.putBs wk2 qb Y)) := hidIn (HIk.out.2.trans (hS9.below HIk.out.2.size (fun i hi => by omega)))
                  obtain ⟨c0, c1, c2, c3, c4, c5, c6, c7, _⟩ := hX3
                  refine wpAnyH_ready (rs := [11]) (by kernel_rfl) (by simp) ?_
                  refine AllReadyH.cons (i := 11) rfl ?_ AllReadyH.nil
                  go_simp
                  intro K hK
                  refine hK.out _ _ hS9 (fun _ => ?_)
                  clear hK K c0 c1 c2 c3 c4 c5 c6 c7 hS9 hk2 hd0 hb0
                  refine wpAnyH_done (by kernel_rfl) ?_ _
                  go_wp2_with fail
                  go_light
                  go_roundw
                  case rel => exact ⟨t + 1, by omega, by go_num, hidIn ⟨HN9.out, HB9.out⟩⟩
                  case measure => simp [intOf]; omega
                · have hsb : (sx != (k : Int)) = true := by simpa using hs
                  have HNx := hidIn (left_other (s := (k : Int)) Hx.out (by rw [Hsx.out]; exact hs))
                  clear hs
                  go_wp2_with fail
                  go_light
                  go_roundw
                  case rel => exact ⟨t + 1, by omega, by go_num, hidIn ⟨by rw [HNx.out]; exact HIk.out.1, HIk.out.2⟩⟩
                  case measure => simp [intOf]; omega
              · have hti : ¬ (t : Int) < (n : Int) := by omega
                have htn : t = n := by omega
                have hz0 : Bi.HasBs wr qb 0 := by
                  have := HI.out.1
                  rwa [htn, ← Hn.out, left_none] at this
                have HBk := hidIn HI.out.2
                obtain ⟨c0, c1, c2, c3, _, _, _, _, _⟩ := hz0
                have hq0 := fun w' => Bi.eq_zero 0 (by omega) w'
                simp only [Bi.bs] at hq0
                have z0 : ((0 : Nat) == 0) = true := rfl
                clear HI hzt htn
                go_wp2_with fail
                go_light
                go_roundw
                case rel => exact ⟨k + 1, by omega, by go_num, HBk⟩
                case measure => simp [intOf]; omega
      · have hki : ¬ (k : Int) < 4 := by omega
        have HBr := hidIn (HBw.out.trans (HR.out.mono HBw.out.size))
        go_wp2_with fail
        refine (tworks_any wr (HTw.out.keep HR.out)).mono ?_
        rintro e w9 ⟨rfl, hb9⟩
        have HB9 := hidIn (HBr.out.trans (hb9.mono HBr.out.size))
        clear hb9
        go_wp2_with fail
        go_ret
        exact ⟨rfl, HB9.out⟩
end Go.Proofs.YtgeoghhajjlofaaGreatDoor
namespace Go.Proofs.YtgeoghhajjlofaaGreatDoor
open Go.ChangeShapes Go.WideShapes Go.ChangeAt Go.RowKit

theorem gWidT13 : (Tryz.prog.globals[0]?).map (·.type) = some 120 := by kernel_rfl
theorem laid_tab13 {W : World} {name : String} {k : IntKind} {zs : List Int} {rest : List (String × DataW Unit)} {g : Nat} {t e : TypeId} {n : Nat} {ps : List MemPlace} {P : Program}
    (hg : P.globalNamed name = some g) (hty : (P.globals[g]?).map (·.type) = some t) (ht : P.underlying t = some (.array n e)) (he : P.underlying e = some (.int k)) (hce : P.cellsOf e = 1) (hct : P.cellsOf t = n)
    (h : DataW.LaidVars P W ((name, Lib.tabData k zs) :: rest) ps) : Lib.TabIs P W name k zs := by
  obtain ⟨g', t', cs, fuel, p, q, hg', ht', hvar, hd, _, _⟩ := h
  obtain rfl := Option.some.inj (hg.symm.trans hg')
  obtain rfl := Option.some.inj (hty.symm.trans ht')
  unfold Lib.TabIs
  rw [hvar, ← Lib.cells_of_tab ht he hce hct hd]
theorem wid_row {w : World} {rest : List (String × DataW Unit)} (h : laidMet Tryz.prog (("dandelion/header.widths", Rows.laid_dandelion_header_widths) :: rest) w) : Wid w := by
  obtain ⟨ps, h, _⟩ := h
  exact ⟨laid_tab13 gWid gWidT13 Tryz.underlying120 Tryz.underlying3 (by kernel_rfl) (by kernel_rfl) h⟩
section
variable {H : Type} {enc : TypeId × Value → H} {W : World}
theorem cU13 : Tryz.prog.cellsOf 5 = 1 := by kernel_rfl
theorem cLk13 : Tryz.prog.cellsOf 70 = 3 := by kernel_rfl
theorem bLk13 : Tryz.prog.bytesOf 70 = 3 := by kernel_rfl
theorem lk13F : Tryz.prog.underlying 70 = some (.struct #[(Tryz.prog.fieldsOf 70)[0]!, (Tryz.prog.fieldsOf 70)[1]!, (Tryz.prog.fieldsOf 70)[2]!]) := by kernel_rfl
theorem lk13F' : (((Tryz.prog.fieldsOf 70)[0]!).type = 5 ∧ ((Tryz.prog.fieldsOf 70)[0]!).offset = 0) ∧ (((Tryz.prog.fieldsOf 70)[1]!).type = 5 ∧ ((Tryz.prog.fieldsOf 70)[1]!).offset = 1) ∧ ((Tryz.prog.fieldsOf 70)[2]!).type = 5 ∧ ((Tryz.prog.fieldsOf 70)[2]!).offset = 2 := ⟨⟨by kernel_rfl, by kernel_rfl⟩, ⟨by kernel_rfl, by kernel_rfl⟩, by kernel_rfl, by kernel_rfl⟩
set_option maxRecDepth 100000 in
theorem lk13_cells {n : Nat} {cs' : List Value} {x : DataW H × List MemPlace} (h : DataW.trod enc Tryz.prog W 0 (fun _ => true) true n 70 cs' = some x) : ∃ y : Ed, cs' = lc13 y ∧ (0 ≤ y.1 ∧ y.1 ≤ 255) ∧ (0 ≤ y.2.1 ∧ y.2.1 ≤ 255) ∧ 0 ≤ y.2.2 ∧ y.2.2 ≤ 255 := by
  obtain ⟨y0, y1, y2, k, _, hlen, h0, h1, h2⟩ := Deep.trod_struct3 lk13F h
  obtain ⟨⟨a0, b0⟩, ⟨a1, b1⟩, a2, b2⟩ := lk13F'
  rw [cLk13] at hlen
  match cs', hlen with
  | [v0, v1, v2], _ =>
    rw [a0, b0, cU13] at h0
    rw [a1, b1, cU13] at h1
    rw [a2, b2, cU13] at h2
    obtain ⟨p, hp, _, wp⟩ := DataW.trod_int Tryz.underlying5 h0
    obtain ⟨q, hq, _, wq⟩ := DataW.trod_int Tryz.underlying5 h1
    obtain ⟨r, hr, _, wr⟩ := DataW.trod_int Tryz.underlying5 h2
    simp at hp hq hr
    exact ⟨(p, q, r), by rw [hp, hq, hr], bounds_u8 wp, bounds_u8 wq, bounds_u8 wr⟩
set_option maxRecDepth 100000 in
theorem lk13_arg {a : Option Addr} {len cap : Nat} {d : DataW H} {p : List MemPlace} (h : DataW.Trod enc Tryz.prog W 0 (fun _ => true) true 22 (.slice a len cap) d p) (hw : ∀ n ∈ d.weights Tryz.prog 22, n ≤ reachBytes) :
    ∃ ls, SlAt lc13 3 W (.slice a len cap) ls ∧ LkB13 ls ∧ NilOk (.slice a len cap) ∧ (ls.length + 1) * 3 ≤ 140737488355328 := by
  obtain ⟨fuel, hf⟩ := h
  obtain ⟨ns, hn1, hn2, hG, hn3⟩ := open_sl (0, 0, 0) (cs := lc13) (sz := 3) (fun _ => rfl) (by omega) Tryz.underlying22 cLk13 (fun n cs' x h => lk13_cells h) (by simpa [Value.cells] using hf)
  exact ⟨ns, hn1, hG, hn2, slice_weight Tryz.underlying22 bLk13 (by omega) hw (by rcases hn3 with rfl | h; exact .inl rfl; exact .inr h)⟩
end
theorem cells713 : Tryz.prog.cellsOf 23 = 7 := by kernel_rfl
theorem seven13 {α : Type} {cs : Array α} (h : cs.size = 7) : ∃ c0 c1 c2 c3 c4 c5 c6, cs = #[c0, c1, c2, c3, c4, c5, c6] := by
  obtain ⟨l⟩ := cs
  match l, h with
  | [c0, c1, c2, c3, c4, c5, c6], _ => exact ⟨c0, c1, c2, c3, c4, c5, c6, rfl⟩
set_option maxRecDepth 100000 in
theorem open_seven13 {H : Type} {enc : TypeId × Value → H} {W : World} {base : Nat} {v : Value} {d : DataW H} {p : List MemPlace}
    (hval : Value.okWide Tryz.prog W .any base 23 v) (h : DataW.Trod enc Tryz.prog W 0 (fun _ => true) true 23 v d p) :
    ∃ ks : List Int, ks.length = 7 ∧ (∀ x ∈ ks, (Lit.int .u8 x).wf = true) ∧ v = .agg (c7 ks).toArray ∧ d = .agg (ks.map fun x => .lit (.int .u8 x)) ∧ p = [] := by
  obtain ⟨cs, rfl, hsz, _⟩ : ∃ cs, v = .agg cs ∧ cs.size = Tryz.prog.cellsOf 23 ∧ Row.okWide Tryz.prog W .any base 23 cs := by
    simpa [Value.okWide, Tryz.underlying23] using hval
  rw [cells713] at hsz
  obtain ⟨c0, c1, c2, c3, c4, c5, c6, rfl⟩ := seven13 hsz
  obtain ⟨fuel, hf⟩ := h
  cases fuel with
  | zero => simp [DataW.trod] at hf
  | succ n =>
    have hf' : DataW.trod enc Tryz.prog W 0 (fun _ => true) true (n + 1) 23 [c0, c1, c2, c3, c4, c5, c6] = some (d, p) := hf
    unfold DataW.trod at hf'
    rw [Tryz.underlying23] at hf'
    simp [show List.range 7 = [0, 1, 2, 3, 4, 5, 6] from rfl, cU13, cells713] at hf'
    cases h0 : DataW.trod enc Tryz.prog W 0 (fun _ => true) true n 5 [c0] with
    | none => simp [h0] at hf'
    | some y0 =>
      cases h1 : DataW.trod enc Tryz.prog W 0 (fun _ => true) true n 5 [c1] with
      | none => simp [h0, h1] at hf'
      | some y1 =>
        cases h2 : DataW.trod enc Tryz.prog W 0 (fun _ => true) true n 5 [c2] with
        | none => simp [h0, h1, h2] at hf'
        | some y2 =>
          cases h3 : DataW.trod enc Tryz.prog W 0 (fun _ => true) true n 5 [c3] with
          | none => simp [h0, h1, h2, h3] at hf'
          | some y3 =>
            cases h4 : DataW.trod enc Tryz.prog W 0 (fun _ => true) true n 5 [c4] with
            | none => simp [h0, h1, h2, h3, h4] at hf'
            | some y4 =>
              cases h5 : DataW.trod enc Tryz.prog W 0 (fun _ => true) true n 5 [c5] with
              | none => simp [h0, h1, h2, h3, h4, h5] at hf'
              | some y5 =>
                cases h6 : DataW.trod enc Tryz.prog W 0 (fun _ => true) true n 5 [c6] with
                | none => simp [h0, h1, h2, h3, h4, h5, h6] at hf'
                | some y6 =>
                  simp [h0, h1, h2, h3, h4, h5, h6] at hf'
                  obtain ⟨a0, e0, rfl, w0⟩ := DataW.trod_int Tryz.underlying5 h0
                  obtain ⟨a1, e1, rfl, w1⟩ := DataW.trod_int Tryz.underlying5 h1
                  obtain ⟨a2, e2, rfl, w2⟩ := DataW.trod_int Tryz.underlying5 h2
                  obtain ⟨a3, e3, rfl, w3⟩ := DataW.trod_int Tryz.underlying5 h3
                  obtain ⟨a4, e4, rfl, w4⟩ := DataW.trod_int Tryz.underlying5 h4
                  obtain ⟨a5, e5, rfl, w5⟩ := DataW.trod_int Tryz.underlying5 h5
                  obtain ⟨a6, e6, rfl, w6⟩ := DataW.trod_int Tryz.underlying5 h6
                  simp at e0 e1 e2 e3 e4 e5 e6
                  subst e0 e1 e2 e3 e4 e5 e6
                  refine ⟨[a0, a1, a2, a3, a4, a5, a6], rfl, fun x hx => ?_, rfl, hf'.1.symm, hf'.2.symm⟩
                  simp only [List.mem_cons, List.not_mem_nil, or_false] at hx
                  rcases hx with rfl | rfl | rfl | rfl | rfl | rfl | rfl
                  · exact w0
                  · exact w1
                  · exact w2
                  · exact w3
                  · exact w4
                  · exact w5
                  · exact w6
set_option maxRecDepth 100000 in
theorem shut_seven13 {H : Type} {enc : TypeId × Value → H} {W : World} {sp : Nat → Bool} {ks : List Int} (hl : ks.length = 7) (hk : ∀ x ∈ ks, (Lit.int .u8 x).wf = true) :
    DataW.Trod enc Tryz.prog W 0 sp true 23 (.agg (c7 ks).toArray) (.agg (ks.map fun x => .lit (.int .u8 x))) [] := by
  match ks, hl with
  | [c0, c1, c2, c3, c4, c5, c6], _ =>
    simp only [List.mem_cons, List.not_mem_nil, or_false, forall_eq_or_imp, forall_eq] at hk
    obtain ⟨w0, w1, w2, w3, w4, w5, w6⟩ := hk
    exact ⟨2, by simp [DataW.trod, Value.cells, Tryz.underlying23, Tryz.underlying5, cells713, cU13, w0, w1, w2, w3, w4, w5, w6, show List.range 7 = [0, 1, 2, 3, 4, 5, 6] from rfl]⟩
end Go.Proofs.YtgeoghhajjlofaaGreatDoor
namespace Go.Proofs.YtgeoghhajjlofaaGreatDoor
open Go.ChangeShapes Go.WideShapes Go.ChangeAt Go.RowKit

section
variable {H : Type} {enc : TypeId × Value → H} {W : World}
theorem cLook13 : Tryz.prog.cellsOf 26 = 2 := by kernel_rfl
theorem lookF : Tryz.prog.underlying 26 = some (.struct #[(Tryz.prog.fieldsOf 26)[0]!, (Tryz.prog.fieldsOf 26)[1]!]) := by kernel_rfl
theorem lookF' : ((Tryz.prog.fieldsOf 26)[0]!).type = 5 ∧ ((Tryz.prog.fieldsOf 26)[1]!).type = 24 := ⟨by kernel_rfl, by kernel_rfl⟩
set_option maxRecDepth 100000 in
theorem look_arg {r : Reach} {b0 : Nat} {v : Value} {d : DataW H} {p : List MemPlace} (hv : Value.okWide Tryz.prog W r b0 26 v) (h : DataW.Trod enc Tryz.prog W 0 (fun _ => true) true 26 v d p) :
    ∃ x e : Int, v = .agg #[.int .u8 x, .int .u32 e] ∧ (0 ≤ x ∧ x ≤ 255) ∧ (0 ≤ e ∧ e ≤ 4294967295) := by
  obtain ⟨v0, v1, y0, y1, m, rfl, _, _, h0, h1⟩ := Joins.open_agg2 lookF (by kernel_rfl) cLook13 hv h
  rw [lookF'.1] at h0
  rw [lookF'.2] at h1
  obtain ⟨o, ho, _, wo⟩ := DataW.trod_int Tryz.underlying5 h0
  obtain ⟨e, he, _, we⟩ := DataW.trod_int Tryz.underlying24 h1
  simp at ho he
  exact ⟨o, e, by rw [ho, he], bounds_u8 wo, bounds_u32 we⟩
end
theorem tableParts_look {L : List Ed} {v : Value} {cs : List Int} {w : World} (h : SlAt lc13 3 w v L) (hL : LkB13 L) (hc : cs.length = 7) (hcb : ∀ x ∈ cs, 0 ≤ x ∧ x ≤ 255) {x e : Int} (hx : 0 ≤ x ∧ x ≤ 255) (he : 0 ≤ e ∧ e ≤ 4294967295) (ht : Wid w) :
    Calls Tryz.prog 3 #[v, .agg (c7 cs).toArray, .agg #[.int .u8 x, .int .u32 e]] w fun e w' => e = .returned (.bool true) ∧ Below w.heap.size w w' := by
  obtain ⟨X, rfl⟩ := Int.eq_ofNat_of_zero_le hx.1
  obtain ⟨E, rfl⟩ := Int.eq_ofNat_of_zero_le he.1
  exact tableParts_walk h hL hc hcb X (by omega) (en := E) (by omega) ht
end Go.Proofs.YtgeoghhajjlofaaGreatDoor
