/- The law's world in memory: the walk. table.sameEntry, slices.EqualFunc of entries, table.Same. TableOrder: the walk. Arguments of the table's laws: links of three small numbers, seven small numbers; the widths out of a row's list. TableOrder, of a number as a row hands it. -/
import Derived.Test.YtbggingacoheiaaGreatDoorZ5
import Derived.Test.YtbggingacoheiaaGreatDoorZ2
import Derived.Deep.RegionLaw
import Derived.Test.YtbggingacoheiaaGreatDoorGD
import Derived.Test.YtbggingacoheiaaGreatDoorGH
import Derived.Test.YtbggingacoheiaaGreatDoorRows
namespace Go.Proofs.YtbggingacoheiaaGreatDoor
open Go.RowKit

abbrev lc13 (x : Ed) : List Value := [.int .u8 x.1, .int .u8 x.2.1, .int .u8 x.2.2]
theorem SlAt.lk13 {w : World} {v : Value} {l : List Ed} (h : SlAt lc13 3 w v l) : ∃ a cap, v = .slice a l.length cap ∧ l.length ≤ 9223372036854775807 ∧ l.length ≤ cap ∧ (0 < l.length → ∃ bk o, a = some ⟨bk, o, none⟩ ∧ bk < w.heap.size ∧ ∀ j x, l[j]? = some x → w.cell? ⟨bk, o + j * 3, none⟩ = some (.int .u8 x.1) ∧ w.cell? ⟨bk, o + j * 3 + 1, none⟩ = some (.int .u8 x.2.1) ∧ w.cell? ⟨bk, o + j * 3 + 2, none⟩ = some (.int .u8 x.2.2)) := by
  obtain ⟨a, cap, rfl, hl, hc, h⟩ := h
  refine ⟨a, cap, rfl, hl, hc, fun h0 => ?_⟩
  obtain ⟨bk, o, rfl, hb, h⟩ := h h0
  exact ⟨bk, o, rfl, hb, fun j x hx => ⟨h j x hx 0 _ rfl, h j x hx 1 _ rfl, h j x hx 2 _ rfl⟩⟩
def LkB13 (L : List Ed) : Prop := ∀ x ∈ L, (0 ≤ x.1 ∧ x.1 ≤ 255) ∧ (0 ≤ x.2.1 ∧ x.2.1 ≤ 255) ∧ 0 ≤ x.2.2 ∧ x.2.2 ≤ 255
/-- The table of costs in memory. -/
def tc8 (c : Nat → Int) : List Value := (List.range 64).map fun i => .int .i64 (c i)
theorem tc8_len (c : Nat → Int) : (tc8 c).length = 64 := by simp [tc8]
theorem tc8_get (c : Nat → Int) {n : Nat} (h : n < 64) : (tc8 c)[n]? = some (.int .i64 (c n)) := by simp [tc8, List.getElem?_range h]
theorem tc8_set (c : Nat → Int) {n : Nat} (_h : n < 64) (v : Int) : (tc8 c).set n (.int .i64 v) = tc8 (putV c n v) := by
  apply List.ext_getElem?
  intro j
  rw [List.getElem?_set]
  by_cases hj : j < 64
  · rw [tc8_get _ hj, tc8_get _ hj, tc8_len]
    unfold putV
    by_cases hn : n = j
    · rw [if_pos hn, if_pos (by omega), if_pos hn.symm]
    · rw [if_neg hn, if_neg (fun h => hn h.symm)]
  · rw [List.getElem?_eq_none (by rw [tc8_len]; omega), List.getElem?_eq_none (by rw [tc8_len]; omega), tc8_len]
    by_cases hn : n = j
    · omega
    · rw [if_neg hn]
theorem make_t8 (w : World) : (Instr.makeSlice 32 (.int .i64 64) (.int .i64 64)).run Tryz.prog w = .ok (.slice (some ⟨w.heap.size, 0, none⟩) 64 64) (w.alloc (.cells (tc8 fun _ => 0).toArray 3)) := by kernel_rfl
theorem append_recT {W : World} {base k : Nat} {u : Value} {l : List (Rc × Value)} (hr : W.ownsRow base 76 6 u k (fl rcc l)) (x : Rc × Value) (hx : x.2.oneCell' = true) (hk : (k + 1) * 56 ≤ 140737488355328) (hbase : base ≤ W.heap.size) :
    ∃ g cap w6, (Builtin.append_ #[22, 22] 22 #[u, .slice (some ⟨W.heap.size, 0, none⟩) 1 1]).run Tryz.prog (W.alloc (.cells (rcc x).toArray 76)) = .ok (.slice (some ⟨g, 0, none⟩) (k + 1) cap) w6 ∧
      w6.ownsRow base 76 6 (.slice (some ⟨g, 0, none⟩) (k + 1) cap) (k + 1) (fl rcc (l ++ [x])) ∧ Below base W w6 ∧ Fr (fun j => ∃ cur, W.heap[j]? = some (.cells cur 76)) W w6 := by
  obtain ⟨i0, hi, hz0, hz1, hz2⟩ := info_parts infoRec
  obtain ⟨g, cap, w6, hrun, hown, hgrow, _, _⟩ := run_append_lies (P := Tryz.prog) (W.alloc (.cells (rcc x).toArray 76)) 22 22 base 76 i0 _ 6 56 Tryz.underlying22 hi hz0 hz1 hz2 rfl (by decide) u k (fl rcc l) (hr.alloc _) ⟨W.heap.size, 0, none⟩ 1 1 (rcc x) rfl (fun j v hv => by
    rw [Addr.add_mid, Nat.zero_add, cell_of_row _ _ j (rcc x).toArray 76 (0, 0) (heap_alloc_last W _)]
    simpa using hv) (by simp only [rcc, List.mem_cons, List.not_mem_nil, or_false]; rintro u (rfl | rfl | rfl | rfl | rfl | rfl) <;> first | rfl | exact hx) (by omega) (by unfold maxLen; omega) hk (by simp; omega) (W.heap.size + 1) (by simp)
  refine ⟨g, cap, w6, hrun, by rw [fl_snoc]; exact hown, ?_, ?_⟩
  · exact ((Below.refl _ W).alloc hbase _).grown hgrow (by simp; omega) (fun j e => by
      rcases hr.2 with ⟨rfl, _⟩ | ⟨g', cap', cur, rfl, hb, _⟩
      · simp [Value.ownBlock] at e
      · simp [Value.ownBlock] at e; omega)
  · refine ⟨hgrow.os, hgrow.tape, hgrow.output, Nat.le_trans (by simp) hgrow.size, fun j hj hn => ?_⟩
    rw [hgrow.block j (by simp; omega) (fun e => ?_), Below.heap_alloc _ _ _ hj]
    rcases hr.2 with ⟨rfl, _⟩ | ⟨g', cap', cur, rfl, hb, hh, _⟩
    · simp [Value.ownBlock] at e
    · simp [Value.ownBlock] at e
      subst e
      exact hn ⟨cur, hh⟩
/-- Records with neighbours of their own. -/
structure RwAt (B : Nat) (w : World) (u : Value) (l : List (Rc × Value)) : Prop where
  r : w.ownsRow B 76 6 u l.length (fl rcc l)
  a : ∀ x ∈ l, w.ownsRow B 83 2 x.2 x.1.adjs.length (fl ac x.1.adjs)
theorem RwAt.recs {B : Nat} {w : World} {u : Value} {l : List (Rc × Value)} (h : RwAt B w u l) : RecsAt w u l := ⟨slAt_of_row (cs := rcc) (fun _ => rfl) h.r rfl, fun x hx => slAt_of_row (cs := ac) (fun _ => rfl) (h.a x hx) rfl⟩
theorem RwAt.keep {B : Nat} {w w' : World} {u : Value} {l : List (Rc × Value)} (h : RwAt B w u l) (hb : Below w.heap.size w w') : RwAt B w' u l := ⟨row_below h.r hb (Nat.le_refl _), fun x hx => row_below (h.a x hx) hb (Nat.le_refl _)⟩
theorem RwAt.low {B C : Nat} {w : World} {u : Value} {l : List (Rc × Value)} (h : RwAt B w u l) (hb : C ≤ B) : RwAt C w u l := ⟨row_low h.r hb, fun x hx => row_low (h.a x hx) hb⟩
theorem row_offR {w w' : World} {base k size : Nat} {u : Value} {xs : List Value} (hr : w.ownsRow base 83 size u k xs) (hF : Fr (fun j => ∃ cur, w.heap[j]? = some (.cells cur 76)) w w') : w'.ownsRow base 83 size u k xs :=
  row_fr hr hF fun j hj ⟨cur, ej⟩ => by
    rcases hr.2 with ⟨h1, _⟩ | ⟨g, cap, cur', h1, _, hg, _⟩
    · rw [h1] at hj; simp [Value.ownBlock] at hj
    · rw [h1] at hj; simp [Value.ownBlock] at hj
      rw [hj, ej] at hg
      simp at hg
theorem row_one {w : World} {base k size : Nat} {e : TypeId} {u : Value} {xs : List Value} (hr : w.ownsRow base e size u k xs) : u.oneCell' = true := by
  rcases hr.2 with ⟨rfl, _⟩ | ⟨g, cap, cur, rfl, _⟩ <;> rfl
/-- One record more. -/
theorem RwAt.more {B : Nat} {w : World} {u : Value} {l : List (Rc × Value)} (h : RwAt B w u l) {x : Rc × Value} (hx : w.ownsRow B 83 2 x.2 x.1.adjs.length (fl ac x.1.adjs)) (hl : l.length ≤ 1000) (hB : B ≤ w.heap.size) :
    ∃ g cap w6, (Builtin.append_ #[22, 22] 22 #[u, .slice (some ⟨w.heap.size, 0, none⟩) 1 1]).run Tryz.prog (w.alloc (.cells (rcc x).toArray 76)) = .ok (.slice (some ⟨g, 0, none⟩) (l.length + 1) cap) w6 ∧
      RwAt B w6 (.slice (some ⟨g, 0, none⟩) (l.length + 1) cap) (l ++ [x]) ∧ Below B w w6 := by
  obtain ⟨g, cap, w6, h1, h2, h3, h4⟩ := append_recT h.r x (row_one hx) (by omega) hB
  refine ⟨g, cap, w6, h1, ⟨by rw [List.length_append]; exact h2, fun y hy => ?_⟩, h3⟩
  rcases List.mem_append.1 hy with hy | hy
  · exact row_offR (h.a y hy) h4
  · rw [List.mem_singleton.1 hy]; exact row_offR hx h4
/-- The world's blocks: the claims, the table. -/
structure WoM (w wr : World) (vs : List Value) (c : Nat → Int) : Prop where
  k : Arr wr w.heap.size 57 vs
  t : Arr wr (w.heap.size + 1) 3 (tc8 c)
  b : Below w.heap.size w wr
theorem WoM.drewN {w wr : World} {vs : List Value} {c : Nat → Int} (h : WoM w wr vs c) (n : Nat) : WoM w (wr.drewN n) vs c := ⟨h.k, h.t, ⟨h.b.os, h.b.tape, h.b.output, h.b.size, h.b.block⟩⟩
theorem WoM.put {w wr : World} {vs : List Value} {c : Nat → Int} (h : WoM w wr vs c) {i : Nat} (hi : i < 64) (v : Int) : WoM w (wr.setCell ⟨w.heap.size + 1, i, none⟩ (.int .i64 v)) vs (putV c i v) :=
  ⟨h.k.other (by show w.heap.size ≠ w.heap.size + 1; omega) _, by rw [← tc8_set c hi]; exact h.t.set i _, h.b.setCell (p := ⟨w.heap.size + 1, i, none⟩) (Nat.le_succ _) _⟩
theorem WoM.keep {w wr wz : World} {vs : List Value} {c : Nat → Int} (h : WoM w wr vs c) {B : Nat} (hb : Below B wr wz) (hB : w.heap.size + 2 ≤ B) : WoM w wz vs c :=
  ⟨h.k.keep hb (by omega), h.t.keep hb (by omega), h.b.trans (hb.mono (by omega))⟩
/-- One router's record while it is gathered. -/
structure RgM (wr wz : World) (gb : Nat) (r : Rc) (s : Value) : Prop where
  g : wz.heap[gb]? = some (recO r s)
  a : wz.ownsRow (gb + 1) 83 2 s r.adjs.length (fl ac r.adjs)
  b : Below gb wr wz
theorem RgM.add {wr wz : World} {gb : Nat} {r : Rc} {s : Value} (h : RgM wr wz gb r s) (x : Int × Int) (hl : r.adjs.length ≤ 1000) :
    ∃ g cap w6, (Builtin.append_ #[74, 74] 74 #[s, .slice (some ⟨wz.heap.size, 0, none⟩) 1 1]).run Tryz.prog (wz.alloc (.cells (ac x).toArray 83)) = .ok (.slice (some ⟨g, 0, none⟩) (r.adjs.length + 1) cap) w6 ∧
      w6.cell? ⟨gb, 5, none⟩ = some s ∧ w6.frozen? ⟨gb, 5, none⟩ = false ∧ Below (gb + 1) wz w6 ∧ RgM wr (w6.setCell ⟨gb, 5, none⟩ (.slice (some ⟨g, 0, none⟩) (r.adjs.length + 1) cap)) gb { r with adjs := r.adjs ++ [x] } (.slice (some ⟨g, 0, none⟩) (r.adjs.length + 1) cap) := by
  have hs := block_lt h.g
  obtain ⟨g, cap, w6, hrun, hown, _, _, hb⟩ := append_adj h.a x (by omega) (by omega)
  have hg6 : w6.heap[gb]? = some (recO r s) := (hb.block _ (Nat.lt_succ_self _)).trans h.g
  have hF := (Fr.refl (fun k => k = gb) w6).set (p := ⟨gb, 5, none⟩) rfl (.slice (some ⟨g, 0, none⟩) (r.adjs.length + 1) cap)
  refine ⟨g, cap, w6, hrun, cell_of_row _ _ 5 _ _ _ hg6, frozen_new hg6 5, hb, ?_, ?_, ?_⟩
  · have := heap_setCell_same w6 gb 5 _ _ (.slice (some ⟨g, 0, none⟩) (r.adjs.length + 1) cap) hg6
    simpa using this
  · rw [List.length_append]
    exact row_fr hown hF (fun j hj e => by have := (hown.lt j hj).1; omega)
  · exact (h.b.trans (hb.mono (by omega))).setCell (p := ⟨gb, 5, none⟩) (Nat.le_refl _) _
theorem RgM.drew {wr wz : World} {gb : Nat} {r : Rc} {s : Value} (h : RgM wr wz gb r s) : RgM wr wz.drew gb r s := ⟨h.g, row_fr h.a (Fr.refl (fun _ => False) wz).drew (fun _ _ h => h), h.b.drew⟩
/-- Seven claims. -/
abbrev c7 (cs : List Int) : List Value := cs.map fun x => .int .u8 x
/-- What world answers. -/
def WldAns (w w' : World) (rs : List Rc) (e : Ending) : Prop := ∃ u l, e = .returned u ∧ rcs l = rs ∧ RwAt w.heap.size w' u l
set_option maxRecDepth 100000 in
set_option maxHeartbeats 8000000 in
theorem world_any {L : List Ed} {v : Value} {cs : List Int} {w : World} (h : SlAt lc13 3 w v L) (hL : LkB13 L) (hc : cs.length = 7) (hcb : ∀ x ∈ cs, 0 ≤ x ∧ x ≤ 255) :
    Calls Tryz.prog 29 #[v, .agg (c7 cs).toArray] w fun e w' => WldAns w w' (wRs (wTb (L.take 12)) (fun i => cs.getD i 0 % 20) 7) e ∧ Below w.heap.size w w' := by
  obtain ⟨la, lcap, rfl, hll, _, hlc⟩ := h.lk13
  have Hlc := hidIn hlc
  have HL := hidIn hL
  clear hlc h hL
  have hmk := make_t8
  obtain ⟨W1, hW1⟩ : ∃ W1, (w.alloc (.cells (c7 cs).toArray 57)).alloc (.cells (tc8 fun _ => 0).toArray 3) = W1 := ⟨_, rfl⟩
  have HM0 : Hid (WoM w W1 (c7 cs) (wTb [])) := hidIn (by
    rw [← hW1]
    refine ⟨?_, ?_, ((Below.refl _ w).alloc (Nat.le_refl _) _).alloc (by simp) _⟩
    · show (World.heap _)[w.heap.size]? = _
      rw [Below.heap_alloc _ _ _ (by simp)]
      exact heap_alloc_last w _
    · have := heap_alloc_last (w.alloc (.cells (c7 cs).toArray 57)) (.cells (tc8 fun _ => 0).toArray 3)
      rw [World.size_alloc] at this
      exact this)
  obtain ⟨x0, x1, x2, x3, x4, x5, x6, rfl⟩ : ∃ x0 x1 x2 x3 x4 x5 x6, cs = [x0, x1, x2, x3, x4, x5, x6] := by
    match cs, hc with
    | [x0, x1, x2, x3, x4, x5, x6], _ => exact ⟨x0, x1, x2, x3, x4, x5, x6, rfl⟩
  obtain ⟨cs, hcs⟩ : ∃ cs, [x0, x1, x2, x3, x4, x5, x6] = cs := ⟨_, rfl⟩
  rw [hcs] at HM0
  have HW : Hid ((w.alloc (.cells #[.int .u8 x0, .int .u8 x1, .int .u8 x2, .int .u8 x3, .int .u8 x4, .int .u8 x5, .int .u8 x6] 57)).alloc (.cells (tc8 fun _ => 0).toArray 3) = W1) := hidIn hW1
  have Hcb : Hid (∀ x ∈ cs, 0 ≤ x ∧ x ≤ 255) := hidIn (by rw [← hcs]; exact hcb)
  have Hcl : Hid (cs.length = 7) := hidIn (by rw [← hcs]; rfl)
  have Hcs := hidIn hcs
  clear hW1 hc hcb hcs
  go_enter Tryz.func29, Tryz.ntmps29
  go_upto_region 2 with fail
  rw [HW.out]
  clear HW hmk
  go_wp2_with fail
  go_loopw [6] (fun i wr => ∃ k : Nat, k ≤ 12 ∧ k ≤ L.length ∧ i = .int .i64 k ∧ Hid (WoM w wr (c7 cs) (wTb (L.take k)))) (fun i _ => 12 - (intOf i).toNat)
  case atStart => exact ⟨0, by omega, Nat.zero_le _, rfl, HM0⟩
  case round =>
    clear HM0
    obtain ⟨k, hk12, hk, rfl, HR⟩ := hrel
    by_cases hlt : k < L.length ∧ k < 12
    · obtain ⟨hlt, hlt12⟩ := hlt
      obtain ⟨bk, o, rfl, hbk, hcell⟩ := Hlc.out (by omega)
      obtain ⟨⟨x, y, z⟩, hx⟩ : ∃ z, L[k]? = some z := ⟨L[k], List.getElem?_eq_getElem hlt⟩
      obtain ⟨q0, q1, q2⟩ := hcell k _ hx
      have c0 := (HR.out.b.cell (p := ⟨bk, o + k * 3, none⟩) hbk).trans q0
      have c1 := (HR.out.b.cell (p := ⟨bk, o + k * 3 + 1, none⟩) hbk).trans q1
      have c2 := (HR.out.b.cell (p := ⟨bk, o + k * 3 + 2, none⟩) hbk).trans q2
      simp only at c0 c1 c2
      obtain ⟨⟨hx0, hx1⟩, ⟨hy0, hy1⟩, hz0, hz1⟩ := HL.out _ (List.mem_of_getElem? hx)
      simp only at hx0 hx1 hy0 hy1 hz0 hz1
      obtain ⟨X, rfl⟩ : ∃ X : Nat, x = (X : Int) := ⟨x.toNat, by omega⟩
      obtain ⟨Y, rfl⟩ : ∃ Y : Nat, y = (Y : Int) := ⟨y.toNat, by omega⟩
      obtain ⟨Z, rfl⟩ : ∃ Z : Nat, z = (Z : Int) := ⟨z.toNat, by omega⟩
      have HT : Hid (wTb (L.take (k + 1)) = wLk (wTb (L.take k)) ((X : Int), (Y : Int), (Z : Int))) := hidIn (by rw [take_snoc hx, wTb_snoc])
      obtain ⟨C, hC⟩ : ∃ C, wTb (L.take k) = C := ⟨_, rfl⟩
      rw [hC] at HR HT
      clear hC hx hcell q0 q1 q2
      obtain ⟨a, ha⟩ : ∃ a, X % 7 = a := ⟨_, rfl⟩
      obtain ⟨b, hb⟩ : ∃ b, Y % 7 = b := ⟨_, rfl⟩
      have han : a < 7 := by omega
      have hbn : b < 7 := by omega
      have mX : (X : Int).tmod 7 = (a : Int) := by rw [← ha, Int.tmod_eq_emod_of_nonneg (by omega)]; rfl
      have mY : (Y : Int).tmod 7 = (b : Int) := by rw [← hb, Int.tmod_eq_emod_of_nonneg (by omega)]; rfl
      have HT2 : Hid (wTb (L.take (k + 1)) = if a ≠ b then putV (putV C (8 * a + b) (1 + (Z : Int) % 4)) (8 * b + a) (1 + (Z : Int) % 4) else C) := hidIn (by rw [HT.out]; unfold wLk; simp only [Int.toNat_natCast]; rw [ha, hb])
      have hki : (k : Int) < (L.length : Int) := by omega
      have hki2 : (k : Int) < 12 := by omega
      clear HT ha hb hx0 hy0 hz0 hx1 hy1
      go_upto_region 5 with fail
      go_quiet (fail)
      clear c0 c1 mX mY
      generalize hV : World.drewN wr _ = V
      have hM : WoM w V (c7 cs) C := by rw [← hV]; exact HR.out.drewN _
      have e2 : V.cell? ⟨bk, o + k * 3 + 2, none⟩ = some (.int .u8 (Z : Int)) := by rw [← hV]; exact c2
      have HM := hidIn hM
      have t0 := hM.t.cell (8 * a + b)
      rw [tc8_get _ (by omega)] at t0
      have tf0 := hM.t.frozen (8 * a + b)
      have hbw : bk ≠ w.heap.size + 1 := by omega
      have hai : (a : Int) < 7 := by omega
      have hbi : (b : Int) < 7 := by omega
      clear hV hM HR c2
      by_cases hab : a = b
      · have hd : ((a : Int) != (b : Int)) = false := by rw [hab]; simp
        have HE : Hid (wTb (L.take (k + 1)) = C) := hidIn (by rw [HT2.out, if_neg (fun h => h hab)])
        clear hab t0 tf0 e2
        go_wp2_with fail
        go_roundw
        case rel => exact ⟨k + 1, by omega, by omega, by go_num, hidIn (by rw [HE.out]; exact HM.out)⟩
        case measure => simp [intOf]; omega
      have hd : ((a : Int) != (b : Int)) = true := by simp; omega
      have HE : Hid (wTb (L.take (k + 1)) = putV (putV C (8 * a + b) (1 + (Z : Int) % 4)) (8 * b + a) (1 + (Z : Int) % 4)) := hidIn (by rw [HT2.out, if_pos hab])
      obtain ⟨z, hz⟩ : ∃ z, Z % 4 = z := ⟨_, rfl⟩
      have hz5 : z < 4 := by omega
      have mZ : (Z : Int).tmod 4 = (z : Int) := by rw [← hz, Int.tmod_eq_emod_of_nonneg (by omega)]; rfl
      have HZ : Hid (1 + (Z : Int) % 4 = 1 + (z : Int)) := hidIn (by rw [← hz]; rfl)
      rw [HZ.out] at HE
      clear hz hz1
      have h64 : 8 * a + b < 64 := by omega
      have h64' : 8 * b + a < 64 := by omega
      have hi64 : 8 * (a : Int) + (b : Int) < 64 := by omega
      have hi64' : 8 * (b : Int) + (a : Int) < 64 := by omega
      go_upto_region 7 with fail
      go_upto_region 8 with fail
      have hM2 := HM.out.put h64 (1 + (z : Int))
      generalize World.setCell _ _ _ = V2 at hM2 ⊢
      have HM2 := hidIn hM2
      have s0 := hM2.t.cell (8 * a + b)
      rw [tc8_get _ h64, putV_same] at s0
      have s1 := hM2.t.cell (8 * b + a)
      rw [tc8_get _ h64'] at s1
      have sf1 := hM2.t.frozen (8 * b + a)
      clear hM2 t0 tf0 e2 mZ HM
      go_wp2_with fail
      go_roundw
      case rel => exact ⟨k + 1, by omega, by omega, by go_num, hidIn (by rw [HE.out]; exact HM2.out.put h64' _)⟩
      case measure => simp [intOf]; omega
    · have hni : ¬ ((k : Int) < (L.length : Int) ∧ (k : Int) < 12) := by omega
      have HT : Hid (WoM w wr (c7 cs) (wTb (L.take 12))) := hidIn (by
        have := HR.out
        rw [show L.take k = L.take 12 from by
          by_cases h : k = 12
          · rw [h]
          · rw [List.take_of_length_le (by omega), List.take_of_length_le (by omega)]] at this
        exact this)
      clear HR
      have HCok : Hid (WtOk (wTb (L.take 12))) := hidIn (wTb_ok _)
      obtain ⟨C, hC⟩ : ∃ C, wTb (L.take 12) = C := ⟨_, rfl⟩
      rw [hC] at HT HCok
      have HC12 := hidIn hC
      clear hC
      go_upto_region 3 with fail
      go_cut [21] (fun c wx => c = .bool false ∧ wx = wr)
      case first =>
        by_cases h1 : k < L.length
        · have h1i : (k : Int) < (L.length : Int) := by omega
          have h2i : ¬ (k : Int) < 12 := by omega
          clear hlt hni
          go_wp2_with fail
          go_meet
          exact ⟨rfl, rfl⟩
        · have h1i : ¬ (k : Int) < (L.length : Int) := by omega
          clear hlt hni
          go_wp2_with fail
          go_meet
          exact ⟨rfl, rfl⟩
      case rest =>
        obtain ⟨rfl, hwc⟩ := hcut
        rw [hwc]
        clear hwc wc hlt hni
        obtain ⟨f, hf⟩ : ∃ f : Nat → Int, (fun i => cs.getD i 0 % 20) = f := ⟨_, rfl⟩
        have Hf := hidIn hf
        clear hf
        go_wp2_with fail
        go_loopw [9, 10] (fun ov i wz => ∃ (a : Nat) (oa : Option Addr) (oc : Nat), a ≤ 7 ∧ i = .int .i64 a ∧ ov = .slice oa a oc ∧ Hid (∃ l : List (Rc × Value), l.length = a ∧ rcs l = wRs C f a ∧ WoM w wz (c7 cs) C ∧ RwAt (w.heap.size + 2) wz (.slice oa a oc) l)) (fun _ i _ => 7 - (intOf i).toNat)
        case atStart => exact ⟨0, none, 0, by omega, rfl, rfl, hidIn ⟨[], rfl, rfl, HT.out, ⟨World.ownsRow_nil _ _ _ _, fun _ hx => absurd hx List.not_mem_nil⟩⟩⟩
        case round =>
          clear HT
          obtain ⟨a, oa, oc, ha, rfl, rfl, HR⟩ := hrel
          obtain ⟨l, hla, hrs, hM, hRw⟩ := HR.out
          clear HR
          by_cases hlt : a < 7
          · have hai : (a : Int) < 7 := by omega
            obtain ⟨x, hx⟩ : ∃ x, cs[a]? = some x := ⟨cs[a]'(by have := Hcl.out; omega), List.getElem?_eq_getElem _⟩
            obtain ⟨hx0, hx1⟩ := Hcb.out x (List.mem_of_getElem? hx)
            obtain ⟨X, rfl⟩ : ∃ X : Nat, x = (X : Int) := ⟨x.toNat, by omega⟩
            have k0 := hM.k.cell a
            rw [List.getElem?_map, hx] at k0
            simp only [Option.map_some] at k0
            obtain ⟨xr, hxr⟩ : ∃ xr, X % 20 = xr := ⟨_, rfl⟩
            have hxr20 : xr < 20 := by omega
            have mX : (X : Int).tmod 20 = (xr : Int) := by rw [← hxr, Int.tmod_eq_emod_of_nonneg (by omega)]; rfl
            have HF : Hid (f a = (xr : Int)) := hidIn (by rw [← Hf.out]; simp only [List.getD_eq_getElem?_getD, hx, Option.getD_some]; omega)
            obtain ⟨W2, hW2⟩ : ∃ W2, wr.alloc (.cells #[.int .i64 ((a : Int) + 1), .int .u32 1, .int .u32 1, .int .i64 (xr : Int), .bool false, .slice none 0 0] 76) = W2 := ⟨_, rfl⟩
            obtain ⟨gb, hgb⟩ : ∃ gb, wr.heap.size = gb := ⟨_, rfl⟩
            have HG0 : Hid (RgM wr W2 gb ⟨(a : Int) + 1, 1, 1, (xr : Int), false, wAd C a 0⟩ (.slice none 0 0)) := hidIn (by
              refine ⟨by rw [← hW2, ← hgb]; exact heap_alloc_last wr _, World.ownsRow_nil _ _ _ _, by rw [← hW2, ← hgb]; exact (Below.refl _ wr).alloc (Nat.le_refl _) _⟩)
            have HM := hidIn hM
            have HRw := hidIn hRw
            have Hrs := hidIn hrs
            have Hla := hidIn hla
            have Hgb := hidIn hgb
            have Hgw : Hid (w.heap.size + 2 ≤ gb) := hidIn (by rw [← hgb]; have := hM.t.lt; omega)
            have HW2 := hidIn hW2
            have hkw : w.heap.size < wr.heap.size := by have := hM.t.lt; omega
            clear hW2 hgb hM hRw hx hxr hx0 hx1 hrs hla
            go_upto_region 14 with fail
            rw [HW2.out, Hgb.out]
            clear HW2 hkw k0 mX
            go_wp2_with fail
            go_loopw [12] (fun i wz => ∃ b : Nat, b ≤ 7 ∧ i = .int .i64 b ∧ Hid (∃ s, RgM wr wz gb ⟨(a : Int) + 1, 1, 1, (xr : Int), false, wAd C a b⟩ s)) (fun i _ => 7 - (intOf i).toNat)
            case atStart => exact ⟨0, by omega, rfl, hidIn ⟨_, HG0.out⟩⟩
            case round =>
              clear HG0
              obtain ⟨b, hb, rfl, HR⟩ := hrel
              obtain ⟨s, hG⟩ := HR.out
              clear HR
              by_cases hlt2 : b < 7
              · have hbi : (b : Int) < 7 := by omega
                have h64 : 8 * a + b < 64 := by omega
                have hi64 : 8 * (a : Int) + (b : Int) < 64 := by omega
                have hT := HM.out.t.keep hG.b (show w.heap.size + 1 < gb by have := Hgw.out; omega)
                have t0 := hT.cell (8 * a + b)
                rw [tc8_get _ h64] at t0
                have hrl := wAd_len C a b
                have HRS := hidIn (wAd_succ C a b)
                have HG := hidIn hG
                have hgs := block_lt hG.g
                have hts := hT.lt
                have d5 := cell_of_row _ _ 5 _ _ _ hG.g
                simp at d5
                clear hG hT
                obtain ⟨cv, hcv⟩ : ∃ cv, C (8 * a + b) = cv := ⟨_, rfl⟩
                rw [hcv] at t0 HRS
                clear hcv
                by_cases hc : 0 < cv
                · rw [if_pos hc] at HRS
                  obtain ⟨g2, cap2, w7, hrun, k1, k2, kt, h3⟩ := HG.out.drew.add ((b : Int) + 1, cv) (by simp only; omega)
                  have HRun := hidIn hrun
                  have H3 := hidIn h3
                  have hT7 := cell_regrown t0
                  have t7 : w7.cell? ⟨w.heap.size + 1, 8 * a + b, none⟩ = some (.int .i64 cv) := (kt.cell (p := ⟨w.heap.size + 1, 8 * a + b, none⟩) (show w.heap.size + 1 < gb + 1 by have := Hgw.out; omega)).trans t0
                  clear hrun h3 kt hT7
                  go_upto_region 18 with fail
                  have hw1 : IntKind.i64.wrap (8 * (a : Int)) = 8 * (a : Int) := by rw [IntKind.wrap_i64]; omega
                  have hw2 : IntKind.i64.wrap (8 * (a : Int) + (b : Int)) = 8 * (a : Int) + (b : Int) := by rw [IntKind.wrap_i64]; omega
                  have hw4 : IntKind.i64.wrap ((b : Int) + 1) = (b : Int) + 1 := by rw [IntKind.wrap_i64]; omega
                  have hw5 : (8 * (a : Int) + (b : Int)).toNat = 8 * a + b := by omega
                  have hw6 : 0 ≤ 8 * (a : Int) + (b : Int) := by omega
                  go_region_law ((refine step_append rfl (.tmp 93) (.tmp 104) 74 rfl (by kernel_rfl) (by kernel_rfl) HRun.out ?_))
                  all_goals
                    go_wp2_with fail
                    go_roundw
                    case rel => exact ⟨b + 1, by omega, by go_num, hidIn ⟨_, by rw [HRS.out]; exact H3.out⟩⟩
                    case measure => simp [intOf]; omega
                · rw [if_neg hc, List.append_nil] at HRS
                  clear d5
                  go_wp2_with fail
                  go_roundw
                  case rel => exact ⟨b + 1, by omega, by go_num, hidIn ⟨s, by rw [HRS.out]; exact HG.out⟩⟩
                  case measure => simp [intOf]; omega
              · have hbi : ¬ (b : Int) < 7 := by omega
                have hb7 : b = 7 := by omega
                rw [hb7] at hG
                clear hb7
                obtain ⟨sa, sc, rfl⟩ := row_shape hG.a
                have hM3 := HM.out.keep hG.b Hgw.out
                have hRw3 : RwAt (w.heap.size + 2) wr (.slice oa a oc) l := by
                  have hbz := hG.b
                  rw [← Hgb.out] at hbz
                  exact HRw.out.keep hbz
                have hsz : gb < wr.heap.size := block_lt hG.g
                have d0 := cell_of_row _ _ 0 _ _ _ hG.g
                have d1 := cell_of_row _ _ 1 _ _ _ hG.g
                have d2 := cell_of_row _ _ 2 _ _ _ hG.g
                have d3 := cell_of_row _ _ 3 _ _ _ hG.g
                have d4 := cell_of_row _ _ 4 _ _ _ hG.g
                have d5 := cell_of_row _ _ 5 _ _ _ hG.g
                simp at d0 d1 d2 d3 d4 d5
                obtain ⟨ad, had⟩ : ∃ ad, wAd C a 7 = ad := ⟨_, rfl⟩
                have HRc : Hid (wRc C f a = ⟨(a : Int) + 1, 1, 1, (xr : Int), false, ad⟩) := hidIn (by unfold wRc; rw [HF.out, had])
                rw [had] at hG d5
                clear had
                have hla := Hla.out
                rw [← hla] at hRw3
                obtain ⟨g9, gc9, w9, hrun, hR9, hb9⟩ := hRw3.more (x := (⟨(a : Int) + 1, 1, 1, (xr : Int), false, ad⟩, .slice sa ad.length sc)) (row_low hG.a (by have := Hgw.out; omega)) (by omega) (by have := Hgw.out; omega)
                rw [hla] at hrun hR9
                have HM9 := hidIn (hM3.keep hb9 (Nat.le_refl _))
                have HRun := hidIn hrun
                have HR9 := hidIn hR9
                have HRs : Hid (rcs (l ++ [(⟨(a : Int) + 1, 1, 1, (xr : Int), false, ad⟩, .slice sa ad.length sc)]) = wRs C f (a + 1)) := hidIn (by rw [wRs_succ, ← Hrs.out, HRc.out]; simp [rcs])
                have HL9 : Hid ((l ++ [((⟨(a : Int) + 1, 1, 1, (xr : Int), false, ad⟩ : Rc), (.slice sa ad.length sc : Value))]).length = a + 1) := hidIn (by rw [List.length_append, hla]; rfl)
                clear hM3 hRw3 hrun hR9 hb9 hG hla
                go_wp2_with (refine l_append rfl _ _ 22 rfl HRun.out ?_)
                go_roundw
                case rel => exact ⟨a + 1, by omega, by go_num, _, gc9, ⟨rfl, rfl, rfl⟩, hidIn ⟨_, HL9.out, HRs.out, HM9.out, HR9.out⟩⟩
                case measure => simp [intOf]; omega
          · have hai : ¬ (a : Int) < 7 := by omega
            have ha7 : a = 7 := by omega
            have HE : Hid (WldAns w wr (wRs (wTb (L.take 12)) (fun i => [x0, x1, x2, x3, x4, x5, x6].getD i 0 % 20) 7) (.returned (.slice oa a oc)) ∧ Below w.heap.size w wr) := hidIn (by
              refine ⟨⟨_, l, rfl, ?_, hRw.low (by omega)⟩, hM.b⟩
              rw [HC12.out, Hcs.out, hrs, ← Hf.out, ha7])
            clear ha7 hM hRw hrs hla
            go_wp2_with fail
            go_ret
            exact HE.out
end Go.Proofs.YtbggingacoheiaaGreatDoor
namespace Go.Proofs.YtbggingacoheiaaGreatDoor
open Go.RowKit

abbrev toE (x : En) : Et := (x.1.1, x.1.2.1, x.1.2.2.1, x.2)
abbrev enV (x : Rw) : Value := .agg #[.int .i64 x.1, .int .i64 x.2.1, .int .i64 x.2.2.1, rwS x]
set_option maxRecDepth 100000 in
set_option maxHeartbeats 2000000 in
theorem sameE_any {x y : En} {w : World} (hx : SlAt ic 1 w (rwS x.1) x.2) (hy : SlAt ic 1 w (rwS y.1) y.2) :
    Calls Tryz.prog 62 #[enV x.1, enV y.1] w fun e w' => e = .returned (.bool (decide (toE x = toE y))) ∧ Below w.heap.size w w' := by
  obtain ⟨⟨a0, a1, a2, a3, a4, a5⟩, an⟩ := x
  obtain ⟨⟨b0, b1, b2, b3, b4, b5⟩, bn⟩ := y
  simp only at hx hy
  obtain ⟨W1, hW1⟩ : ∃ W1, (w.alloc (enO a0 a1 a2 (.slice a3 a4 a5))).alloc (enO b0 b1 b2 (.slice b3 b4 b5)) = W1 := ⟨_, rfl⟩
  have hb : Below w.heap.size w W1 := by rw [← hW1]; exact ((Below.refl _ w).alloc (Nat.le_refl _) _).alloc (by simp) _
  have hA : W1.heap[w.heap.size]? = some (enO a0 a1 a2 (.slice a3 a4 a5)) := by rw [← hW1, Below.heap_alloc _ _ _ (by simp)]; exact heap_alloc_last w _
  have hB : W1.heap[w.heap.size + 1]? = some (enO b0 b1 b2 (.slice b3 b4 b5)) := by
    rw [← hW1]
    have := heap_alloc_last (w.alloc (enO a0 a1 a2 (.slice a3 a4 a5))) (enO b0 b1 b2 (.slice b3 b4 b5))
    rwa [World.size_alloc] at this
  obtain ⟨q, hq⟩ : ∃ q, w.heap.size = q := ⟨_, rfl⟩
  have HEq := hidIn (equalI (hx.keep hb (Nat.le_refl _)) (hy.keep hb (Nat.le_refl _)))
  have HB := hidIn hb
  rw [hq] at hA hB
  have s0 := cell_of_row _ _ 0 _ _ _ hA
  have s1 := cell_of_row _ _ 1 _ _ _ hA
  have s2 := cell_of_row _ _ 2 _ _ _ hA
  have s3 := cell_of_row _ _ 3 _ _ _ hA
  have t0 := cell_of_row _ _ 0 _ _ _ hB
  have t1 := cell_of_row _ _ 1 _ _ _ hB
  have t2 := cell_of_row _ _ 2 _ _ _ hB
  have t3 := cell_of_row _ _ 3 _ _ _ hB
  simp at s0 s1 s2 s3 t0 t1 t2 t3
  obtain ⟨r, hr⟩ : ∃ r, decide (toE (((a0, a1, a2, a3, a4, a5), an) : En) = toE ((b0, b1, b2, b3, b4, b5), bn)) = r := ⟨_, rfl⟩
  obtain ⟨n, hn⟩ : ∃ n, decide (an = bn) = n := ⟨_, rfl⟩
  have hr' : r = (decide (a0 = b0) && (decide (a1 = b1) && (decide (a2 = b2) && n))) := by
    rw [← hr, ← hn]
    simp only [toE, Prod.mk.injEq, Bool.decide_and]
  rw [hr]
  rw [hn] at HEq
  have HR := hidIn hr'
  have HW := hidIn hW1
  clear hx hy hb hA hB hr hn hr' hW1
  go_enter Tryz.func62, Tryz.ntmps62
  go_upto_region 1 with fail
  rw [HW.out]
  clear HW hq
  by_cases h0 : a0 = b0
  rotate_left
  · have d0 : (a0 == b0) = false := by simpa using h0
    have HE : Hid (r = false) := hidIn (by rw [HR.out, decide_eq_false h0]; rfl)
    clear h0 HEq
    go_wp2_with fail
    go_ret
    exact ⟨by rw [HE.out]; rfl, HB.out⟩
  have d0 : (a0 == b0) = true := by simpa using h0
  have H0 := hidIn h0
  clear h0
  by_cases h1 : a1 = b1
  rotate_left
  · have d1 : (a1 == b1) = false := by simpa using h1
    have HE : Hid (r = false) := hidIn (by rw [HR.out, decide_eq_false h1]; simp)
    clear h1 HEq
    go_wp2_with fail
    go_ret
    exact ⟨by rw [HE.out]; rfl, HB.out⟩
  have d1 : (a1 == b1) = true := by simpa using h1
  have H1 := hidIn h1
  clear h1
  by_cases h2 : a2 = b2
  rotate_left
  · have d2 : (a2 == b2) = false := by simpa using h2
    have HE : Hid (r = false) := hidIn (by rw [HR.out, decide_eq_false h2]; simp)
    clear h2 HEq
    go_wp2_with fail
    go_ret
    exact ⟨by rw [HE.out]; rfl, HB.out⟩
  have d2 : (a2 == b2) = true := by simpa using h2
  have HE : Hid (r = n) := hidIn (by rw [HR.out, decide_eq_true H0.out, decide_eq_true H1.out, decide_eq_true h2]; rfl)
  clear h2
  go_wp2_with fail
  refine HEq.out.mono ?_
  rintro e w2 ⟨rfl, hb2⟩
  have HB2 := hidIn (HB.out.trans (hb2.mono HB.out.size))
  clear hb2 HEq
  go_wp2_with fail
  go_ret
  exact ⟨by rw [HE.out]; rfl, HB2.out⟩
abbrev sameF : Value := .func (.func 62) #[] #[]
theorem call_same (args : Array Value) (w : World) : (callFunc 62 args).run Tryz.prog w = .ok (.enter 62 args) w := by kernel_rfl
theorem toT_get {es : List En} {k : Nat} {x : En} (h : es[k]? = some x) : (toT es)[k]? = some (toE x) := by rw [toT, List.getElem?_map, h]; rfl
set_option maxRecDepth 100000 in
set_option maxHeartbeats 4000000 in
theorem eqF_any {a b : List En} {va vb : Value} {w : World} (ha : EnAt w va a) (hb : EnAt w vb b) :
    Calls Tryz.prog 61 #[va, vb, sameF] w fun e w' => e = .returned (.bool (decide (toT a = toT b))) ∧ Below w.heap.size w w' := by
  obtain ⟨aa, ca, rfl, hla, _, hca⟩ := ha.op
  obtain ⟨ab, cb, rfl, hlb, _, hcb⟩ := hb.op
  have Ha := hidIn hca
  have Hb := hidIn hcb
  have HcF := hidIn call_same
  clear hca hcb ha hb
  by_cases hlen : a.length = b.length
  · obtain ⟨m, hm⟩ : ∃ m, b.length = m := ⟨_, rfl⟩
    have hlen2 : a.length = m := by rw [hlen, hm]
    rw [hm] at hlb Hb ⊢
    rw [hlen2] at hla Ha ⊢
    obtain ⟨r, hr⟩ : ∃ r, decide (toT a = toT b) = r := ⟨_, rfl⟩
    rw [hr]
    have HR := hidIn hr
    have Hm := hidIn hm
    have HL := hidIn hlen2
    clear hm hlen2 hlen hr
    go_enter Tryz.func61, Tryz.ntmps61
    go_wp2_with fail
    go_loopw [17] (fun i wr => ∃ k : Nat, k ≤ m ∧ i = .int .i64 k ∧ Hid (Below w.heap.size w wr ∧ r = decide ((toT a).drop k = (toT b).drop k))) (fun i _ => m - (intOf i).toNat)
    case atStart => exact ⟨0, Nat.zero_le _, rfl, hidIn ⟨Below.refl _ _, by rw [List.drop_zero, List.drop_zero]; exact HR.out.symm⟩⟩
    case round =>
      obtain ⟨k, hk, rfl, HI⟩ := hrel
      obtain ⟨hbel, hrest⟩ := HI.out
      have HB := hidIn hbel
      have HE := hidIn hrest
      clear HI hbel hrest
      by_cases hlt : k < m
      · obtain ⟨b1, o1, rfl, hb1, c1⟩ := Ha.out (by omega)
        obtain ⟨b2, o2, rfl, hb2, c2⟩ := Hb.out (by omega)
        obtain ⟨x, hx⟩ : ∃ x, a[k]? = some x := ⟨a[k]'(by have := HL.out; omega), List.getElem?_eq_getElem _⟩
        obtain ⟨y, hy⟩ : ∃ y, b[k]? = some y := ⟨b[k]'(by have := Hm.out; omega), List.getElem?_eq_getElem _⟩
        have HN : Hid (r = (decide (toE x = toE y) && decide ((toT a).drop (k + 1) = (toT b).drop (k + 1)))) := hidIn (by rw [HE.out, dropEq (toT_get hx) (toT_get hy)])
        obtain ⟨p0, p1, p2, p3, p4, p5⟩ := c1 k x hx
        obtain ⟨q0, q1, q2, q3, q4, q5⟩ := c2 k y hy
        clear p5 q5
        have e0 := (HB.out.cell (p := ⟨b1, o1 + k * 4, none⟩) hb1).trans p0
        have e1 := (HB.out.cell (p := ⟨b1, o1 + k * 4 + 1, none⟩) hb1).trans p1
        have e2 := (HB.out.cell (p := ⟨b1, o1 + k * 4 + 2, none⟩) hb1).trans p2
        have e3 := (HB.out.cell (p := ⟨b1, o1 + k * 4 + 3, none⟩) hb1).trans p3
        have f0 := (HB.out.cell (p := ⟨b2, o2 + k * 4, none⟩) hb2).trans q0
        have f1 := (HB.out.cell (p := ⟨b2, o2 + k * 4 + 1, none⟩) hb2).trans q1
        have f2 := (HB.out.cell (p := ⟨b2, o2 + k * 4 + 2, none⟩) hb2).trans q2
        have f3 := (HB.out.cell (p := ⟨b2, o2 + k * 4 + 3, none⟩) hb2).trans q3
        have hB2 : b2 < wr.heap.size := Nat.lt_of_lt_of_le hb2 HB.out.size
        obtain ⟨W1, hW1⟩ : ∃ W1, (wr.alloc (enO x.1.1 x.1.2.1 x.1.2.2.1 (rwS x.1))).alloc (enO y.1.1 y.1.2.1 y.1.2.2.1 (rwS y.1)) = W1 := ⟨_, rfl⟩
        have hbW : Below wr.heap.size wr W1 := by rw [← hW1]; exact ((Below.refl _ wr).alloc (Nat.le_refl _) _).alloc (by simp) _
        have hB1 := HB.out.trans (hbW.mono HB.out.size)
        have HS := hidIn (sameE_any (p4.keep hB1 (Nat.le_refl _)) (q4.keep hB1 (Nat.le_refl _)))
        have HBW := hidIn hB1
        have hA : W1.heap[wr.heap.size]? = some (enO x.1.1 x.1.2.1 x.1.2.2.1 (rwS x.1)) := by rw [← hW1, Below.heap_alloc _ _ _ (by simp)]; exact heap_alloc_last wr _
        have hB : W1.heap[wr.heap.size + 1]? = some (enO y.1.1 y.1.2.1 y.1.2.2.1 (rwS y.1)) := by
          rw [← hW1]
          have := heap_alloc_last (wr.alloc (enO x.1.1 x.1.2.1 x.1.2.2.1 (rwS x.1))) (enO y.1.1 y.1.2.1 y.1.2.2.1 (rwS y.1))
          rwa [World.size_alloc] at this
        obtain ⟨⟨a0, a1, a2, a3, a4, a5⟩, an⟩ := x
        obtain ⟨⟨z0, z1, z2, z3, z4, z5⟩, zn⟩ := y
        simp only at e0 e1 e2 e3 f0 f1 f2 f3 hW1 hA hB HS
        obtain ⟨qq, hqq⟩ : ∃ qq, wr.heap.size = qq := ⟨_, rfl⟩
        rw [hqq] at hA hB
        have hB2' : b2 < qq := by omega
        have s0 := cell_of_row _ _ 0 _ _ _ hA
        have s1 := cell_of_row _ _ 1 _ _ _ hA
        have s2 := cell_of_row _ _ 2 _ _ _ hA
        have s3 := cell_of_row _ _ 3 _ _ _ hA
        have t0 := cell_of_row _ _ 0 _ _ _ hB
        have t1 := cell_of_row _ _ 1 _ _ _ hB
        have t2 := cell_of_row _ _ 2 _ _ _ hB
        have t3 := cell_of_row _ _ 3 _ _ _ hB
        simp at s0 s1 s2 s3 t0 t1 t2 t3
        have hki : (k : Int) < (m : Int) := by omega
        have HW := hidIn hW1
        obtain ⟨rr, hrr⟩ : ∃ rr, decide (toE (((a0, a1, a2, a3, a4, a5), an) : En) = toE ((z0, z1, z2, z3, z4, z5), zn)) = rr := ⟨_, rfl⟩
        rw [hrr] at HN HS
        clear c1 c2 hx hy p0 p1 p2 p3 p4 q0 q1 q2 q3 q4 hbW hB1 hW1 hA hB hrr
        go_upto_region 7 with fail
        rw [HW.out]
        clear HW hqq e0 e1 e2 e3 f0 f1 f2 f3
        have hcF := HcF.out
        go_wp2_with fail
        refine HS.out.mono ?_
        rintro e w2 ⟨rfl, hb2⟩
        have HB2 := hidIn (HBW.out.trans (hb2.mono HBW.out.size))
        clear hb2 HS hcF
        cases rr
        · have HF : Hid (r = false) := hidIn (by rw [HN.out]; rfl)
          go_wp2_with fail
          go_ret
          exact ⟨by rw [HF.out]; rfl, HB2.out⟩
        · have HF : Hid (r = decide ((toT a).drop (k + 1) = (toT b).drop (k + 1))) := hidIn (by rw [HN.out]; rfl)
          go_wp2_with fail
          go_roundw
          case rel => exact ⟨k + 1, by omega, by go_num, hidIn ⟨HB2.out, HF.out⟩⟩
          case measure => simp [intOf]; omega
      · have hki : ¬ ((k : Int) < (m : Int)) := by omega
        have HT : Hid (r = true) := hidIn (by rw [HE.out, List.drop_eq_nil_of_le (by rw [List.length_map]; have := HL.out; omega), List.drop_eq_nil_of_le (by rw [List.length_map]; have := Hm.out; omega)]; rfl)
        go_wp2_with fail
        go_ret
        exact ⟨by rw [HT.out]; rfl, HB.out⟩
  · have hne : ((a.length : Int) != (b.length : Int)) = true := by
      simp only [bne_iff_ne, ne_eq]
      omega
    have HT : Hid (decide (toT a = toT b) = false) := hidIn (by simp only [decide_eq_false_iff_not]; intro h; have := congrArg List.length h; rw [List.length_map, List.length_map] at this; exact hlen this)
    rw [HT.out]
    clear hlen
    generalize a.length = n at *
    generalize b.length = m at *
    go_enter Tryz.func61, Tryz.ntmps61
    go_wp2_with fail
    go_ret
    exact ⟨rfl, Below.refl _ _⟩
set_option maxRecDepth 100000 in
set_option maxHeartbeats 2000000 in
theorem tsame_any {a b : List En} {va vb : Value} {w : World} (ha : EnAt w va a) (hb : EnAt w vb b) (s1 w1 o1 s2 w2 o2 : Int) :
    Calls Tryz.prog 18 #[tbV s1 w1 o1 va, tbV s2 w2 o2 vb] w fun e w' => e = .returned (.bool (decide (s1 = s2) && (decide (w1 = w2) && (decide (o1 = o2) && decide (toT a = toT b))))) ∧ Below w.heap.size w w' := by
  obtain ⟨W1, hW1⟩ : ∃ W1, (w.alloc (tbO s1 w1 o1 va)).alloc (tbO s2 w2 o2 vb) = W1 := ⟨_, rfl⟩
  have hbl : Below w.heap.size w W1 := by rw [← hW1]; exact ((Below.refl _ w).alloc (Nat.le_refl _) _).alloc (by simp) _
  have hA : W1.heap[w.heap.size]? = some (tbO s1 w1 o1 va) := by rw [← hW1, Below.heap_alloc _ _ _ (by simp)]; exact heap_alloc_last w _
  have hB : W1.heap[w.heap.size + 1]? = some (tbO s2 w2 o2 vb) := by
    rw [← hW1]
    have := heap_alloc_last (w.alloc (tbO s1 w1 o1 va)) (tbO s2 w2 o2 vb)
    rwa [World.size_alloc] at this
  have HEq := hidIn (eqF_any (ha.keep hbl (Nat.le_refl _)) (hb.keep hbl (Nat.le_refl _)))
  obtain ⟨aa, ca, rfl, hla, _, _⟩ := ha.op
  obtain ⟨ab, cb, rfl, hlb, _, _⟩ := hb.op
  obtain ⟨q, hq⟩ : ∃ q, w.heap.size = q := ⟨_, rfl⟩
  have HB := hidIn hbl
  rw [hq] at hA hB
  have c0 := cell_of_row _ _ 0 _ _ _ hA
  have c1 := cell_of_row _ _ 1 _ _ _ hA
  have c2 := cell_of_row _ _ 2 _ _ _ hA
  have c3 := cell_of_row _ _ 3 _ _ _ hA
  have t0 := cell_of_row _ _ 0 _ _ _ hB
  have t1 := cell_of_row _ _ 1 _ _ _ hB
  have t2 := cell_of_row _ _ 2 _ _ _ hB
  have t3 := cell_of_row _ _ 3 _ _ _ hB
  simp at c0 c1 c2 c3 t0 t1 t2 t3
  obtain ⟨r, hr⟩ : ∃ r, (decide (s1 = s2) && (decide (w1 = w2) && (decide (o1 = o2) && decide (toT a = toT b)))) = r := ⟨_, rfl⟩
  obtain ⟨n, hn⟩ : ∃ n, decide (toT a = toT b) = n := ⟨_, rfl⟩
  have hr' : r = (decide (s1 = s2) && (decide (w1 = w2) && (decide (o1 = o2) && n))) := by
    rw [← hr, ← hn]
  rw [hr]
  rw [hn] at HEq
  have HR := hidIn hr'
  have HW := hidIn hW1
  generalize a.length = la at *
  generalize b.length = lb at *
  clear ha hb hbl hA hB hr hn hr' hW1
  go_enter Tryz.func18, Tryz.ntmps18
  go_upto_region 1 with fail
  rw [HW.out]
  clear HW hq
  by_cases h0 : s1 = s2
  rotate_left
  · have d0 : (s1 == s2) = false := by simpa using h0
    have HE : Hid (r = false) := hidIn (by rw [HR.out, decide_eq_false h0]; rfl)
    clear h0 HEq
    go_wp2_with fail
    go_ret
    exact ⟨by rw [HE.out]; rfl, HB.out⟩
  have d0 : (s1 == s2) = true := by simpa using h0
  have H0 := hidIn h0
  clear h0
  by_cases h1 : w1 = w2
  rotate_left
  · have d1 : (w1 == w2) = false := by simpa using h1
    have HE : Hid (r = false) := hidIn (by rw [HR.out, decide_eq_false h1]; simp)
    clear h1 HEq
    go_wp2_with fail
    go_ret
    exact ⟨by rw [HE.out]; rfl, HB.out⟩
  have d1 : (w1 == w2) = true := by simpa using h1
  have H1 := hidIn h1
  clear h1
  by_cases h2 : o1 = o2
  rotate_left
  · have d2 : (o1 == o2) = false := by simpa using h2
    have HE : Hid (r = false) := hidIn (by rw [HR.out, decide_eq_false h2]; simp)
    clear h2 HEq
    go_wp2_with fail
    go_ret
    exact ⟨by rw [HE.out]; rfl, HB.out⟩
  have d2 : (o1 == o2) = true := by simpa using h2
  have HE : Hid (r = n) := hidIn (by rw [HR.out, decide_eq_true H0.out, decide_eq_true H1.out, decide_eq_true h2]; rfl)
  clear h2
  go_wp2_with fail
  refine HEq.out.mono ?_
  rintro e w2 ⟨rfl, hb2⟩
  have HB2 := hidIn (HB.out.trans (hb2.mono HB.out.size))
  clear hb2 HEq
  go_wp2_with fail
  go_ret
  exact ⟨by rw [HE.out]; rfl, HB2.out⟩
end Go.Proofs.YtbggingacoheiaaGreatDoor
namespace Go.Proofs.YtbggingacoheiaaGreatDoor
open Go.RowKit

/-- What is told of records: the id of one's own, the entries. -/
def oT (self : Int) (W : List Rr) (rs : List Rc) : Int := ownT self (toldW W (freeT (allC (rs.filter fun x => (ofW W x.origin).isSome))))
def eT (self : Int) (wd : Nat) (W : List Rr) (rs : List Rc) : List Et := entsT self wd (toldW W (freeT (allC (rs.filter fun x => (ofW W x.origin).isSome))))
theorem ans16 {w w' : World} {l : List (Rc × Value)} {self : Int} {e : Ending} (h : BldAns w w' l self 16 e) (hl : bothOk no1 (rcs l) = true) :
    ∃ W es a c, WaysIs l self W ∧ e = .returned (.tuple #[tbV self 16 (oT self W (rcs l)) (.slice a es.length c), .int .i64 0]) ∧ toT es = eT self 16 W (rcs l) ∧ EnAt w' (.slice a es.length c) es := by
  obtain ⟨W, u, h1, h2, h3⟩ := h.told hl
  rw [show ((16 : Nat) : Int) = 16 from rfl] at h2
  obtain ⟨es, h4, h5⟩ := h3.at
  obtain ⟨a, c, rfl, _⟩ := h5.op
  exact ⟨W, es, a, c, h1, h2, h4, h5⟩
theorem wRs_facts {c C : Nat → Int} {n : Nat} : (∀ r ∈ wRs c C 7, r.origin ≤ 7) ∧ (∀ r ∈ wRs c C 7, ∀ x ∈ r.adjs, x.1 ≤ 7) ∧ (n < 7 → ∃ r ∈ wRs c C 7, r.origin = (n : Int) + 1) := by
  refine ⟨fun r hr => ?_, fun r hr x hx => ?_, fun hn => ⟨wRc c C n, wRs_mem.2 ⟨n, hn, rfl⟩, rfl⟩⟩
  · obtain ⟨a, ha, rfl⟩ := wRs_mem.1 hr
    show (a : Int) + 1 ≤ 7
    omega
  · obtain ⟨a, ha, rfl⟩ := wRs_mem.1 hr
    obtain ⟨b, hb, _, rfl⟩ := wAd_mem.1 hx
    show (b : Int) + 1 ≤ 7
    omega
theorem rev_get {α : Type} {l : List α} {k : Nat} (h : k < l.length) : l.reverse[k]? = l[l.length - 1 - k]? := List.getElem?_reverse h
set_option maxRecDepth 100000 in
set_option maxHeartbeats 8000000 in
theorem tableOrder_walk {L : List Ed} {v : Value} {cs : List Int} {w : World} (h : SlAt lc13 3 w v L) (hL : LkB13 L) (hc : cs.length = 7) (hcb : ∀ x ∈ cs, 0 ≤ x ∧ x ≤ 255) (A : Nat) (hA : A ≤ 255) (ht : Wid w) :
    Calls Tryz.prog 7 #[v, .agg (c7 cs).toArray, .int .u8 A] w fun e w' => e = .returned (.bool true) ∧ Below w.heap.size w w' := by
  obtain ⟨va, vc, rfl, hvl, _, _⟩ := h.lk13
  obtain ⟨f, hf⟩ : ∃ f : Nat → Int, (fun i => cs.getD i 0 % 20) = f := ⟨_, rfl⟩
  have Hfb : Hid (∀ i, i < 7 → 0 ≤ f i ∧ f i ≤ 1024) := hidIn fun i _ => by rw [← hf]; simp only; omega
  obtain ⟨x0, x1, x2, x3, x4, x5, x6, rfl⟩ : ∃ x0 x1 x2 x3 x4 x5 x6, cs = [x0, x1, x2, x3, x4, x5, x6] := by
    match cs, hc with
    | [x0, x1, x2, x3, x4, x5, x6], _ => exact ⟨x0, x1, x2, x3, x4, x5, x6, rfl⟩
  obtain ⟨W1, hW1⟩ : ∃ W1, w.alloc (.cells #[.int .u8 x0, .int .u8 x1, .int .u8 x2, .int .u8 x3, .int .u8 x4, .int .u8 x5, .int .u8 x6] 57) = W1 := ⟨_, rfl⟩
  have bA : Below w.heap.size w W1 := by rw [← hW1]; exact (Below.refl _ w).alloc (Nat.le_refl _) _
  have hK : W1.heap[w.heap.size]? = some (.cells #[.int .u8 x0, .int .u8 x1, .int .u8 x2, .int .u8 x3, .int .u8 x4, .int .u8 x5, .int .u8 x6] 57) := by rw [← hW1]; exact heap_alloc_last w _
  have HWo : Hid (Calls Tryz.prog 29 #[.slice va L.length vc, .agg #[.int .u8 x0, .int .u8 x1, .int .u8 x2, .int .u8 x3, .int .u8 x4, .int .u8 x5, .int .u8 x6]] W1 fun e w' => WldAns W1 w' (wRs (wTb (L.take 12)) f 7) e ∧ Below W1.heap.size W1 w') := hidIn (by rw [← hf]; exact world_any (h.keep bA (Nat.le_refl _)) hL hc hcb)
  have HCok := hidIn (wTb_ok (L.take 12))
  obtain ⟨C, hC⟩ : ∃ C, wTb (L.take 12) = C := ⟨_, rfl⟩
  rw [hC] at HWo HCok
  obtain ⟨q0, hq0⟩ : ∃ q0, w.heap.size = q0 := ⟨_, rfl⟩
  rw [hq0] at hK
  have k0 := cell_of_row _ _ 0 _ _ _ hK
  have k1 := cell_of_row _ _ 1 _ _ _ hK
  have k2 := cell_of_row _ _ 2 _ _ _ hK
  have k3 := cell_of_row _ _ 3 _ _ _ hK
  have k4 := cell_of_row _ _ 4 _ _ _ hK
  have k5 := cell_of_row _ _ 5 _ _ _ hK
  have k6 := cell_of_row _ _ 6 _ _ _ hK
  simp at k0 k1 k2 k3 k4 k5 k6
  obtain ⟨a, ha⟩ : ∃ a, A % 7 = a := ⟨_, rfl⟩
  have ha7 : a < 7 := by omega
  have mA : (A : Int).tmod 7 = (a : Int) := by rw [← ha, Int.tmod_eq_emod_of_nonneg (by omega)]; rfl
  have hA' : (A : Int) ≤ 255 := by omega
  have HB1 := hidIn bA
  have Ht := hidIn (ht.keep bA)
  have HW := hidIn hW1
  have HU := hidIn (wRs_unl HCok.out Hfb.out)
  have HFa := hidIn (wRs_facts (c := C) (C := f) (n := a))
  generalize L.length = ln at *
  clear h hL hc hcb hf bA hK hW1 hC ha ht hA HCok
  go_enter Tryz.func7, Tryz.ntmps7
  go_upto_region 1 with fail
  rw [HW.out]
  clear HW hq0
  go_wp2_with fail
  refine HWo.out.mono ?_
  rintro e w2 ⟨⟨u, l, rfl, hl, hR⟩, hb2⟩
  have hln : l.length = 7 := by have := congrArg List.length hl; simpa [wRs] using this
  have hB2 := HB1.out.trans (hb2.mono HB1.out.size)
  have Hl := hidIn hl
  have hT2 := Ht.out.keep hb2
  have HBd : Hid (Calls Tryz.prog 10 #[.int .i64 (1 + (a : Int)), .int .i64 16, u] w2 fun e w' => BldAns w2 w' l (1 + (a : Int)) 16 e ∧ Below w2.heap.size w2 w') := hidIn (build_ok hR.recs hT2 (self := 1 + (a : Int)) (by omega) (wd := 16) (by unfold IsW; omega) (by omega) (by rw [hl]; exact both_unl.2 HU.out))
  obtain ⟨ua, uc, rfl⟩ := row_shape hR.r
  rw [hln] at HBd hR ⊢
  have HR2 := hidIn hR
  have HB2 := hidIn hB2
  have HT2 := hidIn hT2
  have Hln := hidIn hln
  clear hl hR hb2 hB2 hT2 hln HWo k0 k1 k2 k3 k4 k5 k6
  go_wp2_with fail
  refine HBd.out.mono ?_
  rintro e w3 ⟨hA3, hb3⟩
  obtain ⟨Ws, es, ta, tc, hWs, rfl, hT, hE⟩ := ans16 hA3 (by rw [Hl.out]; exact both_unl.2 HU.out)
  obtain ⟨tn, htn⟩ : ∃ tn, es.length = tn := ⟨_, rfl⟩
  obtain ⟨own, hown⟩ : ∃ own, oT (1 + (a : Int)) Ws (rcs l) = own := ⟨_, rfl⟩
  rw [htn] at hE ⊢
  rw [hown]
  obtain ⟨w4, hw4⟩ : ∃ w4, w3.alloc (tbO (1 + (a : Int)) 16 own (.slice ta tn tc)) = w4 := ⟨_, rfl⟩
  have b4 : Below w3.heap.size w3 w4 := by rw [← hw4]; exact (Below.refl _ w3).alloc (Nat.le_refl _) _
  have hz4 : w4.heap[w3.heap.size]? = some (tbO (1 + (a : Int)) 16 own (.slice ta tn tc)) := by rw [← hw4]; exact heap_alloc_last w3 _
  obtain ⟨q4, hq4⟩ : ∃ q4, w3.heap.size = q4 := ⟨_, rfl⟩
  rw [hq4] at hz4
  have c4 := hb3.trans (b4.mono hb3.size)
  have HB4 := hidIn (HB2.out.trans (c4.mono HB2.out.size))
  have HR4 := hidIn (HR2.out.keep c4)
  have HT4 := hidIn (HT2.out.keep c4)
  have HE4 := hidIn (hE.keep b4 (Nat.le_refl _))
  have HZ4 := hidIn hz4
  have HWs := hidIn hWs
  have HTo := hidIn hT
  have Hown := hidIn hown
  have HW4 := hidIn hw4
  clear hA3 hb3 hWs hT hE htn hown hw4 b4 hz4 c4 HBd HR2 HB2 HT2
  go_upto_region 4 with fail
  rw [HW4.out]
  clear HW4 hq4
  go_wp2_with fail
  go_loopw [11, 12] (fun ov i wz => ∃ (k : Nat) (oa : Option Addr) (oc : Nat), k ≤ 7 ∧ i = .int .i64 (6 - (k : Int)) ∧ ov = .slice oa k oc ∧ Hid (Below w4.heap.size w4 wz ∧ wz.ownsRow w4.heap.size 76 6 (.slice oa k oc) k (fl rcc (l.reverse.take k)))) (fun _ i _ => (intOf i + 1).toNat)
  case atStart => exact ⟨0, none, 0, by omega, rfl, rfl, hidIn ⟨Below.refl _ _, World.ownsRow_nil _ _ _ _⟩⟩
  case round =>
    obtain ⟨k, oa, oc, hk, rfl, rfl, HM⟩ := hrel
    obtain ⟨hbz, hrz⟩ := HM.out
    clear HM
    by_cases hlt : k < 7
    · obtain ⟨j, hj⟩ : ∃ j : Nat, 6 - k = j := ⟨_, rfl⟩
      have hji : 6 - (k : Int) = (j : Int) := by omega
      have hj7 : (j : Int) < 7 := by omega
      obtain ⟨x, hx⟩ : ∃ x, l[j]? = some x := ⟨l[j]'(by have := Hln.out; omega), List.getElem?_eq_getElem _⟩
      have hxr : l.reverse[k]? = some x := by rw [rev_get (by have := Hln.out; omega), Hln.out, show 7 - 1 - k = j by omega]; exact hx
      obtain ⟨a', c', he, _, _, hcl⟩ := (HR4.out.recs.keep hbz (Nat.le_refl _)).r.recs
      simp only [Value.slice.injEq] at he
      obtain ⟨hua, hxx, hyy⟩ := he
      subst hua
      obtain ⟨bk, o, rfl, hbk, hcell⟩ := hcl (by have := Hln.out; omega)
      obtain ⟨e0, e1, e2, e3, e4, e5⟩ := hcell j x hx
      have Htk : Hid (l.reverse.take (k + 1) = l.reverse.take k ++ [x]) := hidIn (take_snoc hxr)
      obtain ⟨g9, gc9, w9, hrun, hown9, hb9, _⟩ := append_recT hrz x (row_one (HR4.out.a x (List.mem_of_getElem? hx))) (by omega) hbz.size
      have HRun := hidIn hrun
      have HO : Hid (Below w4.heap.size w4 w9 ∧ w9.ownsRow w4.heap.size 76 6 (.slice (some ⟨g9, 0, none⟩) (k + 1) gc9) (k + 1) (fl rcc (l.reverse.take (k + 1)))) := hidIn (by rw [Htk.out]; exact ⟨hbz.trans hb9, hown9⟩)
      obtain ⟨⟨r0, r1, r2, r3, r4, r5⟩, rv⟩ := x
      obtain ⟨ra, rn, rc', rfl⟩ : ∃ a n c, rv = .slice a n c := by
        obtain ⟨a, c, h1⟩ := row_shape (HR4.out.a _ (List.mem_of_getElem? hx))
        exact ⟨a, _, c, h1⟩
      simp only at e0 e1 e2 e3 e4 e5
      rw [hji]
      clear hxx hyy hcl hcell hx hxr hrun hown9 hb9 hbz hrz hbk hj
      go_wp2_with (refine l_append rfl _ _ 22 rfl HRun.out ?_)
      go_roundw
      case rel => exact ⟨k + 1, _, gc9, by omega, by go_num, rfl, HO⟩
      case measure => simp [intOf]
    · have hk7 : k = 7 := by omega
      subst hk7
      have hneg : ¬ (0 : Int) ≤ 6 - ((7 : Nat) : Int) := by omega
      rw [List.take_of_length_le (by rw [List.length_reverse, Hln.out]; exact Nat.le_refl _)] at hrz
      obtain ⟨W5, hW5⟩ : ∃ W5, wr.alloc (.cells #[.int .i64 (1 + (a : Int)), .int .i64 1] 83) = W5 := ⟨_, rfl⟩
      have b5 : Below wr.heap.size wr W5 := by rw [← hW5]; exact (Below.refl _ wr).alloc (Nat.le_refl _) _
      have hz5 : W5.heap[wr.heap.size]? = some (.cells (fl ac [(1 + (a : Int), 1)]).toArray 83) := by rw [← hW5]; exact heap_alloc_last wr _
      have hs5 : W5.heap.size = wr.heap.size + 1 := by rw [← hW5, World.size_alloc]
      obtain ⟨q5, hq5⟩ : ∃ q5, wr.heap.size = q5 := ⟨_, rfl⟩
      rw [hq5] at hz5 hs5
      have c5 := hbz.trans (b5.mono hbz.size)
      have hrow5 : W5.ownsRow w4.heap.size 83 2 (.slice (some ⟨q5, 0, none⟩) 1 1) 1 (fl ac [(1 + (a : Int), 1)]) := ⟨rfl, .inr ⟨q5, 1, _, rfl, by rw [← hq5]; exact hbz.size, hz5, Nat.le_refl _, by unfold maxLen; omega, rfl, rfl⟩⟩
      obtain ⟨g9, gc9, w9, hrun, hown9, hb9, hF9⟩ := append_recT (row_below hrz b5 (Nat.le_refl _)) (far20 (1 + (a : Int)), .slice (some ⟨q5, 0, none⟩) 1 1) rfl (by omega) c5.size
      rw [hs5] at hrun
      have c9 := c5.trans hb9
      have hR9 : RecsAt w9 (.slice (some ⟨g9, 0, none⟩) 8 gc9) (l.reverse ++ [(far20 (1 + (a : Int)), .slice (some ⟨q5, 0, none⟩) 1 1)]) := by
        refine ⟨slAt_of_row (cs := rcc) (fun _ => rfl) hown9 (by rw [List.length_append, List.length_reverse, Hln.out]; rfl), fun y hy => ?_⟩
        rcases List.mem_append.1 hy with hy | hy
        · exact (HR4.out.recs.a y (List.mem_reverse.1 hy)).keep c9 (Nat.le_refl _)
        · rw [List.mem_singleton.1 hy]
          exact slAt_of_row (cs := ac) (fun _ => rfl) (row_offR hrow5 hF9) rfl
      have hrc9 : rcs (l.reverse ++ [(far20 (1 + (a : Int)), .slice (some ⟨q5, 0, none⟩) 1 1)]) = turnR (1 + (a : Int)) (wRs C f 7) := by
        rw [← Hl.out]
        simp [rcs, turnR, List.map_reverse]
      have hU9 := turn_unl HU.out (self := 1 + (a : Int)) (by omega) HFa.out.1
      obtain ⟨L9, hL9⟩ : ∃ L9, l.reverse ++ [((far20 (1 + (a : Int)) : Rc), (.slice (some ⟨q5, 0, none⟩) 1 1 : Value))] = L9 := ⟨_, rfl⟩
      rw [hL9] at hR9 hrc9
      have hL9n : L9.length = 8 := by rw [← hL9, List.length_append, List.length_reverse, Hln.out]; rfl
      have HBd : Hid (Calls Tryz.prog 10 #[.int .i64 (1 + (a : Int)), .int .i64 16, .slice (some ⟨g9, 0, none⟩) 8 gc9] w9 fun e w' => BldAns w9 w' L9 (1 + (a : Int)) 16 e ∧ Below w9.heap.size w9 w') := hidIn (build_ok hR9 (HT4.out.keep c9) (self := 1 + (a : Int)) (by omega) (wd := 16) (by unfold IsW; omega) (by omega) (by rw [hrc9]; exact both_unl.2 hU9))
      have HRun := hidIn hrun
      have HC9 := hidIn c9
      have Hrc9 := hidIn hrc9
      have HU9 := hidIn hU9
      have HW5 : Hid (wr.alloc (.cells #[.int .i64 (1 + (a : Int)), .int .i64 1] 83) = W5) := hidIn hW5
      have Hq5 := hidIn hq5
      clear hbz hrz hW5 b5 hz5 hs5 hq5 c5 hrow5 hrun hown9 hb9 hF9 c9 hR9 hrc9 hU9 hL9 hL9n hlt hk
      go_wp2_with (rw [HW5.out, Hq5.out]; refine l_append rfl _ _ 22 rfl HRun.out ?_)
      refine HBd.out.mono ?_
      rintro e w10 ⟨hA10, hb10⟩
      obtain ⟨Ws2, es2, ta2, tc2, hWs2, rfl, hT2, hE2⟩ := ans16 hA10 (by rw [Hrc9.out]; exact both_unl.2 HU9.out)
      obtain ⟨hWW, hAC⟩ := turn_same Hl.out Hrc9.out HU.out (by omega) (by obtain ⟨r, hr, h1⟩ := HFa.out.2.2 ha7; exact ⟨r, hr, by omega⟩) HFa.out.1 HFa.out.2.1 HWs.out hWs2
      subst hWW
      have how : oT (1 + (a : Int)) Ws (rcs L9) = own := by rw [← Hown.out]; unfold oT; rw [hAC]
      have hTT : toT es = toT es2 := by rw [HTo.out, hT2]; unfold eT; rw [hAC]
      rw [how]
      obtain ⟨tn2, htn2⟩ : ∃ tn2, es2.length = tn2 := ⟨_, rfl⟩
      rw [htn2] at hE2 ⊢
      obtain ⟨w11, hw11⟩ : ∃ w11, w10.alloc (tbO (1 + (a : Int)) 16 own (.slice ta2 tn2 tc2)) = w11 := ⟨_, rfl⟩
      have b11 : Below w10.heap.size w10 w11 := by rw [← hw11]; exact (Below.refl _ w10).alloc (Nat.le_refl _) _
      have hz11 : w11.heap[w10.heap.size]? = some (tbO (1 + (a : Int)) 16 own (.slice ta2 tn2 tc2)) := by rw [← hw11]; exact heap_alloc_last w10 _
      obtain ⟨q11, hq11⟩ : ∃ q11, w10.heap.size = q11 := ⟨_, rfl⟩
      rw [hq11] at hz11
      have c10 := HC9.out.trans (hb10.mono HC9.out.size)
      have c11 := c10.trans (b11.mono c10.size)
      have HB11 := hidIn (HB4.out.trans (c11.mono HB4.out.size))
      have hz4 := (c11.block _ (block_lt HZ4.out)).trans HZ4.out
      have HSm : Hid (Calls Tryz.prog 18 #[tbV (1 + (a : Int)) 16 own (.slice ta tn tc), tbV (1 + (a : Int)) 16 own (.slice ta2 tn2 tc2)] w11 fun e w' => e = .returned (.bool true) ∧ Below w11.heap.size w11 w') := hidIn ((tsame_any (HE4.out.keep c11 (Nat.le_refl _)) (hE2.keep b11 (Nat.le_refl _)) _ _ _ _ _ _).mono fun e w' ⟨h1, h2⟩ => ⟨by rw [h1, hTT]; simp, h2⟩)
      have HT11 := hidIn (HT4.out.keep c11)
      have s0 := cell_of_row _ _ 0 _ _ _ hz4
      have s1 := cell_of_row _ _ 1 _ _ _ hz4
      have s2 := cell_of_row _ _ 2 _ _ _ hz4
      have s3 := cell_of_row _ _ 3 _ _ _ hz4
      have t0 := cell_of_row _ _ 0 _ _ _ hz11
      have t1 := cell_of_row _ _ 1 _ _ _ hz11
      have t2 := cell_of_row _ _ 2 _ _ _ hz11
      have t3 := cell_of_row _ _ 3 _ _ _ hz11
      simp at s0 s1 s2 s3 t0 t1 t2 t3
      have HW11 := hidIn hw11
      clear hA10 hb10 hWs2 hT2 hE2 hAC how hTT htn2 hw11 b11 hz11 c10 c11 hz4 HBd HRun HW5 Hq5
      go_upto_region 11 with fail
      rw [HW11.out]
      clear HW11 hq11
      go_wp2_with fail
      refine HSm.out.mono ?_
      rintro e w12 ⟨rfl, hb12⟩
      have HB12 := hidIn (HB11.out.trans (hb12.mono HB11.out.size))
      have HT12 := hidIn (HT11.out.keep hb12)
      clear hb12 HSm s0 s1 s2 s3 t0 t1 t2 t3
      go_wp2_with fail
      refine (tworks_any w12 HT12.out).mono ?_
      rintro e w13 ⟨rfl, hb13⟩
      have HB13 := hidIn (HB12.out.trans (hb13.mono HB12.out.size))
      clear hb13
      go_wp2_with fail
      go_ret
      exact ⟨rfl, HB13.out⟩
end Go.Proofs.YtbggingacoheiaaGreatDoor
namespace Go.Proofs.YtbggingacoheiaaGreatDoor
open Go.ChangeShapes Go.WideShapes Go.ChangeAt Go.RowKit

theorem gWidT13 : (Tryz.prog.globals[0]?).map (·.type) = some 161 := by kernel_rfl
theorem laid_tab13 {W : World} {name : String} {k : IntKind} {zs : List Int} {rest : List (String × DataW Unit)} {g : Nat} {t e : TypeId} {n : Nat} {ps : List MemPlace} {P : Program}
    (hg : P.globalNamed name = some g) (hty : (P.globals[g]?).map (·.type) = some t) (ht : P.underlying t = some (.array n e)) (he : P.underlying e = some (.int k)) (hce : P.cellsOf e = 1) (hct : P.cellsOf t = n)
    (h : DataW.LaidVars P W ((name, Lib.tabData k zs) :: rest) ps) : Lib.TabIs P W name k zs := by
  obtain ⟨g', t', cs, fuel, p, q, hg', ht', hvar, hd, _, _⟩ := h
  obtain rfl := Option.some.inj (hg.symm.trans hg')
  obtain rfl := Option.some.inj (hty.symm.trans ht')
  unfold Lib.TabIs
  rw [hvar, ← Lib.cells_of_tab ht he hce hct hd]
theorem wid_row {w : World} {rest : List (String × DataW Unit)} (h : laidMet Tryz.prog (("dandelion/header.widths", Rows.laid_dandelion_header_widths) :: rest) w) : Wid w := by
  obtain ⟨ps, h, _⟩ := h
  exact ⟨laid_tab13 gWid gWidT13 Tryz.underlying161 Tryz.underlying3 (by kernel_rfl) (by kernel_rfl) h⟩
section
variable {H : Type} {enc : TypeId × Value → H} {W : World}
theorem cU13 : Tryz.prog.cellsOf 5 = 1 := by kernel_rfl
theorem cLk13 : Tryz.prog.cellsOf 119 = 3 := by kernel_rfl
theorem bLk13 : Tryz.prog.bytesOf 119 = 3 := by kernel_rfl
theorem lk13F : Tryz.prog.underlying 119 = some (.struct #[(Tryz.prog.fieldsOf 119)[0]!, (Tryz.prog.fieldsOf 119)[1]!, (Tryz.prog.fieldsOf 119)[2]!]) := by kernel_rfl
theorem lk13F' : (((Tryz.prog.fieldsOf 119)[0]!).type = 5 ∧ ((Tryz.prog.fieldsOf 119)[0]!).offset = 0) ∧ (((Tryz.prog.fieldsOf 119)[1]!).type = 5 ∧ ((Tryz.prog.fieldsOf 119)[1]!).offset = 1) ∧ ((Tryz.prog.fieldsOf 119)[2]!).type = 5 ∧ ((Tryz.prog.fieldsOf 119)[2]!).offset = 2 := ⟨⟨by kernel_rfl, by kernel_rfl⟩, ⟨by kernel_rfl, by kernel_rfl⟩, by kernel_rfl, by kernel_rfl⟩
set_option maxRecDepth 100000 in
theorem lk13_cells {n : Nat} {cs' : List Value} {x : DataW H × List MemPlace} (h : DataW.trod enc Tryz.prog W 0 (fun _ => true) true n 119 cs' = some x) : ∃ y : Ed, cs' = lc13 y ∧ (0 ≤ y.1 ∧ y.1 ≤ 255) ∧ (0 ≤ y.2.1 ∧ y.2.1 ≤ 255) ∧ 0 ≤ y.2.2 ∧ y.2.2 ≤ 255 := by
  obtain ⟨y0, y1, y2, k, _, hlen, h0, h1, h2⟩ := Deep.trod_struct3 lk13F h
  obtain ⟨⟨a0, b0⟩, ⟨a1, b1⟩, a2, b2⟩ := lk13F'
  rw [cLk13] at hlen
  match cs', hlen with
  | [v0, v1, v2], _ =>
    rw [a0, b0, cU13] at h0
    rw [a1, b1, cU13] at h1
    rw [a2, b2, cU13] at h2
    obtain ⟨p, hp, _, wp⟩ := DataW.trod_int Tryz.underlying5 h0
    obtain ⟨q, hq, _, wq⟩ := DataW.trod_int Tryz.underlying5 h1
    obtain ⟨r, hr, _, wr⟩ := DataW.trod_int Tryz.underlying5 h2
    simp at hp hq hr
    exact ⟨(p, q, r), by rw [hp, hq, hr], bounds_u8 wp, bounds_u8 wq, bounds_u8 wr⟩
set_option maxRecDepth 100000 in
theorem lk13_arg {a : Option Addr} {len cap : Nat} {d : DataW H} {p : List MemPlace} (h : DataW.Trod enc Tryz.prog W 0 (fun _ => true) true 56 (.slice a len cap) d p) (hw : ∀ n ∈ d.weights Tryz.prog 56, n ≤ reachBytes) :
    ∃ ls, SlAt lc13 3 W (.slice a len cap) ls ∧ LkB13 ls ∧ NilOk (.slice a len cap) ∧ (ls.length + 1) * 3 ≤ 140737488355328 := by
  obtain ⟨fuel, hf⟩ := h
  obtain ⟨ns, hn1, hn2, hG, hn3⟩ := open_sl (0, 0, 0) (cs := lc13) (sz := 3) (fun _ => rfl) (by omega) Tryz.underlying56 cLk13 (fun n cs' x h => lk13_cells h) (by simpa [Value.cells] using hf)
  exact ⟨ns, hn1, hG, hn2, slice_weight Tryz.underlying56 bLk13 (by omega) hw (by rcases hn3 with rfl | h; exact .inl rfl; exact .inr h)⟩
end
theorem cells713 : Tryz.prog.cellsOf 57 = 7 := by kernel_rfl
theorem seven13 {α : Type} {cs : Array α} (h : cs.size = 7) : ∃ c0 c1 c2 c3 c4 c5 c6, cs = #[c0, c1, c2, c3, c4, c5, c6] := by
  obtain ⟨l⟩ := cs
  match l, h with
  | [c0, c1, c2, c3, c4, c5, c6], _ => exact ⟨c0, c1, c2, c3, c4, c5, c6, rfl⟩
set_option maxRecDepth 100000 in
theorem open_seven13 {H : Type} {enc : TypeId × Value → H} {W : World} {base : Nat} {v : Value} {d : DataW H} {p : List MemPlace}
    (hval : Value.okWide Tryz.prog W .any base 57 v) (h : DataW.Trod enc Tryz.prog W 0 (fun _ => true) true 57 v d p) :
    ∃ ks : List Int, ks.length = 7 ∧ (∀ x ∈ ks, (Lit.int .u8 x).wf = true) ∧ v = .agg (c7 ks).toArray ∧ d = .agg (ks.map fun x => .lit (.int .u8 x)) ∧ p = [] := by
  obtain ⟨cs, rfl, hsz, _⟩ : ∃ cs, v = .agg cs ∧ cs.size = Tryz.prog.cellsOf 57 ∧ Row.okWide Tryz.prog W .any base 57 cs := by
    simpa [Value.okWide, Tryz.underlying57] using hval
  rw [cells713] at hsz
  obtain ⟨c0, c1, c2, c3, c4, c5, c6, rfl⟩ := seven13 hsz
  obtain ⟨fuel, hf⟩ := h
  cases fuel with
  | zero => simp [DataW.trod] at hf
  | succ n =>
    have hf' : DataW.trod enc Tryz.prog W 0 (fun _ => true) true (n + 1) 57 [c0, c1, c2, c3, c4, c5, c6] = some (d, p) := hf
    unfold DataW.trod at hf'
    rw [Tryz.underlying57] at hf'
    simp [show List.range 7 = [0, 1, 2, 3, 4, 5, 6] from rfl, cU13, cells713] at hf'
    cases h0 : DataW.trod enc Tryz.prog W 0 (fun _ => true) true n 5 [c0] with
    | none => simp [h0] at hf'
    | some y0 =>
      cases h1 : DataW.trod enc Tryz.prog W 0 (fun _ => true) true n 5 [c1] with
      | none => simp [h0, h1] at hf'
      | some y1 =>
        cases h2 : DataW.trod enc Tryz.prog W 0 (fun _ => true) true n 5 [c2] with
        | none => simp [h0, h1, h2] at hf'
        | some y2 =>
          cases h3 : DataW.trod enc Tryz.prog W 0 (fun _ => true) true n 5 [c3] with
          | none => simp [h0, h1, h2, h3] at hf'
          | some y3 =>
            cases h4 : DataW.trod enc Tryz.prog W 0 (fun _ => true) true n 5 [c4] with
            | none => simp [h0, h1, h2, h3, h4] at hf'
            | some y4 =>
              cases h5 : DataW.trod enc Tryz.prog W 0 (fun _ => true) true n 5 [c5] with
              | none => simp [h0, h1, h2, h3, h4, h5] at hf'
              | some y5 =>
                cases h6 : DataW.trod enc Tryz.prog W 0 (fun _ => true) true n 5 [c6] with
                | none => simp [h0, h1, h2, h3, h4, h5, h6] at hf'
                | some y6 =>
                  simp [h0, h1, h2, h3, h4, h5, h6] at hf'
                  obtain ⟨a0, e0, rfl, w0⟩ := DataW.trod_int Tryz.underlying5 h0
                  obtain ⟨a1, e1, rfl, w1⟩ := DataW.trod_int Tryz.underlying5 h1
                  obtain ⟨a2, e2, rfl, w2⟩ := DataW.trod_int Tryz.underlying5 h2
                  obtain ⟨a3, e3, rfl, w3⟩ := DataW.trod_int Tryz.underlying5 h3
                  obtain ⟨a4, e4, rfl, w4⟩ := DataW.trod_int Tryz.underlying5 h4
                  obtain ⟨a5, e5, rfl, w5⟩ := DataW.trod_int Tryz.underlying5 h5
                  obtain ⟨a6, e6, rfl, w6⟩ := DataW.trod_int Tryz.underlying5 h6
                  simp at e0 e1 e2 e3 e4 e5 e6
                  subst e0 e1 e2 e3 e4 e5 e6
                  refine ⟨[a0, a1, a2, a3, a4, a5, a6], rfl, fun x hx => ?_, rfl, hf'.1.symm, hf'.2.symm⟩
                  simp only [List.mem_cons, List.not_mem_nil, or_false] at hx
                  rcases hx with rfl | rfl | rfl | rfl | rfl | rfl | rfl
                  · exact w0
                  · exact w1
                  · exact w2
                  · exact w3
                  · exact w4
                  · exact w5
                  · exact w6
set_option maxRecDepth 100000 in
theorem shut_seven13 {H : Type} {enc : TypeId × Value → H} {W : World} {sp : Nat → Bool} {ks : List Int} (hl : ks.length = 7) (hk : ∀ x ∈ ks, (Lit.int .u8 x).wf = true) :
    DataW.Trod enc Tryz.prog W 0 sp true 57 (.agg (c7 ks).toArray) (.agg (ks.map fun x => .lit (.int .u8 x))) [] := by
  match ks, hl with
  | [c0, c1, c2, c3, c4, c5, c6], _ =>
    simp only [List.mem_cons, List.not_mem_nil, or_false, forall_eq_or_imp, forall_eq] at hk
    obtain ⟨w0, w1, w2, w3, w4, w5, w6⟩ := hk
    exact ⟨2, by simp [DataW.trod, Value.cells, Tryz.underlying57, Tryz.underlying5, cells713, cU13, w0, w1, w2, w3, w4, w5, w6, show List.range 7 = [0, 1, 2, 3, 4, 5, 6] from rfl]⟩
end Go.Proofs.YtbggingacoheiaaGreatDoor
namespace Go.Proofs.YtbggingacoheiaaGreatDoor
open Go.ChangeShapes Go.WideShapes Go.ChangeAt Go.RowKit

theorem tableOrder_u8 {L : List Ed} {v : Value} {cs : List Int} {w : World} (h : SlAt lc13 3 w v L) (hL : LkB13 L) (hc : cs.length = 7) (hcb : ∀ x ∈ cs, 0 ≤ x ∧ x ≤ 255) {n : Int} (hn : (Lit.int .u8 n).wf = true) (ht : Wid w) :
    Calls Tryz.prog 7 #[v, .agg (c7 cs).toArray, .int .u8 n] w fun e w' => e = .returned (.bool true) ∧ Below w.heap.size w w' := by
  have hb := bounds_u8 hn
  obtain ⟨A, rfl⟩ : ∃ A : Nat, n = (A : Int) := ⟨n.toNat, by omega⟩
  exact tableOrder_walk h hL hc hcb A (by omega) ht
end Go.Proofs.YtbggingacoheiaaGreatDoor
