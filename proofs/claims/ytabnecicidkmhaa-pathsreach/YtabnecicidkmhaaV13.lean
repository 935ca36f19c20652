/- From: who keeps what is known; its answer. -/
import Derived.Test.YtabnecicidkmhaaV12
namespace Go.Proofs.Ytabnecicidkmhaa
open Go.RowKit

theorem enter31 (args : Array Value) (w : World) : (callFunc 23 args).run Try.prog w = .ok (Next.enter 23 args) w := by kernel_rfl
/-- Who keeps what is known of the nodes. -/
def fromS {ns : List Int} {es : List Ed} (hok : graphOk ns es = true) (r : Int) (lo B rb : Nat) (hne : rb ≠ B) : TellS es r where
  f := 23
  caps := #[.pointer (some ⟨B, 0, none⟩), .pointer (some ⟨rb, 0, none⟩)]
  C := fun k => k = B
  I := fun T w => ∃ C : Nat → Int, (∀ e ∈ T, e ∈ es ∧ Ds es r e.2.1 (C e.2.1.toNat)) ∧ RcM w lo B (rchT r C T) ∧ w.heap[rb]? = some (.cells #[.int .i64 r] 3) ∧ lo ≤ w.heap.size
  call := fun T e c w hT ht hI => by
    obtain ⟨a, b, d⟩ := e
    obtain ⟨C, hC, hM, hrb, hlo⟩ := hI
    have hbd := graphOk_bd hok
    have he := hbd.2.1 _ ht.1
    have ha := hbd.1 _ he.1
    have hb := hbd.1 _ he.2
    simp only at ha hb
    have hagree : ∀ e ∈ T, C e.2.1.toNat = putV C b.toNat c e.2.1.toNat := fun e hme => by
      by_cases heb : e.2.1.toNat = b.toNat
      · rw [heb, putV_same]
        have h1 := (hC e hme).2
        have h2 := hbd.1 _ (hbd.2.1 _ (hC e hme).1).2
        have h3 : e.2.1 = b := by omega
        rw [h3] at h1
        exact h1.uniq ht.2.2
      · rw [putV_other _ _ heb]
    rw [rchT_congr hagree] at hM
    have hok' := rchT_ok r (putV C b.toNat c) T (fun e hme => hbd.1 _ (hbd.2.1 _ (hC e hme).1).2)
    have hcall := from1_any (C := putV C b.toNat c) (d := d) ha hb hM hok' hT hlo hrb
    rw [putV_same] at hcall
    refine hcall.mono fun x w' h => ⟨h.1, ⟨putV C b.toNat c, ?_, ?_, ?_, Nat.le_trans hlo h.2.2.size⟩, h.2.2⟩
    · intro e hme
      rcases List.mem_append.1 hme with h1 | h1
      · exact ⟨(hC e h1).1, by rw [← hagree e h1]; exact (hC e h1).2⟩
      · rw [List.mem_singleton.1 h1]
        exact ⟨ht.1, by show Ds es r b _; rw [show (((a, b, d) : Ed).2.1).toNat = b.toNat from rfl, putV_same]; exact ht.2.2⟩
    · rw [rchT_snoc]
      exact h.2.1
    · exact (h.2.2.block rb (block_lt hrb) hne).trans hrb
  keep := fun T w w' hI hb => by
    obtain ⟨C, hC, hM, hrb, hlo⟩ := hI
    exact ⟨C, hC, hM.keep hb, (hb.block _ (block_lt hrb)).trans hrb, Nat.le_trans hlo hb.size⟩
  enter := enter31
theorem infoR25 : (Try.prog.info? 51).map (fun i => (i.zero, i.size)) = some (some (.agg (gl fun _ => rrc noR (.slice none 0 0)).toArray), 125) := by kernel_rfl
theorem zeroR25 (w : World) : (zeroValue 51).run Try.prog w = .ok (.agg (gl fun _ => rrc noR (.slice none 0 0)).toArray) w := (zero_of_info infoR25).1 w
theorem underR25 : Try.prog.underlying 51 = some (.array 25 34) := by kernel_rfl
theorem sizeR25 {cs : Nat → List Value} (hc : ∀ i, (cs i).length = 5) : (Try.prog.info? 51).map (·.size) = some (gl cs).length := by rw [gl_len hc]; kernel_rfl
theorem l_loadR25 {ops : Array Oper} {rest : List Oper} {o : Oper} {a : Act} {w : World} {Q : Exit → Act → World → Prop} (hgd : o.guard = none) (x : Operand) (ho : o.op = .load 51 x)
    (b : Nat) (cs : Nat → List Value) (hc : ∀ i, (cs i).length = 5) (hx : a.eval x = .pointer (some ⟨b, 0, none⟩)) (hA : Arr w b 51 (gl cs))
    (h : wpList Try.prog ops Q rest (a.put o.dst (.agg (gl cs).toArray)) w) : wpList Try.prog ops Q (o :: rest) a w :=
  wpList_load_mid hgd 51 x ho b 0 hx (gl cs) (.array 25 34) hA.range underR25 rfl (sizeR25 hc) h
theorem infoReach : (Try.prog.info? 34).map (fun i => (i.zero, i.size, i.bytes)) = some (some (.agg #[.int .i64 0, .int .i64 0, .int .i64 0, .int .i64 0, .slice none 0 0]), 5, 56) := by kernel_rfl
theorem underReach : ∃ fs, Try.prog.underlying 34 = some (.struct fs) := ⟨_, Try.underlying34⟩
theorem indexR25 (cs : Nat → List Value) (hc : ∀ i, (cs i).length = 5) {k : Nat} (hk : k < 25) (w : World) : (Instr.index 51 (.agg (gl cs).toArray) (.int .i64 k)).run Try.prog w = .ok (.agg (cs k).toArray) w := by
  obtain ⟨i0, hi, hz0, hz1, hz2⟩ := info_parts infoReach
  have hkl : (k : Int) < 25 := by omega
  simp [Instr.index, asIntOf, go_sem, run_underlying underR25, hk]
  apply List.ext_getElem?
  intro m
  rw [List.getElem?_take]
  by_cases hm : m < 5
  · rw [if_pos hm, List.getElem?_drop, gl_get hc hk hm]
  · rw [if_neg hm, List.getElem?_eq_none (by rw [hc]; omega)]
abbrev rwc (x : Rr × Value) : List Value := rrc x.1 x.2
/-- One more. -/
theorem append_rch {W : World} {base k : Nat} {u : Value} {l : List (Rr × Value)} (hr : W.ownsRow base 34 5 u k (fl rwc l)) (x : Rr × Value) (hx : x.2.oneCell' = true) (hk : (k + 1) * 56 ≤ 140737488355328) (hbase : base ≤ W.heap.size) :
    ∃ g cap w6, (Builtin.append_ #[27, 27] 27 #[u, .slice (some ⟨W.heap.size, 0, none⟩) 1 1]).run Try.prog (W.alloc (.cells (rwc x).toArray 34)) = .ok (.slice (some ⟨g, 0, none⟩) (k + 1) cap) w6 ∧
      w6.ownsRow base 34 5 (.slice (some ⟨g, 0, none⟩) (k + 1) cap) (k + 1) (fl rwc (l ++ [x])) ∧ Below base W w6 := by
  obtain ⟨i0, hi, hz0, hz1, hz2⟩ := info_parts infoReach
  obtain ⟨g, cap, w6, hrun, hown, hgrow, _, _⟩ := run_append_lies (P := Try.prog) (W.alloc (.cells (rwc x).toArray 34)) 27 27 base 34 i0 _ 5 56 Try.underlying27 hi hz0 hz1 hz2 rfl (by decide) u k (fl rwc l) (hr.alloc _) ⟨W.heap.size, 0, none⟩ 1 1 (rwc x) rfl (fun j v hv => by
    rw [Addr.add_mid, Nat.zero_add, cell_of_row _ _ j (rwc x).toArray 34 (0, 0) (heap_alloc_last W _)]
    simpa using hv) (by simp only [rwc, rrc, List.mem_cons, List.not_mem_nil, or_false]; rintro u (rfl | rfl | rfl | rfl | rfl) <;> first | rfl | exact hx) (by omega) (by unfold maxLen; omega) hk (by simp; omega) (W.heap.size + 1) (by simp)
  refine ⟨g, cap, w6, hrun, by rw [fl_snoc]; exact hown, ?_⟩
  exact ((Below.refl _ W).alloc hbase _).grown hgrow (by simp; omega) (fun j e => by
    rcases hr.2 with ⟨rfl, _⟩ | ⟨g', cap', cur, rfl, hb, _⟩
    · simp [Value.ownBlock] at e
    · simp [Value.ownBlock] at e; omega)
/-- The nodes that are come to, with what is known of them. -/
def outR (R : Nat → Rr) (vs : Nat → Value) (n : Nat) : List (Rr × Value) := ((List.range n).filter fun i => !decide ((R i).node = 0)).map fun i => (R i, vs i)
theorem outR_succ (R : Nat → Rr) (vs : Nat → Value) (n : Nat) : outR R vs (n + 1) = outR R vs n ++ (if (R n).node = 0 then [] else [(R n, vs n)]) := by
  by_cases h : (R n).node = 0 <;> simp [outR, List.range_succ, List.filter_append, h]
theorem outR_len (R : Nat → Rr) (vs : Nat → Value) (n : Nat) : (outR R vs n).length ≤ n := by
  unfold outR
  rw [List.length_map]
  exact Nat.le_trans (List.length_filter_le _ _) (by simp)
/-- What From answers where nothing is wrong. -/
def FromAns (w w' : World) (es : List Ed) (r : Int) (e : Ending) : Prop :=
  ∃ P C vs, IsNear es r P ∧ NdOk P ∧ (∀ e ∈ told es P P, e ∈ es ∧ Ds es r e.2.1 (C e.2.1.toNat)) ∧ ∃ u mid B, e = .returned (.tuple #[u, .int .i64 0]) ∧ w.heap.size ≤ mid ∧ w'.ownsRow mid 34 5 u (outR (rchT r C (told es P P)) vs 25).length (fl rwc (outR (rchT r C (told es P P)) vs 25)) ∧ ∀ i, i < 25 → NxAt w' w.heap.size B (vs i) (rchT r C (told es P P) i).next ∧ ∀ k, (vs i).ownBlock = some k → k < mid
set_option maxRecDepth 100000 in
set_option maxHeartbeats 4000000 in
theorem from_any {ns : List Int} {es : List Ed} {vn ve : Value} {w : World} (h : GrAt w vn ve ns es) (r : Int) :
    Calls Try.prog 6 #[grV vn ve, .int .i64 r] w fun e w' => ((ndAll ns es [r] = false ∧ e = .returned (.tuple #[.slice none 0 0, .int .i64 2])) ∨ (ndAll ns es [r] = true ∧ FromAns w w' es r e)) ∧ Below w.heap.size w w' := by
  have HG0 := hidIn h
  obtain ⟨ea, eca, rfl, _⟩ := h.e
  obtain ⟨na, nca, rfl, _⟩ := h.n
  have hz := zeroR25
  obtain ⟨W1, hW1⟩ : ∃ W1, (w.alloc (.cells #[.slice na ns.length nca, .slice ea es.length eca] 25)).alloc (.cells #[.int .i64 r] 3) = W1 := ⟨_, rfl⟩
  have bA : Below w.heap.size w W1 := by rw [← hW1]; exact ((Below.refl _ w).alloc (Nat.le_refl _) _).alloc (by simp) _
  have hGB : W1.heap[w.heap.size]? = some (.cells #[.slice na ns.length nca, .slice ea es.length eca] 25) := by rw [← hW1, Below.heap_alloc _ _ _ (by simp)]; exact heap_alloc_last w _
  have hRB : W1.heap[w.heap.size + 1]? = some (.cells #[.int .i64 r] 3) := by
    rw [← hW1]
    have := heap_alloc_last (w.alloc (.cells #[.slice na ns.length nca, .slice ea es.length eca] 25)) (.cells #[.int .i64 r] 3)
    rw [World.size_alloc] at this
    exact this
  have HK : Hid (∀ wq, Below W1.heap.size W1 wq → ((wq.cell? ⟨w.heap.size, 0, none⟩ = some (.slice na ns.length nca) ∧ wq.cell? ⟨w.heap.size, 1, none⟩ = some (.slice ea es.length eca)) ∧ wq.heap[w.heap.size + 1]? = some (.cells #[.int .i64 r] 3)) ∧ Below w.heap.size w wq) := hidIn fun wq h => by
    have j0 := (h.block _ (block_lt hGB)).trans hGB
    exact ⟨⟨⟨cell_of_row _ _ 0 _ _ _ j0, cell_of_row _ _ 1 _ _ _ j0⟩, (h.block _ (block_lt hRB)).trans hRB⟩, bA.trans (h.mono bA.size)⟩
  obtain ⟨b1, hb1⟩ : ∃ b1, ndAll ns es [r] = b1 := ⟨_, rfl⟩
  have b2 := bA.alloc (o := .cells #[.int .i64 r] 3) bA.size
  have hC := areNodes_any (l := [r]) (HG0.out.keep b2 (Nat.le_refl _)) (slAt_block (cs := ic) (sz := 1) (fun _ => rfl) (T := 3) (heap_alloc_last W1 (.cells #[.int .i64 r] 3)) (by simp))
  rw [hb1] at hC
  have HC := hidIn hC
  have Hb1 := hidIn hb1
  have HW := hidIn hW1
  have hlt1 := block_lt hRB
  clear hW1 bA hGB hRB h hb1 hC b2
  obtain ⟨⟨⟨g0, g1⟩, hr0⟩, _⟩ := HK.out W1 (Below.refl _ _)
  have r0 := cell_of_row _ _ 0 _ _ _ hr0
  simp at r0
  clear hr0
  go_enter Try.func6, Try.ntmps6
  go_upto_region 1 with fail
  rw [HW.out]
  clear HW
  go_wp2_with fail
  refine HC.out.mono ?_
  rintro e w2 ⟨rfl, hb2⟩
  have HB2 : Hid (Below W1.heap.size W1 w2) := hidIn (((Below.refl _ W1).alloc (Nat.le_refl _) _).trans (hb2.mono (by simp)))
  clear hb2 HC g0 g1 r0
  obtain ⟨⟨⟨g0, g1⟩, hr0⟩, hbw⟩ := HK.out w2 HB2.out
  cases b1
  · have HBw := hidIn hbw
    clear hbw hr0
    go_wp2_with fail
    go_ret2
    exact ⟨.inl ⟨Hb1.out, rfl⟩, HBw.out⟩
  have hnd := Hb1.out
  simp only [ndAll, List.all_cons, List.all_nil, Bool.and_true, Bool.and_eq_true] at hnd
  obtain ⟨hok, ha⟩ := hnd
  have har := (graphOk_bd hok).1 _ (hasN_iff.1 ha)
  have Hok := hidIn hok
  have HMa := hidIn (hasN_iff.1 ha)
  clear hok ha
  obtain ⟨i, rfl⟩ : ∃ i : Nat, r = (i : Int) := ⟨r.toNat, by omega⟩
  have hi : i < 25 := by omega
  have hii : (i : Int) < 25 := by omega
  obtain ⟨V2, hV2⟩ : ∃ V2, w2.alloc (.cells (gl fun _ => rrc noR (.slice none 0 0)).toArray 51) = V2 := ⟨_, rfl⟩
  have hA2 : Arr V2 w2.heap.size 51 (gl fun _ => rrc noR (.slice none 0 0)) := by rw [← hV2]; exact arr_new w2 _ _
  have bV : Below w2.heap.size w2 V2 := by rw [← hV2]; exact (Below.refl _ w2).alloc (Nat.le_refl _) _
  have hbl2 : w.heap.size + 1 < w2.heap.size := block_lt hr0
  have hrV := (bV.block _ hbl2).trans hr0
  have r0 := cell_of_row _ _ 0 _ _ _ hrV
  simp at r0
  have mA := hA2.cell (i * 5 + 0)
  rw [gl_get (cs := fun _ => rrc noR (.slice none 0 0)) (fun _ => rfl) hi (by omega)] at mA
  simp at mA
  have mF := hA2.frozen (i * 5 + 0)
  simp only [Nat.add_zero] at mF
  have HW := hidIn hV2
  clear hV2 hr0 g0 g1
  go_upto_region 4 with fail
  rw [HW.out]
  clear HW hz
  obtain ⟨W3, hW3⟩ : ∃ W3, V2.setCell ⟨w2.heap.size, i * 5, none⟩ (.int .i64 (i : Int)) = W3 := ⟨_, rfl⟩
  have hA3 : Arr W3 w2.heap.size 51 (gl fun k => rrc (rchT (i : Int) (fun _ => 0) [] k) (.slice none 0 0)) := by
    rw [← hW3]
    have h1 := Arr.oneR (R := fun _ => noR) (vs := fun _ => .slice none 0 0) hA2 hi (show 0 < 5 by omega) (.int .i64 (i : Int)) ⟨(i : Int), 0, 0, 0, []⟩ (.slice none 0 0) rfl
    rw [show putV (fun _ => Value.slice none 0 0) i (.slice none 0 0) = fun _ => Value.slice none 0 0 from putV_self (fun _ => Value.slice none 0 0) i] at h1
    exact h1
  have b23 : Below w2.heap.size w2 W3 := by rw [← hW3]; exact bV.setCell (p := ⟨w2.heap.size, i * 5, none⟩) (Nat.le_refl _) _
  have HB3 := hidIn (HB2.out.trans (b23.mono HB2.out.size))
  obtain ⟨⟨⟨g0, g1⟩, hr3⟩, hbw3⟩ := HK.out W3 HB3.out
  have hM3 : RcM W3 w.heap.size w2.heap.size (rchT (i : Int) (fun _ => 0) []) := ⟨fun _ => .slice none 0 0, hA3, fun k hk => .inl ⟨by unfold rchT putV; simp only [List.foldl_nil]; split <;> rfl, rfl⟩⟩
  have hne : w.heap.size + 1 ≠ w2.heap.size := by omega
  have HAl := hidIn (along_any (w0 := w) (w := W3) HG0.out Hok.out HMa.out hbw3 (fromS Hok.out (i : Int) w.heap.size w2.heap.size (w.heap.size + 1) hne) (fun k hk => by have hk' : k = w2.heap.size := hk; have := hbw.size; have := hA3.lt; omega) ⟨fun _ => 0, fun e he => by simp at he, hM3, hr3, hbw3.size⟩)
  have r3 := cell_of_row _ _ 0 _ _ _ hr3
  simp at r3
  have HW := hidIn hW3
  have hws := hbw.size
  have hwl := hA3.lt
  clear hW3 hA3 hA2 bV b23 hbw hM3 hr3 hrV
  go_upto_region 5 with fail
  rw [HW.out]
  clear HW mA mF r0
  go_wp2_with fail
  refine HAl.out.mono ?_
  rintro e w4 ⟨⟨v4, rfl⟩, ⟨P, hP, hN, C, hC, hM4, hr4, hlo4⟩, hF⟩
  have HBw4 := hidIn (hbw3.trans (hF.below hbw3.size (fun k hk => by have hk' : k = w2.heap.size := hk; omega)))
  obtain ⟨vs, hA4, hW4⟩ := hM4
  have HPs := hidIn (And.intro hP (And.intro hN hC))
  obtain ⟨R, hR⟩ : ∃ R, rchT (i : Int) C (told es P P) = R := ⟨_, rfl⟩
  rw [hR] at hA4 hW4
  have HR := hidIn hR
  have HA4 := hidIn hA4
  have HW4 := hidIn hW4
  clear hP hN hC hr4 hF HAl g0 g1 r3 hA4 hW4 hR
  go_wp2_with (refine l_loadR25 rfl _ rfl _ (fun k => rrc (R k) (vs k)) (fun _ => rfl) rfl HA4.out ?_)
  have HIX : Hid (∀ k : Nat, k < 25 → ∀ w, (Instr.index 51 (.agg (gl fun k => rrc (R k) (vs k)).toArray) (.int .i64 k)).run Try.prog w = .ok (.agg (rrc (R k) (vs k)).toArray) w) := hidIn fun k hk w => indexR25 (fun k => rrc (R k) (vs k)) (fun _ => rfl) hk w
  generalize Value.agg (gl fun k => rrc (R k) (vs k)).toArray = AG at HIX ⊢
  clear HA4
  go_loopw [7, 24] (fun u j wr => ∃ k : Nat, k ≤ 25 ∧ j = .int .i64 k ∧ (∃ a cap, u = .slice a (outR R vs k).length cap ∧ Hid (wr.ownsRow w4.heap.size 34 5 (.slice a (outR R vs k).length cap) (outR R vs k).length (fl rwc (outR R vs k)))) ∧ Hid (Below w4.heap.size w4 wr)) (fun _ j _ => 25 - (intOf j).toNat)
  case atStart => exact ⟨0, Nat.zero_le _, rfl, ⟨none, 0, rfl, hidIn (World.ownsRow_nil _ _ _ _)⟩, hidIn (Below.refl _ _)⟩
  case round =>
    obtain ⟨k, hk25, rfl, ⟨ua, ucap, rfl, HU⟩, HB⟩ := hrel
    by_cases hk : k < 25
    · have hkk : (k : Int) < 25 := by omega
      obtain ⟨va, vcap, hvk⟩ := (HW4.out k hk).shape
      have hix := HIX.out k hk
      rw [hvk] at hix
      have HO := hidIn (outR_succ R vs k)
      have HL := hidIn (outR_len R vs k)
      obtain ⟨L, hL⟩ : ∃ L, outR R vs k = L := ⟨_, rfl⟩
      have Hvk := hidIn hvk
      rw [hL] at HU HO HL
      simp only [hL]
      clear hvk
      obtain ⟨x, hx⟩ : ∃ x, R k = x := ⟨_, rfl⟩
      rw [hx] at hix HO
      have HX := hidIn hx
      have HLe := hidIn hL
      clear hL hx
      have hix' : ∀ w, (Instr.index 51 AG (.int .i64 k)).run Try.prog w = .ok (.agg #[.int .i64 x.node, .int .i64 x.cost, .int .i64 x.least, .int .i64 x.most, .slice va x.next.length vcap]) w := hix
      clear hix
      obtain ⟨V5, hV5⟩ : ∃ V5, wr.alloc (.cells #[.int .i64 x.node, .int .i64 x.cost, .int .i64 x.least, .int .i64 x.most, .slice va x.next.length vcap] 34) = V5 := ⟨_, rfl⟩
      have bV : Below w4.heap.size w4 V5 := by rw [← hV5]; exact HB.out.alloc HB.out.size _
      have hX5 : V5.heap[wr.heap.size]? = some (.cells #[.int .i64 x.node, .int .i64 x.cost, .int .i64 x.least, .int .i64 x.most, .slice va x.next.length vcap] 34) := by rw [← hV5]; exact heap_alloc_last wr _
      have hU5 := HU.out.alloc (.cells #[.int .i64 x.node, .int .i64 x.cost, .int .i64 x.least, .int .i64 x.most, .slice va x.next.length vcap] 34)
      rw [hV5] at hU5
      have x0 := cell_of_row _ _ 0 _ _ _ hX5
      have x1 := cell_of_row _ _ 1 _ _ _ hX5
      have x2 := cell_of_row _ _ 2 _ _ _ hX5
      have x3 := cell_of_row _ _ 3 _ _ _ hX5
      have x4 := cell_of_row _ _ 4 _ _ _ hX5
      simp at x0 x1 x2 x3 x4
      have HU5 := hidIn hU5
      have HB5 := hidIn bV
      have HW := hidIn hV5
      clear hV5 bV hU5 hX5 HU HB
      go_upto_region 10 with fail
      rw [HW.out]
      clear HW hix'
      by_cases h0 : x.node = 0
      · have HE : Hid (outR R vs (k + 1) = L) := hidIn (by rw [HO.out, if_pos h0, List.append_nil])
        go_wp2_with fail
        go_roundw
        case rel => exact ⟨k + 1, by omega, by go_num, ⟨_, _, by rw [HE.out], hidIn (by rw [HE.out]; exact HU5.out)⟩, HB5⟩
        case measure => simp [intOf]; omega
      · have HE : Hid (outR R vs (k + 1) = L ++ [(x, .slice va x.next.length vcap)]) := hidIn (by rw [HO.out, if_neg h0, Hvk.out, HX.out])
        have hll := HL.out
        obtain ⟨g, gcap, w6, hrun, hown, hb6⟩ := append_rch HU5.out (x, .slice va x.next.length vcap) rfl (by omega) HB5.out.size
        have HRun := hidIn hrun
        have HO6 := hidIn hown
        have HB6 := hidIn (HB5.out.trans hb6)
        clear hrun hown hb6
        go_wp2_with (refine l_append rfl _ _ 27 rfl HRun.out ?_)
        go_roundw
        case rel => exact ⟨k + 1, by omega, by go_num, ⟨_, _, by rw [HE.out, List.length_append]; rfl, hidIn (by rw [HE.out, List.length_append]; exact HO6.out)⟩, HB6⟩
        case measure => simp [intOf]; omega
    · have hk2 : k = 25 := by omega
      subst hk2
      have hni : ¬ ((25 : Int) < 25) := by omega
      have HBw := hidIn (HBw4.out.trans (HB.out.mono HBw4.out.size))
      have HAns : Hid (FromAns w wr es (i : Int) (.returned (.tuple #[.slice ua (outR R vs 25).length ucap, .int .i64 0]))) := hidIn (by
        obtain ⟨hP, hN, hC⟩ := HPs.out
        refine ⟨P, C, vs, hP, hN, hC, _, w4.heap.size, w2.heap.size, rfl, HBw4.out.size, by rw [HR.out]; exact HU.out, fun n hn => ?_⟩
        rw [HR.out]
        refine ⟨(HW4.out n hn).fr (Fr.of_below HB.out), fun q hq => ?_⟩
        rcases HW4.out n hn with ⟨_, e⟩ | ⟨g, o, cap, e, _, _, _, ⟨cur, hcu⟩, _⟩
        · rw [e] at hq; simp [Value.ownBlock] at hq
        · have hlt := block_lt hcu
          rw [e] at hq; simp [Value.ownBlock] at hq; omega)
      clear HU HB
      go_wp2_with fail
      go_ret2
      exact ⟨.inr ⟨Hb1.out, HAns.out⟩, HBw.out⟩
end Go.Proofs.Ytabnecicidkmhaa
