/- What Count has of each node at its end: as many ways as those ahead of it have, together. The chapter's example: how many ways. The law's example, cost, works. Ways turned round; ways where edges are fewer. How many ways of so many hops and such a cost there are; the same, turned round. Count has at its end how many least-cost ways there are. Count never runs over: what it has is above 0 just where there is a way. PathsTurned. Links of three small numbers as an argument. -/
import Derived.Test.YtfbojelflplflaaVQ3
import Derived.Test.YtfbojelflplflaaVL1
import Derived.Test.YtfbojelflplflaaVL5
import Derived.OpenShut
import Derived.Test.YtfbojelflplflaaGH
namespace Go.Proofs.Ytfbojelflplflaa

theorem edgesOk_rise {ns : List Int} : ∀ (es : List Ed) (last : Ed), edgesOk ns last es = true → (∀ e ∈ es, risesE last e = true) ∧ es.Pairwise fun a b => risesE a b = true
  | [], _, _ => by simp
  | a :: es, last, h => by
    simp only [edgesOk, edgeOk, Bool.and_eq_true] at h
    obtain ⟨h1, h2⟩ := edgesOk_rise es a h.2
    have hl : risesE last a = true := h.1.2.2.2.2
    have tr : ∀ x y z : Ed, risesE x y = true → risesE y z = true → risesE x z = true := fun x y z g1 g2 => by
      simp only [risesE, Bool.or_eq_true, Bool.and_eq_true, decide_eq_true_eq] at g1 g2 ⊢
      omega
    refine ⟨fun e he => ?_, List.pairwise_cons.2 ⟨h1, h2⟩⟩
    rcases List.mem_cons.1 he with rfl | he
    · exact hl
    · exact tr _ _ _ hl (h1 e he)
theorem graphOk_nodup {ns : List Int} {es : List Ed} (h : graphOk ns es = true) : es.Nodup := by
  simp only [graphOk, Bool.and_eq_true] at h
  exact (edgesOk_rise es _ h.2.2).2.imp (fun {a b} hr e => by
    subst e
    simp [risesE] at hr)
theorem told_nodup {es : List Ed} (hd : es.Nodup) (P : List (Int × Int)) : ∀ Q : List (Int × Int), (Q.map (·.1)).Nodup → (told es P Q).Nodup
  | [], _ => by simp [told]
  | n :: Q, hq => by
    rw [List.map_cons, List.nodup_cons] at hq
    rw [told, List.nodup_append]
    refine ⟨hd.filter _, told_nodup hd P Q hq.2, fun a ha b hb e => ?_⟩
    subst e
    simp only [List.mem_filter, Bool.and_eq_true, decide_eq_true_eq] at ha
    obtain ⟨⟨m, hm, h1⟩, _⟩ := told_mem.1 hb
    exact hq.1 (List.mem_map.2 ⟨m, hm, by rw [← h1, ha.2.1]⟩)
def two64 : Nat := 18446744073709551616
def cntG (acc was : Nat) (_ : Ed) : Nat := (acc + was) % 18446744073709551616
theorem cntE_step : cntE = stepG cntG := by funext c e; rfl
theorem fold_sum (N : Nat → Nat) : ∀ (L : List Ed) (a : Nat), a < 18446744073709551616 → L.foldl (fun acc e => cntG acc (N e.1.toNat) e) a = (a + (L.map fun e => N e.1.toNat).sum) % 18446744073709551616
  | [], a, h => by simp; omega
  | e :: L, a, h => by
    rw [List.foldl_cons, fold_sum N L _ (by unfold cntG; omega), List.map_cons, List.sum_cons]
    unfold cntG
    omega
theorem perm_into {ns : List Int} {es : List Ed} {r : Int} {P : List (Int × Int)} (hok : graphOk ns es = true) (h : IsNear es r P) (hn : NdOk P) (x : Int) (hx : x ∈ ns) (I : Ed → Bool) (hI : ∀ e, e ∈ es → (I e = true ↔ Into es r x e)) : ((told es P P).filter fun e => decide (e.2.1.toNat = x.toNat)).Perm (es.filter I) := by
  have hbd := graphOk_bd hok
  have h0 : ∀ n ∈ P, 0 ≤ n.1 := fun n h1 => by have := (hn.2 n h1).1; omega
  have hd := graphOk_nodup hok
  rw [List.perm_ext_iff_of_nodup ((told_nodup hd P P h.nd).filter _) (hd.filter _)]
  intro e
  rw [List.mem_filter, List.mem_filter, h.told_iff h0, decide_eq_true_eq]
  have h2 := hbd.1 x hx
  constructor
  · rintro ⟨⟨h1, d, hd1, hd2⟩, h3⟩
    have h4 := hbd.1 _ (hbd.2.1 e h1).2
    have h5 : e.2.1 = x := by omega
    exact ⟨h1, (hI e h1).2 ⟨h1, h5, d, hd1, by rw [← h5]; exact hd2⟩⟩
  · rintro ⟨h1, h3⟩
    obtain ⟨_, h4, d, hd1, hd2⟩ := (hI e h1).1 h3
    exact ⟨⟨h1, d, hd1, by rw [h4]; exact hd2⟩, by rw [h4]⟩
/-- As many ways as those ahead have together. -/
theorem cnt_all {ns : List Int} {es : List Ed} {r : Int} {P : List (Int × Int)} (hok : graphOk ns es = true) (hr : r ∈ ns) (h : IsNear es r P) (hn : NdOk P) (x : Int) (hx : x ∈ ns) (I : Ed → Bool) (hI : ∀ e, e ∈ es → (I e = true ↔ Into es r x e)) :
    cntT r (told es P P) x.toNat = ((if x = r then 1 else 0) + ((es.filter I).map fun e => cntT r (told es P P) e.1.toNat).sum) % 18446744073709551616 := by
  have hp := graphOk_pos hok
  have hbd := graphOk_bd hok
  have h0 : ∀ n ∈ P, 0 ≤ n.1 := fun n h1 => by have := (hn.2 n h1).1; omega
  have hfold := topo_fold cntG (putV (fun _ => 0) r.toNat 1) _ _ rfl (h.topo h0 hp) x.toNat
  have h1 := hbd.1 x hx
  have h2 := hbd.1 r hr
  have hcnt : ∀ y, (told es P P).foldl (stepG cntG) (putV (fun _ => 0) r.toNat 1) y = cntT r (told es P P) y := fun y => by unfold cntT; rw [cntE_step]; rfl
  rw [hcnt] at hfold
  rw [hfold]
  have hi : putV (fun _ => 0) r.toNat 1 x.toNat = (if x = r then 1 else 0 : Nat) := by
    unfold putV
    by_cases e : x = r
    · rw [if_pos (by rw [e]), if_pos e]
    · rw [if_neg (by omega), if_neg e]
  rw [hi]
  have hf : ∀ (L : List Ed) (a : Nat), L.foldl (fun acc e => cntG acc ((told es P P).foldl (stepG cntG) (putV (fun _ => 0) r.toNat 1) e.1.toNat) e) a = L.foldl (fun acc e => cntG acc (cntT r (told es P P) e.1.toNat) e) a := fun L a => by
    congr
  rw [hf, fold_sum _ _ _ (by split <;> omega), ((perm_into hok h hn x hx I hI).map _).sum_nat]
end Go.Proofs.Ytfbojelflplflaa
namespace Go.Proofs.Ytfbojelflplflaa
open Go.RowKit

theorem ex_at {y : Int} (h : y = 1 ∨ y = 2 ∨ y = 3 ∨ y = 4) : Ds exE 1 y (exF y) := by
  rcases h with rfl | rfl | rfl | rfl
  · exact ex_ds.1
  · exact ex_ds.2.1
  · exact ex_ds.2.2.1
  · exact ex_ds.2.2.2
def exI (x : Int) (e : Ed) : Bool := decide (e.2.1 = x) && decide (exF e.1 + e.2.2 = exF x)
theorem ex_into {x : Int} (hx : x = 1 ∨ x = 2 ∨ x = 3 ∨ x = 4) (e : Ed) (he : e ∈ exE) : exI x e = true ↔ Into exE 1 x e := by
  have h1 : e.1 = 1 ∨ e.1 = 2 ∨ e.1 = 3 ∨ e.1 = 4 := by
    have := ((graphOk_bd ex_ok).2.1 e he).1
    have := tabN_mem.1 this
    omega
  simp only [exI, Bool.and_eq_true, decide_eq_true_eq]
  constructor
  · rintro ⟨h2, h3⟩
    exact ⟨he, h2, _, ex_at h1, by rw [h3]; exact ex_at hx⟩
  · rintro ⟨_, h2, d, h3, h4⟩
    have h5 := h3.uniq (ex_at h1)
    have h6 := h4.uniq (ex_at hx)
    exact ⟨h2, by omega⟩
theorem ex_count {P : List (Int × Int)} (h : IsNear exE 1 P) (hn : NdOk P) : cntT 1 (told exE P P) 4 = 3 := by
  have hc := fun x hx hx4 => cnt_all ex_ok (r := 1) (by decide) h hn x hx (exI x) (ex_into hx4)
  have c1 := hc 1 (by decide) (by decide)
  have c2 := hc 2 (by decide) (by decide)
  have c3 := hc 3 (by decide) (by decide)
  have c4 := hc 4 (by decide) (by decide)
  rw [show exE.filter (exI 1) = [] from by decide] at c1
  rw [show exE.filter (exI 2) = [(1, 2, 1)] from by decide] at c2
  rw [show exE.filter (exI 3) = [(1, 3, 1)] from by decide] at c3
  rw [show exE.filter (exI 4) = [(1, 4, 2), (2, 4, 1), (3, 4, 1)] from by decide] at c4
  simp at c1 c2 c3 c4
  generalize cntT 1 (told exE P P) = N at *
  omega
end Go.Proofs.Ytfbojelflplflaa
namespace Go.Proofs.Ytfbojelflplflaa
open Go.RowKit

theorem exL_b : LkB exL := by unfold LkB exL; decide
abbrev exO : Obj := .cells #[.int .u8 0, .int .u8 1, .int .u8 0, .int .u8 0, .int .u8 2, .int .u8 0, .int .u8 1, .int .u8 3, .int .u8 0, .int .u8 2, .int .u8 3, .int .u8 0, .int .u8 0, .int .u8 3, .int .u8 1] 81
set_option maxRecDepth 100000 in
set_option maxHeartbeats 1000000 in
theorem example_any (w : World) :
    Calls Try.prog 28 #[] w fun e w' => (∃ a b, e = .returned (grV a b) ∧ GrOwn w.heap.size w' a b (tabN 4) exE) ∧ Below w.heap.size w w' := by
  obtain ⟨W1, hW1⟩ : ∃ W1, w.alloc nilG = W1 := ⟨_, rfl⟩
  obtain ⟨W2, hW2⟩ : ∃ W2, W1.alloc exO = W2 := ⟨_, rfl⟩
  have b1 : Below w.heap.size w W1 := by rw [← hW1]; exact (Below.refl _ w).alloc (Nat.le_refl _) _
  have hX1 : W1.heap[w.heap.size]? = some nilG := by rw [← hW1]; exact heap_alloc_last w _
  have b2 : Below W1.heap.size W1 W2 := by rw [← hW2]; exact (Below.refl _ W1).alloc (Nat.le_refl _) _
  have hX2 := (b2.block _ (block_lt hX1)).trans hX1
  have hS : SlAt lc3 3 W2 (.slice (some ⟨W1.heap.size, 0, none⟩) 5 5) exL := by
    rw [← hW2]
    exact slAt_block (cs := lc3) (sz := 3) (l := exL) (fun _ => rfl) (T := 81) (heap_alloc_last W1 exO) (by decide)
  have HC := hidIn (lawOf_any (n := 4) hS exL_b (by omega) (by omega))
  have HB := hidIn (b1.trans (b2.mono b1.size))
  have HX := hidIn hX2
  have HW1 := hidIn hW1
  have HW2 := hidIn hW2
  clear hW1 hW2 b1 b2 hX1 hX2 hS
  go_enter Try.func28, Try.ntmps28
  go_upto_region 1 with fail
  rw [HW1.out]
  clear HW1
  go_wp2_with fail
  rw [HW2.out]
  clear HW2
  refine HC.out.mono ?_
  rintro e w3 ⟨⟨a, b, rfl, hG⟩, hb3⟩
  have hX3 := (hb3.block _ (block_lt HX.out)).trans HX.out
  have HB3 := hidIn (HB.out.trans (hb3.mono HB.out.size))
  have r0 := cell_of_row _ _ 0 _ _ _ hX3
  have r1 := cell_of_row _ _ 1 _ _ _ hX3
  simp at r0 r1
  have f0 := frozen_new hX3 0
  have f1 := frozen_new hX3 1
  have HX3 := hidIn hX3
  have HG := hidIn hG
  have hlt2 : w.heap.size < W2.heap.size := block_lt HX.out
  have Hb3 := hidIn hb3
  obtain ⟨ua, ucap, rfl⟩ := row_shape hG.n
  obtain ⟨va, vcap, rfl⟩ := row_shape hG.e
  clear HC hb3 hG hX3 HX HB Hb3
  obtain ⟨NN, hNN⟩ : ∃ NN, (tabN 4).length = NN := ⟨_, rfl⟩
  obtain ⟨EE, hEE⟩ : ∃ EE, (tabE (tabT 4 (exL.take 12)) 4 4).length = EE := ⟨_, rfl⟩
  rw [hNN, hEE] at HG ⊢
  clear hNN hEE
  go_wp2_with fail
  have e0 : ((w3.setCell ⟨w.heap.size, 0, none⟩ (.slice ua NN ucap)).setCell ⟨w.heap.size, 1, none⟩ (.slice va EE vcap)).cell? ⟨w.heap.size, 0, none⟩ = some (.slice ua NN ucap) := by simp [go_sem, r0]
  have e1 : ((w3.setCell ⟨w.heap.size, 0, none⟩ (.slice ua NN ucap)).setCell ⟨w.heap.size, 1, none⟩ (.slice va EE vcap)).cell? ⟨w.heap.size, 1, none⟩ = some (.slice va EE vcap) := by simp [go_sem, r1]
  have HF : Hid (Fr (fun k => k = w.heap.size) w3 ((w3.setCell ⟨w.heap.size, 0, none⟩ (.slice ua NN ucap)).setCell ⟨w.heap.size, 1, none⟩ (.slice va EE vcap))) := hidIn (((Fr.refl (fun k => k = w.heap.size) w3).set (p := ⟨w.heap.size, 0, none⟩) rfl _).set (p := ⟨w.heap.size, 1, none⟩) rfl _)
  generalize (w3.setCell ⟨w.heap.size, 0, none⟩ (.slice ua NN ucap)).setCell ⟨w.heap.size, 1, none⟩ (.slice va EE vcap) = V at *
  refine bodyPost_ret (v := grV (.slice ua NN ucap) (.slice va EE vcap)) (by simp [results, Try.results28, asAddr, Result.andThen, go_sem, e0, e1]) rfl ⟨⟨_, _, rfl, ?_⟩, ?_⟩
  · have h := (HG.out.fr HF.out (fun k hk => by omega)).low (Nat.le_of_lt hlt2)
    rw [show exL.take 12 = exL from rfl, ex_tab] at h
    exact h
  · exact HB3.out.trans (HF.out.below HB3.out.size (fun k hk => by omega))
/-- What a node costs by a list. -/
def csL (l : List Rr) (t : Int) : Int := match l.find? (fun r => decide (r.node = t)) with | some r => r.cost | none => -1
theorem find_at {l : List (Rr × Value)} {k : Nat} {x : Rr × Value} {t : Int} (hx : l[k]? = some x) (ht : x.1.node = t) (hb : ∀ y ∈ l.take k, y.1.node ≠ t) : (l.map (·.1)).find? (fun r => decide (r.node = t)) = some x.1 := by
  have hl : l = l.take k ++ x :: l.drop (k + 1) := by
    have h1 := List.take_append_drop k l
    rw [List.drop_eq_getElem_cons (List.getElem?_eq_some_iff.1 hx).1] at h1
    rw [(List.getElem?_eq_some_iff.1 hx).2] at h1
    exact h1.symm
  rw [hl, List.map_append, List.find?_append]
  have h1 : ((l.take k).map (·.1)).find? (fun r => decide (r.node = t)) = none := by
    rw [List.find?_eq_none]
    intro r hr
    obtain ⟨y, hy, rfl⟩ := List.mem_map.1 hr
    simpa using hb y hy
  rw [h1]
  simp [ht]
set_option maxRecDepth 100000 in
set_option maxHeartbeats 1000000 in
theorem lcost_any {l : List (Rr × Value)} {v : Value} {t : Int} {w : World} (h : RlAt w v l) :
    Calls Try.prog 26 #[v, .int .i64 t] w fun e w' => e = .returned (.int .i64 (csL (l.map (·.1)) t)) ∧ Below w.heap.size w w' := by
  have HC := hidIn (pof_any (t := t) h)
  obtain ⟨aa, cap, rfl, _⟩ := h.s
  obtain ⟨res, hres⟩ : ∃ res, csL (l.map (·.1)) t = res := ⟨_, rfl⟩
  rw [hres]
  have Hres := hidIn hres
  clear h hres
  go_enter Try.func26, Try.ntmps26
  go_wp2_with fail
  refine HC.out.mono ?_
  rintro e w2 ⟨h2, hb2⟩
  have HB := hidIn hb2
  clear HC hb2
  rcases h2 with ⟨k, ⟨x, xv⟩, v', hx, hxt, hbe, rfl, hs, hn⟩ | ⟨hno, rfl⟩
  · obtain ⟨va, vcap, rfl⟩ := hs.shape
    have HE : Hid (res = x.cost) := hidIn (by rw [← Hres.out]; unfold csL; rw [find_at hx hxt hbe])
    clear hs hn hx hxt hbe
    simp only
    generalize x.next.length = xn
    go_wp2_with fail
    go_ret
    exact ⟨by rw [HE.out]; rfl, HB.out.alloc HB.out.size _⟩
  · have HE : Hid (res = -1) := hidIn (by
      rw [← Hres.out]
      unfold csL
      rw [show (l.map (·.1)).find? (fun r => decide (r.node = t)) = none from List.find?_eq_none.2 (fun r hr => by obtain ⟨y, hy, rfl⟩ := List.mem_map.1 hr; simpa using hno y hy)])
    clear hno
    go_wp2_with fail
    go_ret
    exact ⟨by rw [HE.out]; rfl, HB.out.alloc HB.out.size _⟩
set_option maxRecDepth 100000 in
set_option maxHeartbeats 1000000 in
theorem works_any (w : World) : Calls Try.prog 17 #[] w fun e w' => e = .returned (.bool true) ∧ Below w.heap.size w w' := by
  go_enter Try.func17, Try.ntmps17
  go_wp2_with fail
  refine (example_any _).mono ?_
  rintro e w2 ⟨⟨a, b, rfl, hG⟩, hb2⟩
  have HF := hidIn (from_right hG.at 1)
  have HB2 := hidIn hb2
  obtain ⟨ua, ucap, rfl⟩ := row_shape hG.n
  obtain ⟨va, vcap, rfl⟩ := row_shape hG.e
  clear hG hb2
  go_wp2_with fail
  refine HF.out.mono ?_
  rintro e w3 ⟨h3, hb3⟩
  have HB3 := hidIn (HB2.out.trans (hb3.mono HB2.out.size))
  clear HF hb3 HB2
  rcases h3 with ⟨h3, _⟩ | ⟨_, l, u, mid, rfl, hmid, hrow, hat, his, hl25, hown⟩
  · exact absurd h3 (by decide)
  obtain ⟨p0, p1, p2, p3, hl, hc, hle, hmo, hnx⟩ := ex_from his
  obtain ⟨q0, q1, q2, q3, rfl⟩ : ∃ q0 q1 q2 q3, l = [q0, q1, q2, q3] := by
    match l, hl with
    | [q0, q1, q2, q3], _ => exact ⟨q0, q1, q2, q3, rfl⟩
  simp at hl
  obtain ⟨h0, h1, h2, h3⟩ := hl
  rw [← h3] at hc hle hmo hnx
  obtain ⟨hs, hnl, _⟩ := hat.n q3 (by simp)
  obtain ⟨na, ncap, hqv⟩ := hs.shape
  obtain ⟨aa, cap, rfl, _, _, hcell⟩ := hat.s.rchs
  obtain ⟨bk, o, rfl, hbk, hcell⟩ := hcell (by simp)
  obtain ⟨_, c1, c2, c3, c4⟩ := hcell 3 q3 rfl
  rw [hc] at c1
  rw [hle] at c2
  rw [hmo] at c3
  rw [hqv, hnx] at c4
  have HC : Hid (∀ wq, Below w3.heap.size w3 wq → wq.cell? ⟨bk, o + 3 * 5 + 1, none⟩ = some (.int .i64 2) ∧ wq.cell? ⟨bk, o + 3 * 5 + 2, none⟩ = some (.int .i64 1) ∧ wq.cell? ⟨bk, o + 3 * 5 + 3, none⟩ = some (.int .i64 2) ∧ wq.cell? ⟨bk, o + 3 * 5 + 4, none⟩ = some (.slice na 3 ncap)) := hidIn fun wq hq => ⟨(hq.cell (p := ⟨bk, o + 3 * 5 + 1, none⟩) hbk).trans c1, (hq.cell (p := ⟨bk, o + 3 * 5 + 2, none⟩) hbk).trans c2, (hq.cell (p := ⟨bk, o + 3 * 5 + 3, none⟩) hbk).trans c3, (hq.cell (p := ⟨bk, o + 3 * 5 + 4, none⟩) hbk).trans c4⟩
  clear hs hnl hqv hcell c1 c2 c3 c4 hc hle hmo hnx h0 h1 h2 h3 hat hrow his hown hmid hbk
  simp only [List.length_cons, List.length_nil, Nat.zero_add, Nat.reduceAdd]
  go_wp2_with fail
  refine (example_any _).mono ?_
  rintro e w4 ⟨⟨a, b, rfl, hG⟩, hb4⟩
  have HF := hidIn (count_any hG.at 1 4)
  have HB4 := hidIn (HB3.out.trans (hb4.mono HB3.out.size))
  have Hb4 := hidIn hb4
  obtain ⟨ua2, ucap2, rfl⟩ := row_shape hG.n
  obtain ⟨va2, vcap2, rfl⟩ := row_shape hG.e
  clear hG hb4
  go_wp2_with fail
  refine HF.out.mono ?_
  rintro e w5 ⟨h5, hb5⟩
  have HB5 := hidIn (HB4.out.trans (hb5.mono HB4.out.size))
  obtain ⟨c1, c2, c3, c4⟩ := HC.out w5 (Hb4.out.trans (hb5.mono Hb4.out.size))
  clear HF hb5 HB4 Hb4 HC
  rcases h5 with ⟨h5, _⟩ | ⟨_, P, hP, hN, rfl⟩
  · exact absurd h5 (by decide)
  rw [show ((4 : Int)).toNat = 4 from rfl, ex_count hP hN]
  clear hP hN
  simp at c1 c2 c3 c4
  go_wp2_with fail
  go_ret
  exact ⟨rfl, HB5.out⟩
end Go.Proofs.Ytfbojelflplflaa
namespace Go.Proofs.Ytfbojelflplflaa

def BothW (es : List Ed) : Prop := ∀ e ∈ es, (e.2.1, e.1, e.2.2) ∈ es
theorem Wy.turn {es : List Ed} (hs : BothW es) {a x c : Int} {h : Nat} (k : Wy es a x c h) : Wy es x a c h :=
  k (fun x c h => Wy es x a c h) (Wy.refl _ _) (fun e he c h hw => by
    have h1 : Wy es e.2.1 e.1 e.2.2 1 := Wy.one (hs e he)
    have h2 := h1.trans hw
    rwa [Int.add_comm, Nat.add_comm] at h2)
theorem Ds.turn {es : List Ed} (hs : BothW es) {a x d : Int} (h : Ds es a x d) : Ds es x a d := by
  obtain ⟨⟨k, hw⟩, h1⟩ := h
  exact ⟨⟨k, hw.turn hs⟩, fun c' h' hw' => h1 _ _ (hw'.turn hs)⟩
theorem Right.turn {es : List Ed} (hs : BothW es) {a b d d' : Int} {A B : Rr} (h1 : Ds es a b d) (h2 : Ds es b a d') (hA : Right es a b d A) (hB : Right es b a d' B) : A.cost = B.cost ∧ A.least = B.least ∧ A.most = B.most := by
  have hd := (h1.turn hs).uniq h2
  subst hd
  have l1 := (hA.hops _ (hB.lw.turn hs)).1
  have l2 := (hB.hops _ (hA.lw.turn hs)).1
  have m1 := (hA.hops _ (hB.mw.turn hs)).2
  have m2 := (hB.hops _ (hA.mw.turn hs)).2
  have := hA.l0
  have := hB.l0
  have := hA.m0
  have := hB.m0
  exact ⟨by rw [hA.cost, hB.cost], by omega, by omega⟩
theorem Wy.mono {es fs : List Ed} (hs : ∀ e ∈ fs, e ∈ es) {a x c : Int} {h : Nat} (k : Wy fs a x c h) : Wy es a x c h :=
  k (fun x c h => Wy es a x c h) (Wy.refl _ _) (fun e he _ _ hw => hw.step (hs e he))
/-- Among ways there is a cheapest one. -/
theorem ds_of {es : List Ed} (hp : PosE es) {r x c : Int} {h : Nat} (k : Wy es r x c h) : ∃ d, Ds es r x d ∧ d ≤ c := by
  have key : ∀ (n : Nat) (c : Int) (h : Nat), c.toNat = n → Wy es r x c h → ∃ d, Ds es r x d ∧ d ≤ c := by
    intro n
    induction n using Nat.strongRecOn with
    | _ n ih =>
    intro c h hc hw
    by_cases hm : ∀ c' h', Wy es r x c' h' → c ≤ c'
    · exact ⟨c, ⟨⟨h, hw⟩, hm⟩, Int.le_refl _⟩
    · have : ∃ c' h', Wy es r x c' h' ∧ c' < c := Classical.byContradiction fun hno => hm fun c' h' hw' => by
        by_cases hlt : c' < c
        · exact absurd ⟨c', h', hw', hlt⟩ hno
        · omega
      obtain ⟨c', h', hw', hlt⟩ := this
      have h1 := (hw'.pos hp).1
      obtain ⟨d, hd, hle⟩ := ih c'.toNat (by omega) c' h' rfl hw'
      exact ⟨d, hd, by omega⟩
  exact key _ c h rfl k
/-- Edges of the same pairs: who is come to stays so. -/
theorem wy_pairs {es fs : List Ed} (hs : ∀ e ∈ fs, ∃ c, (e.1, e.2.1, c) ∈ es) {a x c : Int} {h : Nat} (k : Wy fs a x c h) : ∃ c', Wy es a x c' h :=
  k (fun x _ h => ∃ c', Wy es a x c' h) ⟨0, Wy.refl _ _⟩ (fun e he _ _ ⟨c', hw⟩ => by
    obtain ⟨c2, h2⟩ := hs e he
    exact ⟨_, hw.step (e := (e.1, e.2.1, c2)) h2⟩)
end Go.Proofs.Ytfbojelflplflaa
namespace Go.Proofs.Ytfbojelflplflaa

def wh (es : List Ed) (a : Int) : Nat → Int → Int → Nat
  | 0, x, c => if x = a ∧ c = 0 then 1 else 0
  | h + 1, x, c => (es.map fun e => if e.2.1 = x then wh es a h e.1 (c - e.2.2) else 0).sum
theorem sum_add (es : List Ed) (F G : Ed → Nat) : (es.map fun e => F e + G e).sum = (es.map F).sum + (es.map G).sum := by
  induction es with
  | nil => rfl
  | cons e es ih => simp only [List.map_cons, List.sum_cons, ih]; omega
theorem sum_swap (fs : List Ed) (G : Ed → Ed → Nat) : ∀ es : List Ed, (es.map fun e => (fs.map fun f => G e f).sum).sum = (fs.map fun f => (es.map fun e => G e f).sum).sum
  | [] => by
    have : ∀ fs : List Ed, (fs.map fun _ => 0).sum = 0 := fun fs => by induction fs with | nil => rfl | cons f fs ih => rw [List.map_cons, List.sum_cons, ih]
    simp only [List.map_nil, List.sum_nil]
    exact (this fs).symm
  | e :: es => by
    simp only [List.map_cons, List.sum_cons]
    rw [sum_swap fs G es, sum_add]
theorem sum_if (es : List Ed) (p : Prop) [Decidable p] (F : Ed → Nat) : (if p then (es.map F).sum else 0) = (es.map fun e => if p then F e else 0).sum := by
  by_cases h : p
  · simp only [h, if_true]
  · simp only [h, if_false]
    induction es with
    | nil => rfl
    | cons e es ih => rw [List.map_cons, List.sum_cons, ← ih]
theorem sum_congr {es : List Ed} {F G : Ed → Nat} (h : ∀ e ∈ es, F e = G e) : (es.map F).sum = (es.map G).sum := by
  rw [List.map_congr_left h]
theorem wh_first (es : List Ed) : ∀ (h : Nat) (a x c : Int), wh es a (h + 1) x c = (es.map fun e => if e.1 = a then wh es e.2.1 h x (c - e.2.2) else 0).sum
  | 0, a, x, c => by
    refine sum_congr fun e _ => ?_
    simp only [wh]
    by_cases h1 : e.2.1 = x <;> by_cases h2 : e.1 = a <;> simp [h1, h2]
    intro h3
    exact absurd h3.symm h1
  | h + 1, a, x, c => by
    have h1 : wh es a (h + 2) x c = (es.map fun e => (es.map fun f => if e.2.1 = x then (if f.1 = a then wh es f.2.1 h e.1 (c - e.2.2 - f.2.2) else 0) else 0).sum).sum := by
      refine sum_congr fun e _ => ?_
      rw [wh_first es h a e.1 (c - e.2.2), sum_if]
    have h2 : (es.map fun f => if f.1 = a then wh es f.2.1 (h + 1) x (c - f.2.2) else 0).sum = (es.map fun f => (es.map fun e => if f.1 = a then (if e.2.1 = x then wh es f.2.1 h e.1 (c - f.2.2 - e.2.2) else 0) else 0).sum).sum := by
      refine sum_congr fun f _ => ?_
      rw [← sum_if]
      rfl
    rw [h1, h2, sum_swap]
    refine sum_congr fun f _ => sum_congr fun e _ => ?_
    by_cases g1 : e.2.1 = x <;> by_cases g2 : f.1 = a <;> simp [g1, g2]
    congr 1
    omega
def turnE (e : Ed) : Ed := (e.2.1, e.1, e.2.2)
theorem turn_perm {es : List Ed} (hd : es.Nodup) (hs : BothW es) : (es.map turnE).Perm es := by
  have hinj : (es.map turnE).Nodup := by
    refine List.Pairwise.map _ ?_ hd
    intro a b hab e
    apply hab
    obtain ⟨a1, a2, a3⟩ := a
    obtain ⟨b1, b2, b3⟩ := b
    simp only [turnE, Prod.mk.injEq] at e ⊢
    exact ⟨e.2.1, e.1, e.2.2⟩
  rw [List.perm_ext_iff_of_nodup hinj hd]
  intro e
  constructor
  · intro h
    obtain ⟨f, hf, rfl⟩ := List.mem_map.1 h
    exact hs f hf
  · intro h
    exact List.mem_map.2 ⟨_, hs e h, rfl⟩
theorem wh_turn {es : List Ed} (hd : es.Nodup) (hs : BothW es) : ∀ (h : Nat) (a x c : Int), wh es a h x c = wh es x h a c
  | 0, a, x, c => by
    simp only [wh]
    by_cases e : x = a
    · subst e; rfl
    · rw [if_neg (fun h => e h.1), if_neg (fun h => e h.1.symm)]
  | h + 1, a, x, c => by
    rw [wh_first es h x a c]
    show (es.map fun e => if e.2.1 = x then wh es a h e.1 (c - e.2.2) else 0).sum = _
    rw [← ((turn_perm hd hs).map fun e => if e.2.1 = x then wh es a h e.1 (c - e.2.2) else 0).sum_nat, List.map_map]
    refine sum_congr fun e _ => ?_
    show (if e.1 = x then wh es a h e.2.1 (c - e.2.2) else 0) = _
    rw [wh_turn hd hs h a e.2.1]
/-- Where there are such ways, there is one. -/
theorem wh_wy {es : List Ed} {a : Int} : ∀ {h : Nat} {x c : Int}, 0 < wh es a h x c → Wy es a x c h
  | 0, x, c, hw => by
    simp only [wh] at hw
    split at hw
    · rename_i h1
      rw [h1.1, h1.2]
      exact Wy.refl _ _
    · omega
  | h + 1, x, c, hw => by
    have : ∃ e ∈ es, e.2.1 = x ∧ 0 < wh es a h e.1 (c - e.2.2) := Classical.byContradiction fun hno => by
      have h0 : wh es a (h + 1) x c = (es.map fun _ => 0).sum := sum_congr fun e he => by
        by_cases h1 : e.2.1 = x
        · rw [if_pos h1]
          exact Nat.eq_zero_of_not_pos fun h2 => hno ⟨e, he, h1, h2⟩
        · rw [if_neg h1]
      have hz : (es.map fun _ => 0).sum = 0 := by
        clear h0 hw hno
        induction es with
        | nil => rfl
        | cons e es ih => rw [List.map_cons, List.sum_cons, ih]
      omega
    obtain ⟨e, he, h1, h2⟩ := this
    have h3 := (wh_wy h2).step he
    rw [h1, Int.sub_add_cancel] at h3
    exact h3
end Go.Proofs.Ytfbojelflplflaa
namespace Go.Proofs.Ytfbojelflplflaa

/-- How many ways cost d. -/
def waysN (es : List Ed) (r x d : Int) : Nat := ((List.range (d.toNat + 1)).map fun h => wh es r h x d).sum
theorem sumN_zero {F : Nat → Nat} : ∀ {l : List Nat}, (∀ h ∈ l, F h = 0) → (l.map F).sum = 0
  | [], _ => rfl
  | h :: l, hz => by rw [List.map_cons, List.sum_cons, hz h (by simp), sumN_zero (l := l) (fun k hk => hz k (by simp [hk]))]
theorem sumN_swap (es : List Ed) (G : Nat → Ed → Nat) : ∀ l : List Nat, (l.map fun h => (es.map fun e => G h e).sum).sum = (es.map fun e => (l.map fun h => G h e).sum).sum
  | [] => by
    simp only [List.map_nil, List.sum_nil]
    induction es with
    | nil => rfl
    | cons e es ih =>
      rw [List.map_cons, List.sum_cons, ← ih]
      rfl
  | h :: l => by
    simp only [List.map_cons, List.sum_cons]
    rw [sumN_swap es G l, sum_add]
/-- More hops than the cost: none. -/
theorem wh_far {es : List Ed} (hp : PosE es) {r x c : Int} {h : Nat} (hc : c < h) : wh es r h x c = 0 :=
  Nat.eq_zero_of_not_pos fun h0 => by have := ((wh_wy h0).pos hp).1; omega
theorem range_more (F : Nat → Nat) (n : Nat) : ∀ m, (∀ h, n ≤ h → F h = 0) → ((List.range (n + m)).map F).sum = ((List.range n).map F).sum
  | 0, _ => rfl
  | m + 1, hz => by
    rw [← Nat.add_assoc, List.range_succ, List.map_append, List.sum_append, range_more F n m hz]
    simp [hz (n + m) (by omega)]
theorem sum_filter (I : Ed → Bool) (F : Ed → Nat) : ∀ es : List Ed, ((es.filter I).map F).sum = (es.map fun e => if I e = true then F e else 0).sum
  | [] => rfl
  | e :: es => by
    by_cases h : I e = true
    · rw [List.filter_cons_of_pos h, List.map_cons, List.sum_cons, sum_filter I F es, List.map_cons, List.sum_cons, if_pos h]
    · rw [List.filter_cons_of_neg h, sum_filter I F es, List.map_cons, List.sum_cons, if_neg h, Nat.zero_add]
theorem sum_mod (F : Ed → Nat) (M a : Nat) : ∀ es : List Ed, (a + (es.map fun e => F e % M).sum) % M = (a + (es.map F).sum) % M := by
  intro es
  induction es generalizing a with
  | nil => rfl
  | cons e es ih =>
    simp only [List.map_cons, List.sum_cons]
    have h1 : (a + F e % M) % M = (a + F e) % M := Nat.add_mod_mod _ _ _
    rw [← Nat.add_assoc, ← Nat.add_assoc, ih (a + F e % M), Nat.add_mod (a + F e % M), h1, ← Nat.add_mod]
theorem waysN_step {ns : List Int} {es : List Ed} {r x d : Int} (hok : graphOk ns es = true) (hd : Ds es r x d) (I : Ed → Bool) (hI : ∀ e, e ∈ es → (I e = true ↔ Into es r x e)) :
    waysN es r x d = (if x = r then 1 else 0) + ((es.filter I).map fun e => waysN es r e.1 (d - e.2.2)).sum := by
  have hp := graphOk_pos hok
  have hd0 := hd.nonneg hp
  unfold waysN
  rw [List.range_succ_eq_map, List.map_cons, List.sum_cons, List.map_map]
  have h1 : wh es r 0 x d = if x = r then 1 else 0 := by
    simp only [wh]
    by_cases e : x = r
    · subst e
      rw [if_pos ⟨rfl, hd.uniq (ds_root hp)⟩, if_pos rfl]
    · rw [if_neg (fun h => e h.1), if_neg e]
  rw [h1]
  congr 1
  have h2 : ((List.range d.toNat).map ((fun h => wh es r h x d) ∘ Nat.succ)).sum = ((List.range d.toNat).map fun h => (es.map fun e => if e.2.1 = x then wh es r h e.1 (d - e.2.2) else 0).sum).sum := rfl
  rw [h2, sumN_swap, sum_filter]
  refine sum_congr fun e he => ?_
  by_cases hin : I e = true
  · rw [if_pos hin]
    obtain ⟨_, h3, d', h4, h5⟩ := (hI e he).1 hin
    have h6 := hd.uniq h5
    have h7 := hp e he
    have h8 := h4.nonneg hp
    simp only [h3, if_true]
    obtain ⟨m, hm⟩ : ∃ m, d.toNat = ((d - e.2.2).toNat + 1) + m := ⟨d.toNat - ((d - e.2.2).toNat + 1), by omega⟩
    rw [hm]
    exact range_more _ _ m (fun h hh => wh_far hp (by omega))
  · rw [if_neg hin]
    refine sumN_zero fun h _ => ?_
    by_cases h3 : e.2.1 = x
    · rw [if_pos h3]
      refine Nat.eq_zero_of_not_pos fun h0 => hin ((hI e he).2 ?_)
      exact (into_last hd he (wh_wy h0) h3.symm (by omega)).1
    · rw [if_neg h3]
open Classical in
theorem cnt_ways {ns : List Int} {es : List Ed} {r : Int} {P : List (Int × Int)} (hok : graphOk ns es = true) (hr : r ∈ ns) (h : IsNear es r P) (hn : NdOk P) :
    ∀ (n : Nat) (x d : Int), d.toNat = n → x ∈ ns → Ds es r x d → cntT r (told es P P) x.toNat = waysN es r x d % 18446744073709551616 := by
  have hp := graphOk_pos hok
  have hbd := graphOk_bd hok
  intro n
  induction n using Nat.strongRecOn with
  | _ n ih =>
  intro x d hdn hx hd
  have hI : ∀ e, e ∈ es → (decide (Into es r x e) = true ↔ Into es r x e) := fun e _ => decide_eq_true_iff
  rw [cnt_all hok hr h hn x hx (fun e => decide (Into es r x e)) hI, waysN_step hok hd (fun e => decide (Into es r x e)) hI]
  rw [← sum_mod (fun e => waysN es r e.1 (d - e.2.2))]
  congr 2
  refine sum_congr fun e he => ?_
  rw [List.mem_filter, decide_eq_true_iff] at he
  obtain ⟨h1, h2, d', h3, h4⟩ := he.2
  have h5 := hd.uniq h4
  have h6 := hp e h1
  have h7 := h3.nonneg hp
  rw [show d - e.2.2 = d' by omega]
  exact ih d'.toNat (by omega) e.1 d' rfl (hbd.2.1 e h1).1 h3
/-- As many ways back. -/
theorem waysN_turn {es : List Ed} (hd : es.Nodup) (hs : BothW es) (a x d : Int) : waysN es a x d = waysN es x a d := by
  unfold waysN
  congr 1
  exact List.map_congr_left fun h _ => wh_turn hd hs h a x d
end Go.Proofs.Ytfbojelflplflaa
namespace Go.Proofs.Ytfbojelflplflaa

theorem cnt_row (y : Int) : ∀ (F : List Ed) (c : Nat → Nat), (∀ e ∈ F, e.1 = y ∧ e.2.1.toNat ≠ y.toNat) → (F.Pairwise fun a b => a.2.1.toNat ≠ b.2.1.toNat) →
    (F.foldl cntE c) y.toNat = c y.toNat ∧ (∀ j, (F.foldl cntE c) j ≤ c j + c y.toNat) ∧ ∀ j, (∀ e ∈ F, e.2.1.toNat ≠ j) → (F.foldl cntE c) j = c j
  | [], c, _, _ => ⟨rfl, fun j => by simp, fun j _ => rfl⟩
  | e :: F, c, h, hp => by
    rw [List.pairwise_cons] at hp
    have he := h e (by simp)
    have hy : cntE c e y.toNat = c y.toNat := by unfold cntE putN; rw [if_neg (fun q => he.2 q.symm)]
    obtain ⟨h1, h2, h3⟩ := cnt_row y F (cntE c e) (fun f hf => h f (by simp [hf])) hp.2
    rw [List.foldl_cons]
    refine ⟨by rw [h1, hy], fun j => ?_, fun j hj => ?_⟩
    · by_cases hj : j = e.2.1.toNat
      · have h4 := h3 j (fun f hf q => hp.1 f hf (by rw [q, hj]))
        rw [h4]
        unfold cntE putN
        rw [if_pos hj, he.1, hj]
        exact Nat.mod_le _ _
      · have h4 := h2 j
        have h5 : cntE c e j = c j := by unfold cntE putN; rw [if_neg hj]
        rw [hy, h5] at h4
        exact h4
    · have h4 := h3 j (fun f hf => hj f (by simp [hf]))
      rw [h4]
      unfold cntE putN
      rw [if_neg (fun q => hj e (by simp) q.symm)]
theorem cnt_bound {ns : List Int} {es : List Ed} (hok : graphOk ns es = true) (hp : PosE es) (P : List (Int × Int)) (hne : ∀ e ∈ es, e.1 ≠ e.2.1) : ∀ (Q : List (Int × Int)) (c : Nat → Nat) (B : Nat), (∀ j, c j ≤ B) → ∀ j, ((told es P Q).foldl cntE c) j ≤ B * 2 ^ Q.length
  | [], c, B, h, j => by simpa [told] using h j
  | n :: Q, c, B, h, j => by
    have hbd := graphOk_bd hok
    have hr : es.Pairwise fun a b => risesE a b = true := by
      simp only [graphOk, Bool.and_eq_true] at hok
      exact (edgesOk_rise es _ hok.2.2).2
    rw [told, List.foldl_append]
    have hrow := cnt_row n.1 (es.filter fun e => decide (e.1 = n.1) && tgt es (cP P) P e) c (fun e he => by
      simp only [List.mem_filter, Bool.and_eq_true, decide_eq_true_eq] at he
      refine ⟨he.2.1, fun q => hne e he.1 ?_⟩
      have h1 := hbd.1 _ (hbd.2.1 e he.1).1
      have h2 := hbd.1 _ (hbd.2.1 e he.1).2
      rw [he.2.1] at h1 ⊢
      omega) (by
      have hf := hr.filter fun e => decide (e.1 = n.1) && tgt es (cP P) P e
      refine (List.pairwise_iff_forall_sublist.2 fun {a b} hab => ?_)
      have ha : a ∈ es.filter fun e => decide (e.1 = n.1) && tgt es (cP P) P e := hab.subset (by simp)
      have hb : b ∈ es.filter fun e => decide (e.1 = n.1) && tgt es (cP P) P e := hab.subset (by simp)
      have h3 := List.pairwise_iff_forall_sublist.1 hf hab
      simp only [List.mem_filter, Bool.and_eq_true, decide_eq_true_eq] at ha hb
      simp only [risesE, Bool.or_eq_true, Bool.and_eq_true, decide_eq_true_eq] at h3
      have h4 := hbd.1 _ (hbd.2.1 a ha.1).2
      have h5 := hbd.1 _ (hbd.2.1 b hb.1).2
      omega)
    have h6 := cnt_bound hok hp P hne Q ((es.filter fun e => decide (e.1 = n.1) && tgt es (cP P) P e).foldl cntE c) (B * 2) (fun i => by
      have := hrow.2.1 i
      have := h i
      have := h n.1.toNat
      omega) j
    rw [List.length_cons, Nat.pow_succ, Nat.mul_comm (2 ^ Q.length), ← Nat.mul_assoc]
    exact h6
theorem graphOk_ne {ns : List Int} {es : List Ed} (h : graphOk ns es = true) : ∀ e ∈ es, e.1 ≠ e.2.1 := by
  simp only [graphOk, Bool.and_eq_true] at h
  have key : ∀ (es : List Ed) (last : Ed), edgesOk ns last es = true → ∀ e ∈ es, e.1 ≠ e.2.1 := by
    intro es
    induction es with
    | nil => intro _ _ e he; simp at he
    | cons a es ih =>
      intro last h e he
      simp only [edgesOk, edgeOk, Bool.and_eq_true] at h
      rcases List.mem_cons.1 he with rfl | he
      · simpa using h.1.2.2.1
      · exact ih a h.2 e he
  exact key es _ h.2.2
theorem sum_le {F : Ed → Nat} {B : Nat} : ∀ {es : List Ed}, (∀ e ∈ es, F e ≤ B) → (es.map F).sum ≤ es.length * B
  | [], _ => by simp
  | e :: es, h => by
    rw [List.map_cons, List.sum_cons, List.length_cons, Nat.succ_mul]
    have h1 := h e (by simp)
    have h2 := sum_le (es := es) (F := F) (fun f hf => h f (by simp [hf]))
    omega
theorem sum_ge {F : Ed → Nat} : ∀ {es : List Ed} {e : Ed}, e ∈ es → F e ≤ (es.map F).sum
  | a :: es, e, h => by
    rw [List.map_cons, List.sum_cons]
    rcases List.mem_cons.1 h with rfl | h
    · omega
    · have := sum_ge (F := F) h; omega
open Classical in
theorem cnt_pos {ns : List Int} {es : List Ed} {r : Int} {P : List (Int × Int)} (hok : graphOk ns es = true) (hr : r ∈ ns) (h : IsNear es r P) (hn : NdOk P) :
    ∀ (n : Nat) (x d : Int), d.toNat = n → x ∈ ns → Ds es r x d → 0 < cntT r (told es P P) x.toNat := by
  have hp := graphOk_pos hok
  have hbd := graphOk_bd hok
  have hB : ∀ j, cntT r (told es P P) j ≤ 33554432 := fun j => by
    have h1 := cnt_bound hok hp P (graphOk_ne hok) P (putN (fun _ => 0) r.toNat 1) 1 (fun i => by unfold putN; split <;> simp) j
    have h2 : (2 : Nat) ^ P.length ≤ 2 ^ 25 := Nat.pow_le_pow_right (by omega) hn.1
    have h3 : (2 : Nat) ^ 25 = 33554432 := by decide
    have h4 : cntT r (told es P P) j ≤ 1 * 2 ^ P.length := h1
    omega
  intro n
  induction n using Nat.strongRecOn with
  | _ n ih =>
  intro x d hdn hx hd
  have hI : ∀ e, e ∈ es → (decide (Into es r x e) = true ↔ Into es r x e) := fun e _ => decide_eq_true_iff
  have hc := cnt_all hok hr h hn x hx (fun e => decide (Into es r x e)) hI
  have hs := sum_le (es := es.filter fun e => decide (Into es r x e)) (F := fun e => cntT r (told es P P) e.1.toNat) (fun e _ => hB _)
  have hl : (es.filter fun e => decide (Into es r x e)).length ≤ 384 := Nat.le_trans (List.length_filter_le _ _) hbd.2.2
  have hm : (es.filter fun e => decide (Into es r x e)).length * 33554432 ≤ 384 * 33554432 := Nat.mul_le_mul_right _ hl
  by_cases hxr : x = r
  · rw [if_pos hxr] at hc
    omega
  · rw [if_neg hxr] at hc
    obtain ⟨e, he⟩ := into_some hp hd hxr
    have hge := sum_ge (F := fun e => cntT r (told es P P) e.1.toNat) (es := es.filter fun e => decide (Into es r x e)) (e := e) (List.mem_filter.2 ⟨he.1, decide_eq_true_iff.2 he⟩)
    obtain ⟨h1, h2, d', h3, h4⟩ := he
    have h5 := hd.uniq h4
    have h6 := hp e h1
    have h7 := h3.nonneg hp
    have h8 := ih d'.toNat (by omega) e.1 d' rfl (hbd.2.1 e h1).1 h3
    omega
/-- Where there is no way, it has none. -/
theorem cnt_none {ns : List Int} {es : List Ed} {r : Int} {P : List (Int × Int)} (hok : graphOk ns es = true) (hr : r ∈ ns) (h : IsNear es r P) (hn : NdOk P) {x : Int} (hx : x ∈ ns) (hno : ∀ d, ¬ Ds es r x d) : cntT r (told es P P) x.toNat = 0 := by
  have hc := cnt_all hok hr h hn x hx (fun _ => false) (fun e _ => ⟨fun hf => by simp at hf, fun hI => absurd hI.2.2.choose_spec.2 (hno _)⟩)
  have hxr : x ≠ r := fun e => hno 0 (by rw [e]; exact ds_root (graphOk_pos hok))
  rw [if_neg hxr] at hc
  rw [hc, show (es.filter fun _ => false) = [] from by simp]
  rfl
end Go.Proofs.Ytfbojelflplflaa
namespace Go.Proofs.Ytfbojelflplflaa
open Go.RowKit

theorem tab_both {n : Nat} (h0 : 0 < n) (hn : n ≤ 7) (L : List Ed) : BothW (tabE (tabT n L) n n) := fun _ he => tab_turn (tabT_ok h0 (by omega) L) hn he
theorem tab_graph {n : Nat} (h0 : 0 < n) (hn : n ≤ 7) (L : List Ed) : graphOk (tabN n) (tabE (tabT n L) n n) = true := tab_ok (tabT_ok h0 (by omega) L) hn
theorem tab_nd {n : Nat} (h0 : 0 < n) (hn : n ≤ 7) (L : List Ed) {l : List Int} (hl : ∀ x ∈ l, 1 ≤ x ∧ x ≤ (n : Int)) : ndAll (tabN n) (tabE (tabT n L) n n) l = true := by
  unfold ndAll
  rw [tab_graph h0 hn L, Bool.true_and, List.all_eq_true]
  intro x hx
  exact hasN_iff.2 (tabN_mem.2 (hl x hx))
/-- As many ways there as back. -/
theorem cnt_turn {n : Nat} {E : List Ed} {a b : Int} {P Q : List (Int × Int)} (hok : graphOk (tabN n) E = true) (hs : BothW E) (ha : a ∈ tabN n) (hb : b ∈ tabN n) (hP : IsNear E a P) (hPn : NdOk P) (hQ : IsNear E b Q) (hQn : NdOk Q) : cntT a (told E P P) b.toNat = cntT b (told E Q Q) a.toNat := by
  by_cases hd : ∃ d, Ds E a b d
  · obtain ⟨d, hd⟩ := hd
    rw [cnt_ways hok ha hP hPn _ b d rfl hb hd, cnt_ways hok hb hQ hQn _ a d rfl ha (hd.turn hs), waysN_turn (graphOk_nodup hok) hs]
  · rw [cnt_none hok ha hP hPn hb (fun d h => hd ⟨d, h⟩), cnt_none hok hb hQ hQn ha (fun d h => hd ⟨d, h.turn hs⟩)]
set_option maxRecDepth 100000 in
set_option maxHeartbeats 4000000 in
theorem pathsTurned_walk {L : List Ed} {v : Value} {w : World} (h : SlAt lc3 3 w v L) (hL : LkB L) (x y : Nat) (hx : x < 256) (hy : y < 256) :
    Calls Try.prog 6 #[v, .int .u8 x, .int .u8 y] w fun e w' => e = .returned (.bool true) ∧ Below w.heap.size w w' := by
  have HO := hidIn (lawOf_any (n := 6) h hL (by omega) (by omega))
  obtain ⟨la, lcap, rfl, _⟩ := h.lks
  obtain ⟨a, ha⟩ : ∃ a : Nat, 1 + x % 6 = a := ⟨_, rfl⟩
  obtain ⟨b, hb⟩ : ∃ b : Nat, 1 + y % 6 = b := ⟨_, rfl⟩
  have mx : (x : Int).tmod 6 = ((x % 6 : Nat) : Int) := by rw [Int.tmod_eq_emod_of_nonneg (by omega)]; rfl
  have my : (y : Int).tmod 6 = ((y % 6 : Nat) : Int) := by rw [Int.tmod_eq_emod_of_nonneg (by omega)]; rfl
  obtain ⟨x6, hx6⟩ : ∃ x6, x % 6 = x6 := ⟨_, rfl⟩
  obtain ⟨y6, hy6⟩ : ∃ y6, y % 6 = y6 := ⟨_, rfl⟩
  have hxl : x6 < 6 := by omega
  have hyl : y6 < 6 := by omega
  rw [hx6] at mx ha
  rw [hy6] at my hb
  have ea : 1 + (x6 : Int) = (a : Int) := by omega
  have eb : 1 + (y6 : Int) = (b : Int) := by omega
  have Ea := hidIn ea
  have Eb := hidIn eb
  have ha1 : 1 ≤ (a : Int) ∧ (a : Int) ≤ ((6 : Nat) : Int) := by omega
  have hb1 : 1 ≤ (b : Int) ∧ (b : Int) ≤ ((6 : Nat) : Int) := by omega
  have HG := hidIn (tab_graph (n := 6) (by omega) (by omega) (L.take 12))
  have HS := hidIn (tab_both (n := 6) (by omega) (by omega) (L.take 12))
  have HNd := hidIn (fun l hl => tab_nd (n := 6) (by omega) (by omega) (L.take 12) (l := l) hl)
  obtain ⟨E, hE⟩ : ∃ E, tabE (tabT 6 (L.take 12)) 6 6 = E := ⟨_, rfl⟩
  rw [hE] at HO HG HS HNd
  have Ha1 := hidIn ha1
  have Hb1 := hidIn hb1
  clear h hL hE ha hb hx6 hy6 ha1 hb1 ea eb
  go_enter Try.func6, Try.ntmps6
  go_wp2_with fail
  refine HO.out.mono ?_
  rintro e w2 ⟨⟨va, vb, rfl, hG⟩, hb2⟩
  obtain ⟨ua, ucap, rfl⟩ := row_shape hG.n
  obtain ⟨ub, vcap, rfl⟩ := row_shape hG.e
  obtain ⟨W3, hW3⟩ : ∃ W3, w2.alloc (.cells #[.slice ua (tabN 6).length ucap, .slice ub E.length vcap] 25) = W3 := ⟨_, rfl⟩
  have b3 : Below w2.heap.size w2 W3 := by rw [← hW3]; exact (Below.refl _ w2).alloc (Nat.le_refl _) _
  have hX : W3.heap[w2.heap.size]? = some (.cells #[.slice ua (tabN 6).length ucap, .slice ub E.length vcap] 25) := by rw [← hW3]; exact heap_alloc_last w2 _
  obtain ⟨gb, hgb⟩ : ∃ gb, w2.heap.size = gb := ⟨_, rfl⟩
  rw [hgb] at hX
  have HGA := hidIn (hG.at.keep b3 (Nat.le_refl _))
  have HB3 := hidIn (hb2.trans (b3.mono hb2.size))
  have HX := hidIn hX
  have HW := hidIn hW3
  have Hgb := hidIn hgb
  clear hG hb2 b3 hX hW3 hgb HO
  obtain ⟨n6, hn6⟩ : ∃ n6, (tabN 6).length = n6 := ⟨_, rfl⟩
  rw [hn6] at HGA HX HW ⊢
  clear hn6
  have HK : Hid (∀ wq, Below W3.heap.size W3 wq → (wq.cell? ⟨gb, 0, none⟩ = some (.slice ua n6 ucap) ∧ wq.cell? ⟨gb, 1, none⟩ = some (.slice ub E.length vcap)) ∧ GrAt wq (.slice ua n6 ucap) (.slice ub E.length vcap) (tabN 6) E ∧ Below w.heap.size w wq) := hidIn fun wq h => by
    have j0 := (h.block _ (block_lt HX.out)).trans HX.out
    exact ⟨⟨cell_of_row _ _ 0 _ _ _ j0, cell_of_row _ _ 1 _ _ _ j0⟩, HGA.out.keep h (Nat.le_refl _), HB3.out.trans (h.mono HB3.out.size)⟩
  obtain ⟨el, hel⟩ : ∃ el, E.length = el := ⟨_, rfl⟩
  rw [hel] at HK HW ⊢
  clear hel HGA HB3 HX
  go_upto_region 3 with fail
  rw [HW.out, Hgb.out]
  rw [Ea.out, Eb.out]
  clear HW Hgb mx my
  obtain ⟨⟨g0, g1⟩, hGA, _⟩ := HK.out W3 (Below.refl _ _)
  have HFa := hidIn (from_right hGA (a : Int))
  clear hGA
  go_wp2_with fail
  refine HFa.out.mono ?_
  rintro e w4 ⟨h4, hb4⟩
  rcases h4 with ⟨h4, _⟩ | ⟨_, l, u, mid, rfl, hmid, hrow, hat, his, hl25, hown⟩
  · exact absurd h4 (by rw [HNd.out [(a : Int)] (fun z hz => by rw [List.mem_singleton.1 hz]; exact Ha1.out)]; simp)
  obtain ⟨pa, pcap, rfl, _⟩ := hat.s
  have Hat := hidIn hat
  have Hisa := hidIn his
  have HB4 := hidIn hb4
  clear hmid hrow hat his hl25 hown hb4 g0 g1 HFa
  obtain ⟨⟨g0, g1⟩, hGA, _⟩ := HK.out w4 HB4.out
  have HFb := hidIn (from_right hGA (b : Int))
  clear hGA
  obtain ⟨pl, hpl⟩ : ∃ pl, l.length = pl := ⟨_, rfl⟩
  rw [hpl] at Hat ⊢
  clear hpl
  go_wp2_with fail
  refine HFb.out.mono ?_
  rintro e w5 ⟨h5, hb5⟩
  rcases h5 with ⟨h5, _⟩ | ⟨_, m, u2, mid2, rfl, hmid, hrow, hat, his, hl25, hown⟩
  · exact absurd h5 (by rw [HNd.out [(b : Int)] (fun z hz => by rw [List.mem_singleton.1 hz]; exact Hb1.out)]; simp)
  obtain ⟨qa, qcap, rfl, _⟩ := hat.s
  have Hat2 := hidIn hat
  have Hisb := hidIn his
  have HB5 := hidIn (HB4.out.trans (hb5.mono HB4.out.size))
  have Hat' := hidIn (Hat.out.keep hb5 (Nat.le_refl _))
  clear hmid hrow hat his hl25 hown hb5 g0 g1 HFb HB4 Hat
  obtain ⟨⟨g0, g1⟩, hGA, _⟩ := HK.out w5 HB5.out
  have HCa := hidIn (count_any hGA (a : Int) (b : Int))
  clear hGA
  obtain ⟨ql, hql⟩ : ∃ ql, m.length = ql := ⟨_, rfl⟩
  rw [hql] at Hat2 ⊢
  clear hql
  go_wp2_with fail
  refine HCa.out.mono ?_
  rintro e w6 ⟨h6, hb6⟩
  rcases h6 with ⟨h6, _⟩ | ⟨_, P, hP, hPn, rfl⟩
  · exact absurd h6 (by rw [HNd.out [(a : Int), (b : Int)] (fun z hz => by rcases List.mem_cons.1 hz with rfl | hz; exact Ha1.out; rw [List.mem_singleton.1 hz]; exact Hb1.out)]; simp)
  have HB6 := hidIn (HB5.out.trans (hb6.mono HB5.out.size))
  have Hat3 := hidIn (Hat'.out.keep hb6 (Nat.le_refl _))
  have Hat4 := hidIn (Hat2.out.keep hb6 (Nat.le_refl _))
  have HP := hidIn (And.intro hP hPn)
  clear hb6 HCa g0 g1 HB5 Hat' Hat2 hP hPn
  obtain ⟨⟨g0, g1⟩, hGA, _⟩ := HK.out w6 HB6.out
  have HCb := hidIn (count_any hGA (b : Int) (a : Int))
  clear hGA
  obtain ⟨c1, hc1⟩ : ∃ c1, cntT (a : Int) (told E P P) ((b : Int)).toNat = c1 := ⟨_, rfl⟩
  have Hc1 := hidIn hc1
  rw [hc1]
  clear hc1
  go_wp2_with fail
  refine HCb.out.mono ?_
  rintro e w7 ⟨h7, hb7⟩
  rcases h7 with ⟨h7, _⟩ | ⟨_, Q, hQ, hQn, rfl⟩
  · exact absurd h7 (by rw [HNd.out [(b : Int), (a : Int)] (fun z hz => by rcases List.mem_cons.1 hz with rfl | hz; exact Hb1.out; rw [List.mem_singleton.1 hz]; exact Ha1.out)]; simp)
  have HB7 := hidIn (HB6.out.trans (hb7.mono HB6.out.size))
  have Hat5 := hidIn (Hat3.out.keep hb7 (Nat.le_refl _))
  have Hat6 := hidIn (Hat4.out.keep hb7 (Nat.le_refl _))
  have hma : (a : Int) ∈ tabN 6 := tabN_mem.2 Ha1.out
  have hmb : (b : Int) ∈ tabN 6 := tabN_mem.2 Hb1.out
  rw [← cnt_turn HG.out HS.out hma hmb HP.out.1 HP.out.2 hQ hQn, Hc1.out]
  have HPos : Hid (0 < c1 ↔ ∃ d, Ds E (a : Int) (b : Int) d) := hidIn (by
    rw [← Hc1.out]
    constructor
    · intro h
      refine Classical.byContradiction fun hno => ?_
      rw [cnt_none HG.out hma HP.out.1 HP.out.2 hmb (fun d hd => hno ⟨d, hd⟩)] at h
      omega
    · rintro ⟨d, hd⟩
      exact cnt_pos HG.out hma HP.out.1 HP.out.2 _ _ d rfl hmb hd)
  have Hma := hidIn hma
  have Hmb := hidIn hmb
  clear hb7 HCb g0 g1 HB6 Hat3 Hat4 hQ hQn hma hmb HP Hc1
  have HOa := hidIn (pof_any (t := (b : Int)) Hat5.out)
  go_wp2_with fail
  refine HOa.out.mono ?_
  rintro e w8 ⟨h8, hb8⟩
  have Hat7 := hidIn (Hat6.out.keep hb8 (Nat.le_refl _))
  have HB8 := hidIn (HB7.out.trans (hb8.mono HB7.out.size))
  clear HOa hb8 Hat5 Hat6 HB7
  rcases h8 with ⟨k, ⟨x8, xv⟩, v8, hk, hkt, _, rfl, hs8, _⟩ | ⟨hno, rfl⟩
  · simp only at hkt hs8
    obtain ⟨d, hd, hR⟩ := (Hisa.out.right x8 (List.mem_map.2 ⟨_, List.mem_of_getElem? hk, rfl⟩)).2
    rw [hkt] at hd hR
    obtain ⟨sa, scap, rfl⟩ := hs8.shape
    obtain ⟨W9, hW9⟩ : ∃ W9, w8.alloc (.cells #[.int .i64 x8.node, .int .i64 x8.cost, .int .i64 x8.least, .int .i64 x8.most, .slice sa x8.next.length scap] 34) = W9 := ⟨_, rfl⟩
    have b9 : Below w8.heap.size w8 W9 := by rw [← hW9]; exact (Below.refl _ w8).alloc (Nat.le_refl _) _
    have hX9 : W9.heap[w8.heap.size]? = some (.cells #[.int .i64 x8.node, .int .i64 x8.cost, .int .i64 x8.least, .int .i64 x8.most, .slice sa x8.next.length scap] 34) := by rw [← hW9]; exact heap_alloc_last w8 _
    have HOb := hidIn (pof_any (t := (a : Int)) (Hat7.out.keep b9 (Nat.le_refl _)))
    have HB9 := hidIn (HB8.out.trans (b9.mono HB8.out.size))
    have HX9 := hidIn hX9
    have HW := hidIn hW9
    obtain ⟨xb, hxb⟩ : ∃ xb, w8.heap.size = xb := ⟨_, rfl⟩
    rw [hxb] at HX9
    have Hxb := hidIn hxb
    have Hd := hidIn hd
    have HR := hidIn hR
    have hpos : (0 : Int) < (c1 : Int) := by have := HPos.out.2 ⟨d, hd⟩; omega
    clear hs8 hk hkt hd hR b9 hX9 hW9 hxb Hat7 HB8
    obtain ⟨xn, hxn⟩ : ∃ xn, x8.next.length = xn := ⟨_, rfl⟩
    rw [hxn] at HW HX9 ⊢
    clear hxn
    go_upto_region 10 with fail
    rw [HW.out, Hxb.out]
    clear HW Hxb
    go_wp2_with fail
    refine HOb.out.mono ?_
    rintro e w9 ⟨h9, hb9⟩
    have hX9 := (hb9.block _ (block_lt HX9.out)).trans HX9.out
    have HB10 := hidIn (HB9.out.trans (hb9.mono HB9.out.size))
    have hxlt : xb < w9.heap.size := block_lt hX9
    clear HOb hb9 HX9 HB9
    rcases h9 with ⟨k9, ⟨y9, yv⟩, v9, hk9, hkt9, _, rfl, hs9, _⟩ | ⟨hno, rfl⟩
    case inr =>
      obtain ⟨q, hq, hqn⟩ := Hisb.out.all (a : Int) d Hma.out (Hd.out.turn HS.out)
      obtain ⟨q', hq', rfl⟩ := List.mem_map.1 hq
      exact absurd hqn (hno q' hq')
    simp only at hkt9 hs9
    obtain ⟨d9, hd9, hR9⟩ := (Hisb.out.right y9 (List.mem_map.2 ⟨_, List.mem_of_getElem? hk9, rfl⟩)).2
    rw [hkt9] at hd9 hR9
    obtain ⟨q1, q2, q3⟩ := Right.turn HS.out Hd.out hd9 HR.out hR9
    obtain ⟨ta, tcap, rfl⟩ := hs9.shape
    obtain ⟨yn0, yc, yl, ym, ynx⟩ := y9
    simp only at q1 q2 q3 hs9 hkt9 hR9 ⊢
    subst q1 q2 q3
    have x1 := cell_of_row _ _ 1 _ _ _ hX9
    have x2 := cell_of_row _ _ 2 _ _ _ hX9
    have x3 := cell_of_row _ _ 3 _ _ _ hX9
    simp at x1 x2 x3
    clear hs9 hk9 hkt9 hd9 hR9 hX9 Hd HR
    generalize ynx.length = yn
    have hxne : xb ≠ w9.heap.size := by omega
    go_wp2_with fail
    refine (works_any _).mono ?_
    rintro e wz ⟨rfl, hbz⟩
    have HBz := hidIn ((HB10.out.alloc HB10.out.size _).trans (hbz.mono (HB10.out.alloc HB10.out.size _).size))
    clear hbz x1 x2 x3
    go_wp2_with fail
    go_ret
    exact ⟨rfl, (HK.out wz HBz.out).2.2⟩
  · have Hno := hidIn hno
    have hz : (c1 : Int) = 0 := by
      have : ¬ 0 < c1 := fun h => by
        obtain ⟨d, hd⟩ := HPos.out.1 h
        obtain ⟨q, hq, hqn⟩ := Hisa.out.all (b : Int) d Hmb.out hd
        obtain ⟨q', hq', rfl⟩ := List.mem_map.1 hq
        exact hno q' hq' hqn
      omega
    rw [hz]
    have HPos2 : Hid (∀ d, ¬ Ds E (a : Int) (b : Int) d) := hidIn fun d hd => by have := HPos.out.2 ⟨d, hd⟩; omega
    obtain ⟨W9, hW9⟩ : ∃ W9, w8.alloc (.cells #[.int .i64 0, .int .i64 0, .int .i64 0, .int .i64 0, .slice none 0 0] 34) = W9 := ⟨_, rfl⟩
    have b9 : Below w8.heap.size w8 W9 := by rw [← hW9]; exact (Below.refl _ w8).alloc (Nat.le_refl _) _
    have hX9 : W9.heap[w8.heap.size]? = some (.cells #[.int .i64 0, .int .i64 0, .int .i64 0, .int .i64 0, .slice none 0 0] 34) := by rw [← hW9]; exact heap_alloc_last w8 _
    have HOb := hidIn (pof_any (t := (a : Int)) (Hat7.out.keep b9 (Nat.le_refl _)))
    have HB9 := hidIn (HB8.out.trans (b9.mono HB8.out.size))
    have HX9 := hidIn hX9
    have HW := hidIn hW9
    obtain ⟨xb, hxb⟩ : ∃ xb, w8.heap.size = xb := ⟨_, rfl⟩
    rw [hxb] at HX9
    have Hxb := hidIn hxb
    clear hno hz HPos b9 hX9 hW9 hxb Hat7 HB8
    simp only [noR]
    go_upto_region 10 with fail
    rw [HW.out, Hxb.out]
    clear HW Hxb
    go_wp2_with fail
    refine HOb.out.mono ?_
    rintro e w9 ⟨h9, hb9⟩
    have hX9 := (hb9.block _ (block_lt HX9.out)).trans HX9.out
    have HB10 := hidIn (HB9.out.trans (hb9.mono HB9.out.size))
    have hxlt : xb < w9.heap.size := block_lt hX9
    clear HOb hb9 HX9 HB9
    rcases h9 with ⟨k9, ⟨y9, yv⟩, v9, hk9, hkt9, _, rfl, hs9, _⟩ | ⟨hno, rfl⟩
    case inl =>
      obtain ⟨d9, hd9, hR9⟩ := (Hisb.out.right y9 (List.mem_map.2 ⟨_, List.mem_of_getElem? hk9, rfl⟩)).2
      simp only at hkt9
      rw [hkt9] at hd9
      exact absurd (hd9.turn HS.out) (HPos2.out d9)
    have x1 := cell_of_row _ _ 1 _ _ _ hX9
    have x2 := cell_of_row _ _ 2 _ _ _ hX9
    have x3 := cell_of_row _ _ 3 _ _ _ hX9
    simp at x1 x2 x3
    clear hX9 hno
    have hxne : xb ≠ w9.heap.size := by omega
    simp only [noR]
    go_wp2_with fail
    refine (works_any _).mono ?_
    rintro e wz ⟨rfl, hbz⟩
    have HBz := hidIn ((HB10.out.alloc HB10.out.size _).trans (hbz.mono (HB10.out.alloc HB10.out.size _).size))
    clear hbz x1 x2 x3
    go_wp2_with fail
    go_ret
    exact ⟨rfl, (HK.out wz HBz.out).2.2⟩
theorem pathsTurned_int {L : List Ed} {v : Value} {w : World} {x y : Int} (h : SlAt lc3 3 w v L) (hL : LkB L) (hx : (Lit.int .u8 x).wf = true) (hy : (Lit.int .u8 y).wf = true) :
    Calls Try.prog 6 #[v, .int .u8 x, .int .u8 y] w fun e w' => e = .returned (.bool true) ∧ Below w.heap.size w w' := by
  have h1 := bounds_u8 hx
  have h2 := bounds_u8 hy
  obtain ⟨X, rfl⟩ : ∃ X : Nat, x = (X : Int) := ⟨x.toNat, by omega⟩
  obtain ⟨Y, rfl⟩ : ∃ Y : Nat, y = (Y : Int) := ⟨y.toNat, by omega⟩
  exact pathsTurned_walk h hL X Y (by omega) (by omega)
end Go.Proofs.Ytfbojelflplflaa
namespace Go.Proofs.Ytfbojelflplflaa
open Go.ChangeShapes Go.WideShapes Go.ChangeAt Go.RowKit

section
variable {H : Type} {enc : TypeId × Value → H} {W : World}
theorem cU8 : Try.prog.cellsOf 5 = 1 := by kernel_rfl
theorem cLk8 : Try.prog.cellsOf 81 = 3 := by kernel_rfl
theorem bLk8 : Try.prog.bytesOf 81 = 3 := by kernel_rfl
theorem lk8F : Try.prog.underlying 81 = some (.struct #[(Try.prog.fieldsOf 81)[0]!, (Try.prog.fieldsOf 81)[1]!, (Try.prog.fieldsOf 81)[2]!]) := by kernel_rfl
theorem lk8F' : (((Try.prog.fieldsOf 81)[0]!).type = 5 ∧ ((Try.prog.fieldsOf 81)[0]!).offset = 0) ∧ (((Try.prog.fieldsOf 81)[1]!).type = 5 ∧ ((Try.prog.fieldsOf 81)[1]!).offset = 1) ∧ ((Try.prog.fieldsOf 81)[2]!).type = 5 ∧ ((Try.prog.fieldsOf 81)[2]!).offset = 2 := ⟨⟨by kernel_rfl, by kernel_rfl⟩, ⟨by kernel_rfl, by kernel_rfl⟩, by kernel_rfl, by kernel_rfl⟩
set_option maxRecDepth 100000 in
theorem lk8_cells {n : Nat} {cs' : List Value} {x : DataW H × List MemPlace} (h : DataW.trod enc Try.prog W 0 (fun _ => true) true n 81 cs' = some x) : ∃ y : Ed, cs' = lc3 y ∧ (0 ≤ y.1 ∧ y.1 ≤ 255) ∧ (0 ≤ y.2.1 ∧ y.2.1 ≤ 255) ∧ 0 ≤ y.2.2 ∧ y.2.2 ≤ 255 := by
  obtain ⟨y0, y1, y2, k, _, hlen, h0, h1, h2⟩ := Deep.trod_struct3 lk8F h
  obtain ⟨⟨a0, b0⟩, ⟨a1, b1⟩, a2, b2⟩ := lk8F'
  rw [cLk8] at hlen
  match cs', hlen with
  | [v0, v1, v2], _ =>
    rw [a0, b0, cU8] at h0
    rw [a1, b1, cU8] at h1
    rw [a2, b2, cU8] at h2
    obtain ⟨p, hp, _, wp⟩ := DataW.trod_int Try.underlying5 h0
    obtain ⟨q, hq, _, wq⟩ := DataW.trod_int Try.underlying5 h1
    obtain ⟨r, hr, _, wr⟩ := DataW.trod_int Try.underlying5 h2
    simp at hp hq hr
    exact ⟨(p, q, r), by rw [hp, hq, hr], bounds_u8 wp, bounds_u8 wq, bounds_u8 wr⟩
set_option maxRecDepth 100000 in
theorem lk8_arg {a : Option Addr} {len cap : Nat} {d : DataW H} {p : List MemPlace} (h : DataW.Trod enc Try.prog W 0 (fun _ => true) true 50 (.slice a len cap) d p) (hw : ∀ n ∈ d.weights Try.prog 50, n ≤ reachBytes) :
    ∃ ls, SlAt lc3 3 W (.slice a len cap) ls ∧ LkB ls ∧ NilOk (.slice a len cap) ∧ (ls.length + 1) * 3 ≤ 140737488355328 := by
  obtain ⟨fuel, hf⟩ := h
  obtain ⟨ns, hn1, hn2, hG, hn3⟩ := open_sl (0, 0, 0) (cs := lc3) (sz := 3) (fun _ => rfl) (by omega) Try.underlying50 cLk8 (fun n cs' x h => lk8_cells h) (by simpa [Value.cells] using hf)
  exact ⟨ns, hn1, hG, hn2, slice_weight Try.underlying50 bLk8 (by omega) hw (by rcases hn3 with rfl | h; exact .inl rfl; exact .inr h)⟩
end
end Go.Proofs.Ytfbojelflplflaa
