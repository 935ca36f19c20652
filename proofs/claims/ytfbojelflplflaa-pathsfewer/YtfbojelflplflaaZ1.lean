/- The chapter's example, as lists. What Count has of each node at its end: as many ways as those ahead of it have, together. The chapter's example: how many ways. The law's example, cost, works. What the law's table has of a pair: the first link of it; one link less. Ways turned round; ways where edges are fewer. -/
import Derived.Test.YtfbojelflplflaaVL0
import Derived.Test.YtfbojelflplflaaVQ3
import Derived.Test.YtfbojelflplflaaVL5
namespace Go.Proofs.Ytfbojelflplflaa
open Go.RowKit

/-- Lists that rise and have the same numbers are one. -/
theorem rise_ext : ∀ {l m : List Int}, l.Pairwise (fun a b => a < b) → m.Pairwise (fun a b => a < b) → (∀ x, x ∈ l ↔ x ∈ m) → l = m
  | [], [], _, _, _ => rfl
  | [], b :: m, _, _, h => absurd ((h b).2 (by simp)) (by simp)
  | a :: l, [], _, _, h => absurd ((h a).1 (by simp)) (by simp)
  | a :: l, b :: m, hl, hm, h => by
    rw [List.pairwise_cons] at hl hm
    have h1 : a = b := by
      rcases List.mem_cons.1 ((h a).1 (by simp)) with h2 | h2
      · exact h2
      · rcases List.mem_cons.1 ((h b).2 (by simp)) with h3 | h3
        · exact h3.symm
        · have := hl.1 b h3; have := hm.1 a h2; omega
    subst h1
    rw [rise_ext hl.2 hm.2 (fun x => ?_)]
    constructor
    · intro hx
      rcases List.mem_cons.1 ((h x).1 (by simp [hx])) with h2 | h2
      · have := hl.1 x hx; omega
      · exact h2
    · intro hx
      rcases List.mem_cons.1 ((h x).2 (by simp [hx])) with h2 | h2
      · have := hm.1 x hx; omega
      · exact h2
/-- The example's links and edges. -/
def exL : List Ed := [(0, 1, 0), (0, 2, 0), (1, 3, 0), (2, 3, 0), (0, 3, 1)]
def exE : List Ed := [(1, 2, 1), (1, 3, 1), (1, 4, 2), (2, 1, 1), (2, 4, 1), (3, 1, 1), (3, 4, 1), (4, 1, 2), (4, 2, 1), (4, 3, 1)]
theorem ex_tab : tabE (tabT 4 exL) 4 4 = exE := by decide
theorem ex_ok : graphOk (tabN 4) exE = true := by decide
def exF (x : Int) : Int := if x = 1 then 0 else if x = 4 then 2 else 1
theorem ex_low {x c : Int} {h : Nat} (k : Wy exE 1 x c h) : exF x ≤ c :=
  k (fun x c _ => exF x ≤ c) (by decide) (fun e he c h hs => by
    simp only [exE, List.mem_cons, List.not_mem_nil, or_false] at he
    rcases he with rfl | rfl | rfl | rfl | rfl | rfl | rfl | rfl | rfl | rfl <;> simp [exF] at hs ⊢ <;> omega)
theorem ex_w2 : Wy exE 1 2 1 1 := Wy.one (e := (1, 2, 1)) (by decide)
theorem ex_w3 : Wy exE 1 3 1 1 := Wy.one (e := (1, 3, 1)) (by decide)
theorem ex_w4 : Wy exE 1 4 2 1 := Wy.one (e := (1, 4, 2)) (by decide)
theorem ex_w4' : Wy exE 1 4 2 2 := ex_w2.step (e := (2, 4, 1)) (by decide)
theorem ex_ds : Ds exE 1 1 0 ∧ Ds exE 1 2 1 ∧ Ds exE 1 3 1 ∧ Ds exE 1 4 2 :=
  ⟨⟨⟨_, Wy.refl _ _⟩, fun _ _ h => ex_low h⟩, ⟨⟨_, ex_w2⟩, fun _ _ h => ex_low h⟩, ⟨⟨_, ex_w3⟩, fun _ _ h => ex_low h⟩, ⟨⟨_, ex_w4⟩, fun _ _ h => ex_low h⟩⟩
theorem ex_from {l : List Rr} (h : IsFrom (tabN 4) exE 1 l) : ∃ a b c d, l = [a, b, c, d] ∧ d.cost = 2 ∧ d.least = 1 ∧ d.most = 2 ∧ d.next = [2, 3, 4] := by
  have hm : l.map (·.node) = [1, 2, 3, 4] := by
    refine rise_ext (List.pairwise_map.2 h.rise) (by decide) (fun x => ?_)
    constructor
    · intro hx
      obtain ⟨p, hp, rfl⟩ := List.mem_map.1 hx
      have h1 := tabN_mem.1 (h.right p hp).1
      have h2 : p.node = 1 ∨ p.node = 2 ∨ p.node = 3 ∨ p.node = 4 := by omega
      rcases h2 with h2 | h2 | h2 | h2 <;> rw [h2] <;> decide
    · intro hx
      have key : ∀ d, x ∈ tabN 4 → Ds exE 1 x d → x ∈ l.map (·.node) := fun d h1 h2 => by
        obtain ⟨p, hp, rfl⟩ := h.all x d h1 h2
        exact List.mem_map.2 ⟨p, hp, rfl⟩
      simp only [List.mem_cons, List.not_mem_nil, or_false] at hx
      rcases hx with rfl | rfl | rfl | rfl
      · exact key _ (by decide) ex_ds.1
      · exact key _ (by decide) ex_ds.2.1
      · exact key _ (by decide) ex_ds.2.2.1
      · exact key _ (by decide) ex_ds.2.2.2
  have hlen : l.length = 4 := by have := congrArg List.length hm; simpa using this
  obtain ⟨a, b, c, d, rfl⟩ : ∃ a b c d, l = [a, b, c, d] := by
    match l, hlen with
    | [a, b, c, d], _ => exact ⟨a, b, c, d, rfl⟩
  · simp only [List.map_cons, List.map_nil, List.cons.injEq, and_true] at hm
    obtain ⟨_, _, _, h4⟩ := hm
    obtain ⟨_, e, he, hR⟩ := h.right d (by simp)
    rw [h4] at he hR
    have h5 := he.uniq ex_ds.2.2.2
    subst h5
    have l1 := (hR.hops _ ex_w4).1
    have m1 := (hR.hops _ ex_w4').2
    have l0 := hR.l0
    have m0 := hR.m0
    have l2 : d.least.toNat ≠ 0 := fun e => by have := (hR.lw.zero e).1; omega
    have m2 := (hR.mw.pos (graphOk_pos ex_ok)).1
    refine ⟨a, b, c, d, rfl, hR.cost, by omega, by omega, rise_ext hR.np (by decide) (fun y => ?_)⟩
    rw [hR.nx (by omega) y]
    constructor
    · rintro ⟨e, he, h6, h7, _⟩
      simp only [exE, List.mem_cons, List.not_mem_nil, or_false] at he
      rcases he with rfl | rfl | rfl | rfl | rfl | rfl | rfl | rfl | rfl | rfl <;> simp at h6 h7 <;> subst h7 <;> simp
    · intro hy
      simp only [List.mem_cons, List.not_mem_nil, or_false] at hy
      rcases hy with rfl | rfl | rfl
      · exact ⟨(1, 2, 1), by decide, rfl, rfl, 1, Wy.one (e := (2, 4, 1)) (by decide)⟩
      · exact ⟨(1, 3, 1), by decide, rfl, rfl, 1, Wy.one (e := (3, 4, 1)) (by decide)⟩
      · exact ⟨(1, 4, 2), by decide, rfl, rfl, 0, Wy.refl _ _⟩
end Go.Proofs.Ytfbojelflplflaa
namespace Go.Proofs.Ytfbojelflplflaa

theorem edgesOk_rise {ns : List Int} : ∀ (es : List Ed) (last : Ed), edgesOk ns last es = true → (∀ e ∈ es, risesE last e = true) ∧ es.Pairwise fun a b => risesE a b = true
  | [], _, _ => by simp
  | a :: es, last, h => by
    simp only [edgesOk, edgeOk, Bool.and_eq_true] at h
    obtain ⟨h1, h2⟩ := edgesOk_rise es a h.2
    have hl : risesE last a = true := h.1.2.2.2.2
    have tr : ∀ x y z : Ed, risesE x y = true → risesE y z = true → risesE x z = true := fun x y z g1 g2 => by
      simp only [risesE, Bool.or_eq_true, Bool.and_eq_true, decide_eq_true_eq] at g1 g2 ⊢
      omega
    refine ⟨fun e he => ?_, List.pairwise_cons.2 ⟨h1, h2⟩⟩
    rcases List.mem_cons.1 he with rfl | he
    · exact hl
    · exact tr _ _ _ hl (h1 e he)
theorem graphOk_nodup {ns : List Int} {es : List Ed} (h : graphOk ns es = true) : es.Nodup := by
  simp only [graphOk, Bool.and_eq_true] at h
  exact (edgesOk_rise es _ h.2.2).2.imp (fun {a b} hr e => by
    subst e
    simp [risesE] at hr)
theorem told_nodup {es : List Ed} (hd : es.Nodup) (P : List (Int × Int)) : ∀ Q : List (Int × Int), (Q.map (·.1)).Nodup → (told es P Q).Nodup
  | [], _ => by simp [told]
  | n :: Q, hq => by
    rw [List.map_cons, List.nodup_cons] at hq
    rw [told, List.nodup_append]
    refine ⟨hd.filter _, told_nodup hd P Q hq.2, fun a ha b hb e => ?_⟩
    subst e
    simp only [List.mem_filter, Bool.and_eq_true, decide_eq_true_eq] at ha
    obtain ⟨⟨m, hm, h1⟩, _⟩ := told_mem.1 hb
    exact hq.1 (List.mem_map.2 ⟨m, hm, by rw [← h1, ha.2.1]⟩)
def two64 : Nat := 18446744073709551616
def cntG (acc was : Nat) (_ : Ed) : Nat := (acc + was) % 18446744073709551616
theorem cntE_step : cntE = stepG cntG := by funext c e; rfl
theorem fold_sum (N : Nat → Nat) : ∀ (L : List Ed) (a : Nat), a < 18446744073709551616 → L.foldl (fun acc e => cntG acc (N e.1.toNat) e) a = (a + (L.map fun e => N e.1.toNat).sum) % 18446744073709551616
  | [], a, h => by simp; omega
  | e :: L, a, h => by
    rw [List.foldl_cons, fold_sum N L _ (by unfold cntG; omega), List.map_cons, List.sum_cons]
    unfold cntG
    omega
theorem perm_into {ns : List Int} {es : List Ed} {r : Int} {P : List (Int × Int)} (hok : graphOk ns es = true) (h : IsNear es r P) (hn : NdOk P) (x : Int) (hx : x ∈ ns) (I : Ed → Bool) (hI : ∀ e, e ∈ es → (I e = true ↔ Into es r x e)) : ((told es P P).filter fun e => decide (e.2.1.toNat = x.toNat)).Perm (es.filter I) := by
  have hbd := graphOk_bd hok
  have h0 : ∀ n ∈ P, 0 ≤ n.1 := fun n h1 => by have := (hn.2 n h1).1; omega
  have hd := graphOk_nodup hok
  rw [List.perm_ext_iff_of_nodup ((told_nodup hd P P h.nd).filter _) (hd.filter _)]
  intro e
  rw [List.mem_filter, List.mem_filter, h.told_iff h0, decide_eq_true_eq]
  have h2 := hbd.1 x hx
  constructor
  · rintro ⟨⟨h1, d, hd1, hd2⟩, h3⟩
    have h4 := hbd.1 _ (hbd.2.1 e h1).2
    have h5 : e.2.1 = x := by omega
    exact ⟨h1, (hI e h1).2 ⟨h1, h5, d, hd1, by rw [← h5]; exact hd2⟩⟩
  · rintro ⟨h1, h3⟩
    obtain ⟨_, h4, d, hd1, hd2⟩ := (hI e h1).1 h3
    exact ⟨⟨h1, d, hd1, by rw [h4]; exact hd2⟩, by rw [h4]⟩
/-- As many ways as those ahead have together. -/
theorem cnt_all {ns : List Int} {es : List Ed} {r : Int} {P : List (Int × Int)} (hok : graphOk ns es = true) (hr : r ∈ ns) (h : IsNear es r P) (hn : NdOk P) (x : Int) (hx : x ∈ ns) (I : Ed → Bool) (hI : ∀ e, e ∈ es → (I e = true ↔ Into es r x e)) :
    cntT r (told es P P) x.toNat = ((if x = r then 1 else 0) + ((es.filter I).map fun e => cntT r (told es P P) e.1.toNat).sum) % 18446744073709551616 := by
  have hp := graphOk_pos hok
  have hbd := graphOk_bd hok
  have h0 : ∀ n ∈ P, 0 ≤ n.1 := fun n h1 => by have := (hn.2 n h1).1; omega
  have hfold := topo_fold cntG (putV (fun _ => 0) r.toNat 1) _ _ rfl (h.topo h0 hp) x.toNat
  have h1 := hbd.1 x hx
  have h2 := hbd.1 r hr
  have hcnt : ∀ y, (told es P P).foldl (stepG cntG) (putV (fun _ => 0) r.toNat 1) y = cntT r (told es P P) y := fun y => by unfold cntT; rw [cntE_step]; rfl
  rw [hcnt] at hfold
  rw [hfold]
  have hi : putV (fun _ => 0) r.toNat 1 x.toNat = (if x = r then 1 else 0 : Nat) := by
    unfold putV
    by_cases e : x = r
    · rw [if_pos (by rw [e]), if_pos e]
    · rw [if_neg (by omega), if_neg e]
  rw [hi]
  have hf : ∀ (L : List Ed) (a : Nat), L.foldl (fun acc e => cntG acc ((told es P P).foldl (stepG cntG) (putV (fun _ => 0) r.toNat 1) e.1.toNat) e) a = L.foldl (fun acc e => cntG acc (cntT r (told es P P) e.1.toNat) e) a := fun L a => by
    congr
  rw [hf, fold_sum _ _ _ (by split <;> omega), ((perm_into hok h hn x hx I hI).map _).sum_nat]
end Go.Proofs.Ytfbojelflplflaa
namespace Go.Proofs.Ytfbojelflplflaa
open Go.RowKit

theorem ex_at {y : Int} (h : y = 1 ∨ y = 2 ∨ y = 3 ∨ y = 4) : Ds exE 1 y (exF y) := by
  rcases h with rfl | rfl | rfl | rfl
  · exact ex_ds.1
  · exact ex_ds.2.1
  · exact ex_ds.2.2.1
  · exact ex_ds.2.2.2
def exI (x : Int) (e : Ed) : Bool := decide (e.2.1 = x) && decide (exF e.1 + e.2.2 = exF x)
theorem ex_into {x : Int} (hx : x = 1 ∨ x = 2 ∨ x = 3 ∨ x = 4) (e : Ed) (he : e ∈ exE) : exI x e = true ↔ Into exE 1 x e := by
  have h1 : e.1 = 1 ∨ e.1 = 2 ∨ e.1 = 3 ∨ e.1 = 4 := by
    have := ((graphOk_bd ex_ok).2.1 e he).1
    have := tabN_mem.1 this
    omega
  simp only [exI, Bool.and_eq_true, decide_eq_true_eq]
  constructor
  · rintro ⟨h2, h3⟩
    exact ⟨he, h2, _, ex_at h1, by rw [h3]; exact ex_at hx⟩
  · rintro ⟨_, h2, d, h3, h4⟩
    have h5 := h3.uniq (ex_at h1)
    have h6 := h4.uniq (ex_at hx)
    exact ⟨h2, by omega⟩
theorem ex_count {P : List (Int × Int)} (h : IsNear exE 1 P) (hn : NdOk P) : cntT 1 (told exE P P) 4 = 3 := by
  have hc := fun x hx hx4 => cnt_all ex_ok (r := 1) (by decide) h hn x hx (exI x) (ex_into hx4)
  have c1 := hc 1 (by decide) (by decide)
  have c2 := hc 2 (by decide) (by decide)
  have c3 := hc 3 (by decide) (by decide)
  have c4 := hc 4 (by decide) (by decide)
  rw [show exE.filter (exI 1) = [] from by decide] at c1
  rw [show exE.filter (exI 2) = [(1, 2, 1)] from by decide] at c2
  rw [show exE.filter (exI 3) = [(1, 3, 1)] from by decide] at c3
  rw [show exE.filter (exI 4) = [(1, 4, 2), (2, 4, 1), (3, 4, 1)] from by decide] at c4
  simp at c1 c2 c3 c4
  generalize cntT 1 (told exE P P) = N at *
  omega
end Go.Proofs.Ytfbojelflplflaa
namespace Go.Proofs.Ytfbojelflplflaa
open Go.RowKit

theorem exL_b : LkB exL := by unfold LkB exL; decide
abbrev exO : Obj := .cells #[.int .u8 0, .int .u8 1, .int .u8 0, .int .u8 0, .int .u8 2, .int .u8 0, .int .u8 1, .int .u8 3, .int .u8 0, .int .u8 2, .int .u8 3, .int .u8 0, .int .u8 0, .int .u8 3, .int .u8 1] 81
set_option maxRecDepth 100000 in
set_option maxHeartbeats 1000000 in
theorem example_any (w : World) :
    Calls Try.prog 28 #[] w fun e w' => (∃ a b, e = .returned (grV a b) ∧ GrOwn w.heap.size w' a b (tabN 4) exE) ∧ Below w.heap.size w w' := by
  obtain ⟨W1, hW1⟩ : ∃ W1, w.alloc nilG = W1 := ⟨_, rfl⟩
  obtain ⟨W2, hW2⟩ : ∃ W2, W1.alloc exO = W2 := ⟨_, rfl⟩
  have b1 : Below w.heap.size w W1 := by rw [← hW1]; exact (Below.refl _ w).alloc (Nat.le_refl _) _
  have hX1 : W1.heap[w.heap.size]? = some nilG := by rw [← hW1]; exact heap_alloc_last w _
  have b2 : Below W1.heap.size W1 W2 := by rw [← hW2]; exact (Below.refl _ W1).alloc (Nat.le_refl _) _
  have hX2 := (b2.block _ (block_lt hX1)).trans hX1
  have hS : SlAt lc3 3 W2 (.slice (some ⟨W1.heap.size, 0, none⟩) 5 5) exL := by
    rw [← hW2]
    exact slAt_block (cs := lc3) (sz := 3) (l := exL) (fun _ => rfl) (T := 81) (heap_alloc_last W1 exO) (by decide)
  have HC := hidIn (lawOf_any (n := 4) hS exL_b (by omega) (by omega))
  have HB := hidIn (b1.trans (b2.mono b1.size))
  have HX := hidIn hX2
  have HW1 := hidIn hW1
  have HW2 := hidIn hW2
  clear hW1 hW2 b1 b2 hX1 hX2 hS
  go_enter Try.func28, Try.ntmps28
  go_upto_region 1 with fail
  rw [HW1.out]
  clear HW1
  go_wp2_with fail
  rw [HW2.out]
  clear HW2
  refine HC.out.mono ?_
  rintro e w3 ⟨⟨a, b, rfl, hG⟩, hb3⟩
  have hX3 := (hb3.block _ (block_lt HX.out)).trans HX.out
  have HB3 := hidIn (HB.out.trans (hb3.mono HB.out.size))
  have r0 := cell_of_row _ _ 0 _ _ _ hX3
  have r1 := cell_of_row _ _ 1 _ _ _ hX3
  simp at r0 r1
  have f0 := frozen_new hX3 0
  have f1 := frozen_new hX3 1
  have HX3 := hidIn hX3
  have HG := hidIn hG
  have hlt2 : w.heap.size < W2.heap.size := block_lt HX.out
  have Hb3 := hidIn hb3
  obtain ⟨ua, ucap, rfl⟩ := row_shape hG.n
  obtain ⟨va, vcap, rfl⟩ := row_shape hG.e
  clear HC hb3 hG hX3 HX HB Hb3
  obtain ⟨NN, hNN⟩ : ∃ NN, (tabN 4).length = NN := ⟨_, rfl⟩
  obtain ⟨EE, hEE⟩ : ∃ EE, (tabE (tabT 4 (exL.take 12)) 4 4).length = EE := ⟨_, rfl⟩
  rw [hNN, hEE] at HG ⊢
  clear hNN hEE
  go_wp2_with fail
  have e0 : ((w3.setCell ⟨w.heap.size, 0, none⟩ (.slice ua NN ucap)).setCell ⟨w.heap.size, 1, none⟩ (.slice va EE vcap)).cell? ⟨w.heap.size, 0, none⟩ = some (.slice ua NN ucap) := by simp [go_sem, r0]
  have e1 : ((w3.setCell ⟨w.heap.size, 0, none⟩ (.slice ua NN ucap)).setCell ⟨w.heap.size, 1, none⟩ (.slice va EE vcap)).cell? ⟨w.heap.size, 1, none⟩ = some (.slice va EE vcap) := by simp [go_sem, r1]
  have HF : Hid (Fr (fun k => k = w.heap.size) w3 ((w3.setCell ⟨w.heap.size, 0, none⟩ (.slice ua NN ucap)).setCell ⟨w.heap.size, 1, none⟩ (.slice va EE vcap))) := hidIn (((Fr.refl (fun k => k = w.heap.size) w3).set (p := ⟨w.heap.size, 0, none⟩) rfl _).set (p := ⟨w.heap.size, 1, none⟩) rfl _)
  generalize (w3.setCell ⟨w.heap.size, 0, none⟩ (.slice ua NN ucap)).setCell ⟨w.heap.size, 1, none⟩ (.slice va EE vcap) = V at *
  refine bodyPost_ret (v := grV (.slice ua NN ucap) (.slice va EE vcap)) (by simp [results, Try.results28, asAddr, Result.andThen, go_sem, e0, e1]) rfl ⟨⟨_, _, rfl, ?_⟩, ?_⟩
  · have h := (HG.out.fr HF.out (fun k hk => by omega)).low (Nat.le_of_lt hlt2)
    rw [show exL.take 12 = exL from rfl, ex_tab] at h
    exact h
  · exact HB3.out.trans (HF.out.below HB3.out.size (fun k hk => by omega))
/-- What a node costs by a list. -/
def csL (l : List Rr) (t : Int) : Int := match l.find? (fun r => decide (r.node = t)) with | some r => r.cost | none => -1
theorem find_at {l : List (Rr × Value)} {k : Nat} {x : Rr × Value} {t : Int} (hx : l[k]? = some x) (ht : x.1.node = t) (hb : ∀ y ∈ l.take k, y.1.node ≠ t) : (l.map (·.1)).find? (fun r => decide (r.node = t)) = some x.1 := by
  have hl : l = l.take k ++ x :: l.drop (k + 1) := by
    have h1 := List.take_append_drop k l
    rw [List.drop_eq_getElem_cons (List.getElem?_eq_some_iff.1 hx).1] at h1
    rw [(List.getElem?_eq_some_iff.1 hx).2] at h1
    exact h1.symm
  rw [hl, List.map_append, List.find?_append]
  have h1 : ((l.take k).map (·.1)).find? (fun r => decide (r.node = t)) = none := by
    rw [List.find?_eq_none]
    intro r hr
    obtain ⟨y, hy, rfl⟩ := List.mem_map.1 hr
    simpa using hb y hy
  rw [h1]
  simp [ht]
set_option maxRecDepth 100000 in
set_option maxHeartbeats 1000000 in
theorem lcost_any {l : List (Rr × Value)} {v : Value} {t : Int} {w : World} (h : RlAt w v l) :
    Calls Try.prog 26 #[v, .int .i64 t] w fun e w' => e = .returned (.int .i64 (csL (l.map (·.1)) t)) ∧ Below w.heap.size w w' := by
  have HC := hidIn (pof_any (t := t) h)
  obtain ⟨aa, cap, rfl, _⟩ := h.s
  obtain ⟨res, hres⟩ : ∃ res, csL (l.map (·.1)) t = res := ⟨_, rfl⟩
  rw [hres]
  have Hres := hidIn hres
  clear h hres
  go_enter Try.func26, Try.ntmps26
  go_wp2_with fail
  refine HC.out.mono ?_
  rintro e w2 ⟨h2, hb2⟩
  have HB := hidIn hb2
  clear HC hb2
  rcases h2 with ⟨k, ⟨x, xv⟩, v', hx, hxt, hbe, rfl, hs, hn⟩ | ⟨hno, rfl⟩
  · obtain ⟨va, vcap, rfl⟩ := hs.shape
    have HE : Hid (res = x.cost) := hidIn (by rw [← Hres.out]; unfold csL; rw [find_at hx hxt hbe])
    clear hs hn hx hxt hbe
    simp only
    generalize x.next.length = xn
    go_wp2_with fail
    go_ret
    exact ⟨by rw [HE.out]; rfl, HB.out.alloc HB.out.size _⟩
  · have HE : Hid (res = -1) := hidIn (by
      rw [← Hres.out]
      unfold csL
      rw [show (l.map (·.1)).find? (fun r => decide (r.node = t)) = none from List.find?_eq_none.2 (fun r hr => by obtain ⟨y, hy, rfl⟩ := List.mem_map.1 hr; simpa using hno y hy)])
    clear hno
    go_wp2_with fail
    go_ret
    exact ⟨by rw [HE.out]; rfl, HB.out.alloc HB.out.size _⟩
set_option maxRecDepth 100000 in
set_option maxHeartbeats 1000000 in
theorem works_any (w : World) : Calls Try.prog 17 #[] w fun e w' => e = .returned (.bool true) ∧ Below w.heap.size w w' := by
  go_enter Try.func17, Try.ntmps17
  go_wp2_with fail
  refine (example_any _).mono ?_
  rintro e w2 ⟨⟨a, b, rfl, hG⟩, hb2⟩
  have HF := hidIn (from_right hG.at 1)
  have HB2 := hidIn hb2
  obtain ⟨ua, ucap, rfl⟩ := row_shape hG.n
  obtain ⟨va, vcap, rfl⟩ := row_shape hG.e
  clear hG hb2
  go_wp2_with fail
  refine HF.out.mono ?_
  rintro e w3 ⟨h3, hb3⟩
  have HB3 := hidIn (HB2.out.trans (hb3.mono HB2.out.size))
  clear HF hb3 HB2
  rcases h3 with ⟨h3, _⟩ | ⟨_, l, u, mid, rfl, hmid, hrow, hat, his, hl25, hown⟩
  · exact absurd h3 (by decide)
  obtain ⟨p0, p1, p2, p3, hl, hc, hle, hmo, hnx⟩ := ex_from his
  obtain ⟨q0, q1, q2, q3, rfl⟩ : ∃ q0 q1 q2 q3, l = [q0, q1, q2, q3] := by
    match l, hl with
    | [q0, q1, q2, q3], _ => exact ⟨q0, q1, q2, q3, rfl⟩
  simp at hl
  obtain ⟨h0, h1, h2, h3⟩ := hl
  rw [← h3] at hc hle hmo hnx
  obtain ⟨hs, hnl, _⟩ := hat.n q3 (by simp)
  obtain ⟨na, ncap, hqv⟩ := hs.shape
  obtain ⟨aa, cap, rfl, _, _, hcell⟩ := hat.s.rchs
  obtain ⟨bk, o, rfl, hbk, hcell⟩ := hcell (by simp)
  obtain ⟨_, c1, c2, c3, c4⟩ := hcell 3 q3 rfl
  rw [hc] at c1
  rw [hle] at c2
  rw [hmo] at c3
  rw [hqv, hnx] at c4
  have HC : Hid (∀ wq, Below w3.heap.size w3 wq → wq.cell? ⟨bk, o + 3 * 5 + 1, none⟩ = some (.int .i64 2) ∧ wq.cell? ⟨bk, o + 3 * 5 + 2, none⟩ = some (.int .i64 1) ∧ wq.cell? ⟨bk, o + 3 * 5 + 3, none⟩ = some (.int .i64 2) ∧ wq.cell? ⟨bk, o + 3 * 5 + 4, none⟩ = some (.slice na 3 ncap)) := hidIn fun wq hq => ⟨(hq.cell (p := ⟨bk, o + 3 * 5 + 1, none⟩) hbk).trans c1, (hq.cell (p := ⟨bk, o + 3 * 5 + 2, none⟩) hbk).trans c2, (hq.cell (p := ⟨bk, o + 3 * 5 + 3, none⟩) hbk).trans c3, (hq.cell (p := ⟨bk, o + 3 * 5 + 4, none⟩) hbk).trans c4⟩
  clear hs hnl hqv hcell c1 c2 c3 c4 hc hle hmo hnx h0 h1 h2 h3 hat hrow his hown hmid hbk
  simp only [List.length_cons, List.length_nil, Nat.zero_add, Nat.reduceAdd]
  go_wp2_with fail
  refine (example_any _).mono ?_
  rintro e w4 ⟨⟨a, b, rfl, hG⟩, hb4⟩
  have HF := hidIn (count_any hG.at 1 4)
  have HB4 := hidIn (HB3.out.trans (hb4.mono HB3.out.size))
  have Hb4 := hidIn hb4
  obtain ⟨ua2, ucap2, rfl⟩ := row_shape hG.n
  obtain ⟨va2, vcap2, rfl⟩ := row_shape hG.e
  clear hG hb4
  go_wp2_with fail
  refine HF.out.mono ?_
  rintro e w5 ⟨h5, hb5⟩
  have HB5 := hidIn (HB4.out.trans (hb5.mono HB4.out.size))
  obtain ⟨c1, c2, c3, c4⟩ := HC.out w5 (Hb4.out.trans (hb5.mono Hb4.out.size))
  clear HF hb5 HB4 Hb4 HC
  rcases h5 with ⟨h5, _⟩ | ⟨_, P, hP, hN, rfl⟩
  · exact absurd h5 (by decide)
  rw [show ((4 : Int)).toNat = 4 from rfl, ex_count hP hN]
  clear hP hN
  simp at c1 c2 c3 c4
  go_wp2_with fail
  go_ret
  exact ⟨rfl, HB5.out⟩
end Go.Proofs.Ytfbojelflplflaa
namespace Go.Proofs.Ytfbojelflplflaa
open Go.RowKit

def isP (n a b : Nat) (x : Ed) : Bool := decide ((x.1.toNat % n = a ∧ x.2.1.toNat % n = b) ∨ (x.1.toNat % n = b ∧ x.2.1.toNat % n = a))
def costF1 (x : Option Ed) : Int := match x with | some x => 1 + x.2.2 % 5 | none => 0
theorem costF1_some (x : Ed) : 1 ≤ costF1 (some x) ∧ costF1 (some x) ≤ 5 := by show 1 ≤ 1 + x.2.2 % 5 ∧ 1 + x.2.2 % 5 ≤ 5; omega
theorem tab_at {n : Nat} (h0 : 0 < n) (hn : n ≤ 16) {a b : Nat} (ha : a < n) (hb : b < n) (hab : a ≠ b) : ∀ (k : Nat) (L : List Ed), L.length = k → tabT n L (16 * a + b) = costF1 (L.find? (isP n a b)) := by
  intro k
  induction k with
  | zero => intro L hl; rw [List.length_eq_zero_iff.1 hl]; rfl
  | succ k ih =>
    intro L hl
    obtain ⟨U, x, rfl⟩ : ∃ U x, L = U ++ [x] := by
      rcases List.eq_nil_or_concat L with h | ⟨U, e, h⟩
      · rw [h] at hl; simp at hl
      · exact ⟨U, e, by simpa using h⟩
    have ihU := ih U (by simpa using hl)
    have hok := tabT_ok h0 hn U
    rw [tabT_snoc, List.find?_append]
    generalize tabT n U = c at *
    have hA := Nat.mod_lt x.1.toNat h0
    have hB := Nat.mod_lt x.2.1.toNat h0
    have hsy := hok.sy a b (by omega) (by omega)
    unfold tabL
    by_cases hp : isP n a b x = true
    · have hp' := hp
      simp only [isP, decide_eq_true_eq] at hp'
      cases hf : U.find? (isP n a b) with
      | some y =>
        rw [hf] at ihU
        have := costF1_some y
        rw [Option.some_or, if_neg]
        · exact ihU
        · rintro ⟨_, h2⟩
          rcases hp' with ⟨h3, h4⟩ | ⟨h3, h4⟩
          · rw [h3, h4, ihU] at h2; omega
          · rw [h3, h4, ← hsy, ihU] at h2; omega
      | none =>
        rw [hf] at ihU
        have h1 : c (16 * a + b) = 0 := ihU
        rw [Option.none_or, List.find?_singleton, if_pos hp]
        rcases hp' with ⟨h3, h4⟩ | ⟨h3, h4⟩
        · rw [h3, h4, if_pos ⟨hab, h1⟩]
          unfold putV
          rw [if_neg (by omega), if_pos rfl]
          rfl
        · rw [h3, h4, if_pos ⟨fun e => hab e.symm, by rw [← hsy]; exact h1⟩]
          unfold putV
          rw [if_pos rfl]
          rfl
    · have hp' := hp
      simp only [isP, decide_eq_true_eq] at hp'
      rw [List.find?_singleton, if_neg hp, Option.or_none]
      split
      · unfold putV
        generalize x.1.toNat % n = A at *
        generalize x.2.1.toNat % n = B at *
        rw [if_neg (by omega), if_neg (by omega)]
        exact ihU
      · exact ihU
/-- One link less: no new pair. -/
theorem fewer_pos {n : Nat} (h0 : 0 < n) (hn : n ≤ 16) (L : List Ed) (i : Nat) {a b : Nat} (ha : a < n) (hb : b < n) (hab : a ≠ b) (h : 0 < tabT n (L.take i ++ L.drop (i + 1)) (16 * a + b)) : 0 < tabT n L (16 * a + b) := by
  rw [tab_at h0 hn ha hb hab _ _ rfl] at h ⊢
  cases hf : (L.take i ++ L.drop (i + 1)).find? (isP n a b) with
  | none => rw [hf] at h; exact absurd h (by show ¬ (0 : Int) < 0; omega)
  | some y =>
    have h1 := List.mem_of_find?_eq_some hf
    have h2 := List.find?_some hf
    have h3 : y ∈ L := by
      rcases List.mem_append.1 h1 with h4 | h4
      · exact List.mem_of_mem_take h4
      · exact List.mem_of_mem_drop h4
    cases hg : L.find? (isP n a b) with
    | none => exact absurd h2 (by have := List.find?_eq_none.1 hg y h3; exact this)
    | some z => have := costF1_some z; omega
/-- Where there is no other link of the pair, what stays costs as it did. -/
theorem fewer_same {n : Nat} (h0 : 0 < n) (hn : n ≤ 16) (L : List Ed) (i : Nat) {x : Ed} (hx : L[i]? = some x) (hno : ∀ j y, L[j]? = some y → j ≠ i → ∀ a b, isP n a b x = true → isP n a b y = false) {a b : Nat} (ha : a < n) (hb : b < n) (hab : a ≠ b) (h : 0 < tabT n (L.take i ++ L.drop (i + 1)) (16 * a + b)) : tabT n L (16 * a + b) = tabT n (L.take i ++ L.drop (i + 1)) (16 * a + b) := by
  rw [tab_at h0 hn ha hb hab _ _ rfl] at h ⊢
  rw [tab_at h0 hn ha hb hab _ _ rfl]
  have hi : i < L.length := (List.getElem?_eq_some_iff.1 hx).1
  have hL : L = L.take i ++ x :: L.drop (i + 1) := by
    have h1 : L.drop i = x :: L.drop (i + 1) := by
      rw [List.drop_eq_getElem_cons hi]
      rw [List.getElem?_eq_getElem hi] at hx
      simp only [Option.some.injEq] at hx
      rw [hx]
    rw [← h1, List.take_append_drop]
  by_cases hp : isP n a b x = true
  · exfalso
    cases hf : (L.take i ++ L.drop (i + 1)).find? (isP n a b) with
    | none => rw [hf] at h; exact absurd h (by show ¬ (0 : Int) < 0; omega)
    | some y =>
      have h1 := List.mem_of_find?_eq_some hf
      have h2 := List.find?_some hf
      rcases List.mem_append.1 h1 with h4 | h4
      · obtain ⟨j, hj, he⟩ := List.getElem_of_mem h4
        rw [List.length_take] at hj
        rw [List.getElem_take] at he
        have := hno j y (by rw [List.getElem?_eq_getElem (by omega), he]) (by omega) a b hp
        rw [this] at h2
        simp at h2
      · obtain ⟨j, hj, he⟩ := List.getElem_of_mem h4
        rw [List.length_drop] at hj
        rw [List.getElem_drop] at he
        have := hno (i + 1 + j) y (by rw [List.getElem?_eq_getElem (by omega), he]) (by omega) a b hp
        rw [this] at h2
        simp at h2
  · have h1 : L.find? (isP n a b) = (L.take i ++ L.drop (i + 1)).find? (isP n a b) := by
      rw [List.find?_append]
      have h2 : L.find? (isP n a b) = (L.take i ++ x :: L.drop (i + 1)).find? (isP n a b) := by rw [← hL]
      rw [h2, List.find?_append, List.find?_cons_of_neg hp]
    rw [h1]
end Go.Proofs.Ytfbojelflplflaa
namespace Go.Proofs.Ytfbojelflplflaa

def BothW (es : List Ed) : Prop := ∀ e ∈ es, (e.2.1, e.1, e.2.2) ∈ es
theorem Wy.turn {es : List Ed} (hs : BothW es) {a x c : Int} {h : Nat} (k : Wy es a x c h) : Wy es x a c h :=
  k (fun x c h => Wy es x a c h) (Wy.refl _ _) (fun e he c h hw => by
    have h1 : Wy es e.2.1 e.1 e.2.2 1 := Wy.one (hs e he)
    have h2 := h1.trans hw
    rwa [Int.add_comm, Nat.add_comm] at h2)
theorem Ds.turn {es : List Ed} (hs : BothW es) {a x d : Int} (h : Ds es a x d) : Ds es x a d := by
  obtain ⟨⟨k, hw⟩, h1⟩ := h
  exact ⟨⟨k, hw.turn hs⟩, fun c' h' hw' => h1 _ _ (hw'.turn hs)⟩
theorem Right.turn {es : List Ed} (hs : BothW es) {a b d d' : Int} {A B : Rr} (h1 : Ds es a b d) (h2 : Ds es b a d') (hA : Right es a b d A) (hB : Right es b a d' B) : A.cost = B.cost ∧ A.least = B.least ∧ A.most = B.most := by
  have hd := (h1.turn hs).uniq h2
  subst hd
  have l1 := (hA.hops _ (hB.lw.turn hs)).1
  have l2 := (hB.hops _ (hA.lw.turn hs)).1
  have m1 := (hA.hops _ (hB.mw.turn hs)).2
  have m2 := (hB.hops _ (hA.mw.turn hs)).2
  have := hA.l0
  have := hB.l0
  have := hA.m0
  have := hB.m0
  exact ⟨by rw [hA.cost, hB.cost], by omega, by omega⟩
theorem Wy.mono {es fs : List Ed} (hs : ∀ e ∈ fs, e ∈ es) {a x c : Int} {h : Nat} (k : Wy fs a x c h) : Wy es a x c h :=
  k (fun x c h => Wy es a x c h) (Wy.refl _ _) (fun e he _ _ hw => hw.step (hs e he))
/-- Among ways there is a cheapest one. -/
theorem ds_of {es : List Ed} (hp : PosE es) {r x c : Int} {h : Nat} (k : Wy es r x c h) : ∃ d, Ds es r x d ∧ d ≤ c := by
  have key : ∀ (n : Nat) (c : Int) (h : Nat), c.toNat = n → Wy es r x c h → ∃ d, Ds es r x d ∧ d ≤ c := by
    intro n
    induction n using Nat.strongRecOn with
    | _ n ih =>
    intro c h hc hw
    by_cases hm : ∀ c' h', Wy es r x c' h' → c ≤ c'
    · exact ⟨c, ⟨⟨h, hw⟩, hm⟩, Int.le_refl _⟩
    · have : ∃ c' h', Wy es r x c' h' ∧ c' < c := Classical.byContradiction fun hno => hm fun c' h' hw' => by
        by_cases hlt : c' < c
        · exact absurd ⟨c', h', hw', hlt⟩ hno
        · omega
      obtain ⟨c', h', hw', hlt⟩ := this
      have h1 := (hw'.pos hp).1
      obtain ⟨d, hd, hle⟩ := ih c'.toNat (by omega) c' h' rfl hw'
      exact ⟨d, hd, by omega⟩
  exact key _ c h rfl k
/-- Edges of the same pairs: who is come to stays so. -/
theorem wy_pairs {es fs : List Ed} (hs : ∀ e ∈ fs, ∃ c, (e.1, e.2.1, c) ∈ es) {a x c : Int} {h : Nat} (k : Wy fs a x c h) : ∃ c', Wy es a x c' h :=
  k (fun x _ h => ∃ c', Wy es a x c' h) ⟨0, Wy.refl _ _⟩ (fun e he _ _ ⟨c', hw⟩ => by
    obtain ⟨c2, h2⟩ := hs e he
    exact ⟨_, hw.step (e := (e.1, e.2.1, c2)) h2⟩)
end Go.Proofs.Ytfbojelflplflaa
