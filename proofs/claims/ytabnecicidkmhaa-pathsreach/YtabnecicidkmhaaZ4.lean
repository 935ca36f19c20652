/- The document's SameInts of layer 7 (by program out of GD). The document's From and Of; what is told of nodes compared; graphs compared. The document's Of; what is told of nodes compared; graphs compared. First, in ways: the way that it tells is one of least cost, and ahead of all others. The first of the least-cost ways, step by step. The document's Cost. The document's First. The law's cut of a graph. -/
import Derived.Test.YtabnecicidkmhaaGD
import Derived.Test.YtabnecicidkmhaaZ3
import Derived.Test.YtabnecicidkmhaaZ2
import Derived.Test.YtabnecicidkmhaaV10
import Derived.Test.YtabnecicidkmhaaZ1
import Derived.Test.YtabnecicidkmhaaGF
namespace Go.Proofs.Ytabnecicidkmhaa
open Go.RowKit

set_option maxRecDepth 100000 in
set_option maxHeartbeats 1000000 in
theorem sameI7 {a b : List (Int)} {va vb : Value} {w : World} (ha : SlAt ic 1 w va a) (hb : SlAt ic 1 w vb b) :
    Calls Try.prog 20 #[va, vb] w fun e w' => e = .returned (.bool (decide (a = b))) ∧ Below w.heap.size w w' := by
  obtain ⟨aa, ca, rfl, hla, _, hca⟩ := ha.ints
  obtain ⟨ab, cb, rfl, hlb, _, hcb⟩ := hb.ints
  have Ha := hidIn hca
  have Hb := hidIn hcb
  clear hca hcb ha hb
  by_cases hlen : a.length = b.length
  · obtain ⟨m, hm⟩ : ∃ m, b.length = m := ⟨_, rfl⟩
    have hlen2 : a.length = m := by rw [hlen, hm]
    rw [hm] at hlb Hb ⊢
    rw [hlen2] at hla Ha ⊢
    have Hm := hidIn hm
    have HL := hidIn hlen2
    clear hm hlen2 hlen
    go_enter Try.func20, Try.ntmps20
    go_wp2
    go_loopw [5] (fun i wr => ∃ k : Nat, k ≤ m ∧ i = .int .i64 k ∧ Hid (Below w.heap.size w wr ∧ decide (a = b) = decide (a.drop k = b.drop k))) (fun i _ => m - (intOf i).toNat)
    case atStart => exact ⟨0, Nat.zero_le _, rfl, hidIn ⟨Below.refl _ _, by rw [List.drop_zero, List.drop_zero]⟩⟩
    case round =>
      obtain ⟨k, hk, rfl, HR⟩ := hrel
      obtain ⟨hbel, hrest⟩ := HR.out
      have HB := hidIn hbel
      have HE := hidIn hrest
      clear HR hbel hrest
      by_cases hlt : k < m
      · obtain ⟨b1, o1, rfl, hb1, c1⟩ := Ha.out (by omega)
        obtain ⟨b2, o2, rfl, hb2, c2⟩ := Hb.out (by omega)
        obtain ⟨x, hx⟩ : ∃ x, a[k]? = some x := ⟨a[k]'(by have := HL.out; omega), List.getElem?_eq_getElem _⟩
        obtain ⟨y, hy⟩ : ∃ y, b[k]? = some y := ⟨b[k]'(by have := Hm.out; omega), List.getElem?_eq_getElem _⟩
        have HN : Hid (decide (a = b) = (decide (x = y) && decide (a.drop (k + 1) = b.drop (k + 1)))) := hidIn (by rw [HE.out, dropEq hx hy])
        have x0 := (HB.out.cell (p := ⟨b1, o1 + k, none⟩) hb1).trans (c1 k x hx)
        have y0 := (HB.out.cell (p := ⟨b2, o2 + k, none⟩) hb2).trans (c2 k y hy)
        have hki : (k : Int) < (m : Int) := by omega
        clear c1 c2 hx hy
        by_cases hxy : x = y
        · have hq : (x == y) = true := by simpa using hxy
          have Hxy := hidIn hxy
          clear hxy
          go_wp2_with fail
          go_quiet (fail)
          go_wp2_with fail
          go_roundw
          case rel => exact ⟨k + 1, by omega, by go_num, hidIn ⟨below_drewN HB.out _, by rw [HN.out]; simp [Hxy.out]⟩⟩
          case measure => simp [intOf]; omega
        · have hq : (x == y) = false := by simpa using hxy
          have Hxy := hidIn hxy
          clear hxy
          go_wp2_with fail
          go_quiet (fail)
          go_wp2_with fail
          go_returns
          exact ⟨by rw [HN.out]; simp [Hxy.out], below_drewN HB.out _⟩
      · have hki : ¬ ((k : Int) < (m : Int)) := by omega
        have HT : Hid (decide (a = b) = true) := hidIn (by rw [HE.out, List.drop_eq_nil_of_le (by have := HL.out; omega), List.drop_eq_nil_of_le (by have := Hm.out; omega)]; rfl)
        go_wp2_with fail
        go_returns
        exact ⟨by rw [HT.out]; rfl, HB.out⟩
  · have hne : ((a.length : Int) == (b.length : Int)) = false := by
      apply Bool.eq_false_iff.2
      intro h
      simp at h
      exact hlen (by omega)
    have HT : Hid (decide (a = b) = false) := hidIn (by simp; intro h; exact hlen (by rw [h]))
    clear hlen
    generalize a.length = m at *
    generalize b.length = m2 at *
    go_enter Try.func20, Try.ntmps20
    go_wp2
    go_ret
    exact ⟨by rw [HT.out]; rfl, Below.refl _ _⟩
end Go.Proofs.Ytabnecicidkmhaa
namespace Go.Proofs.Ytabnecicidkmhaa
open Go.RowKit

theorem RchAns.low {w w1 w' : World} {ns : List Int} {es : List Ed} {r : Int} {u : Value} (h : RchAns w1 w' ns es r u) (hl : w.heap.size ≤ w1.heap.size) : RchAns w w' ns es r u := by
  obtain ⟨l, h1, h2, h3⟩ := h
  exact ⟨l, row_low h1 hl, fun p hp => ⟨(h2 p hp).1.mono hl, (h2 p hp).2⟩, h3⟩
set_option maxRecDepth 100000 in
set_option maxHeartbeats 4000000 in
theorem dfrom_any {ns : List Int} {es : List Ed} {vn ve : Value} {w : World} (h : GrAt w vn ve ns es) (r : Int) :
    Calls Try.prog 7 #[grV vn ve, .int .i64 r] w fun e w' => ((ndAll ns es [r] = false ∧ e = .returned (.tuple #[.slice none 0 0, .int .i64 2])) ∨ (ndAll ns es [r] = true ∧ ∃ u, e = .returned (.tuple #[u, .int .i64 0]) ∧ RchAns w w' ns es r u)) ∧ Below w.heap.size w w' := by
  have hgr := h
  obtain ⟨na, nca, rfl, hnl, _, _⟩ := h.n.ints
  obtain ⟨ea, eca, rfl, hel, _, _⟩ := h.e.eds
  obtain ⟨W1, hW1⟩ : ∃ W1, w.alloc (.cells #[.slice na ns.length nca, .slice ea es.length eca] 25) = W1 := ⟨_, rfl⟩
  have bA : Below w.heap.size w W1 := by rw [← hW1]; exact (Below.refl _ w).alloc (Nat.le_refl _) _
  have hGB : W1.heap[w.heap.size]? = some (.cells #[.slice na ns.length nca, .slice ea es.length eca] 25) := by rw [← hW1]; exact heap_alloc_last w _
  obtain ⟨q, hqe⟩ : ∃ q, w.heap.size = q := ⟨_, rfl⟩
  rw [hqe] at hGB
  have hlt0 := block_lt hGB
  have HF : Hid (∀ wq, Below W1.heap.size W1 wq → (wq.cell? ⟨q, 0, none⟩ = some (.slice na ns.length nca) ∧ wq.cell? ⟨q, 1, none⟩ = some (.slice ea es.length eca)) ∧ Below w.heap.size w wq) := hidIn fun wq h => by
    have j0 := (h.block _ hlt0).trans hGB
    exact ⟨⟨cell_of_row _ _ 0 _ _ _ j0, cell_of_row _ _ 1 _ _ _ j0⟩, bA.trans (h.mono bA.size)⟩
  have HCk := hidIn (gcheck_any (hgr.keep bA (Nat.le_refl _)))
  have HP : Hid (∀ z wq, Below w.heap.size w wq → Calls Try.prog 26 #[grV (.slice na ns.length nca) (.slice ea es.length eca), .int .i64 z] wq fun e w' => e = .returned (.int .i64 (plI ns z)) ∧ Below wq.heap.size wq w') := hidIn fun z wq hq => place_any (hgr.keep hq (Nat.le_refl _)) z
  have HRe : Hid (graphOk ns es = true → r ∈ ns → ∀ wq, Below w.heap.size w wq → Calls Try.prog 27 #[grV (.slice na ns.length nca) (.slice ea es.length eca), .int .i64 r] wq fun e w' => (∃ u, e = .returned u ∧ RchAns wq w' ns es r u) ∧ Below wq.heap.size wq w') := hidIn fun hok hr wq hq => reaches_any (hgr.keep hq (Nat.le_refl _)) hok hr
  obtain ⟨ln, hln⟩ : ∃ ln, ns.length = ln := ⟨_, rfl⟩
  obtain ⟨le, hle⟩ : ∃ le, es.length = le := ⟨_, rfl⟩
  rw [hln] at hnl HF HCk HP HRe hW1 ⊢
  rw [hle] at hel HF HCk HP HRe hW1 ⊢
  have HW := hidIn hW1
  clear hW1 bA hGB hlt0 hgr h hln hle
  obtain ⟨⟨f0, f1⟩, _⟩ := HF.out W1 (Below.refl _ _)
  go_enter Try.func7, Try.ntmps7
  go_upto_region 1 with fail
  rw [HW.out]
  clear HW hqe
  go_wp2_with fail
  refine HCk.out.mono ?_
  rintro e w2 ⟨rfl, hb2⟩
  have HB2 := hidIn hb2
  obtain ⟨⟨k0, k1⟩, hB2⟩ := HF.out w2 hb2
  have HB2w := hidIn hB2
  clear hb2 HCk f0 f1 hB2
  cases hok : graphOk ns es with
  | false =>
    have HE : Hid (ndAll ns es [r] = false) := hidIn (by unfold ndAll; rw [hok]; rfl)
    rw [ckC_no hok]
    clear hok
    go_wp2_with fail
    go_ret2
    exact ⟨.inl ⟨HE.out, rfl⟩, HB2w.out⟩
  | true =>
    rw [ckC_yes hok]
    have Hok := hidIn hok
    clear hok
    go_wp2_with fail
    refine (HP.out r w2 HB2w.out).mono ?_
    rintro e w3 ⟨rfl, hb3⟩
    have HB3 := hidIn (HB2.out.trans (hb3.mono HB2.out.size))
    obtain ⟨⟨f0, f1⟩, hB3⟩ := HF.out w3 HB3.out
    have HB3w := hidIn hB3
    clear hb3 hB3 k0 k1
    rcases Classical.em (r ∈ ns) with han | han
    rotate_left
    · have hng : plI ns r < 0 := plI_neg.2 han
      have HE : Hid (ndAll ns es [r] = false) := hidIn (by
        unfold ndAll
        rw [Hok.out, Bool.true_and, List.all_eq_false]
        exact ⟨r, by simp, fun e => han (hasN_iff.1 e)⟩)
      generalize plI ns r = pz at hng ⊢
      clear han
      go_wp2_with fail
      go_ret2
      exact ⟨.inl ⟨HE.out, rfl⟩, HB3w.out⟩
    obtain ⟨pa, hpa⟩ : ∃ pa, ns[pa]? = some r := List.getElem?_of_mem han
    have hia := plI_some (plN_nodup (graphOk_nn Hok.out) hpa)
    rw [hia]
    have hpn : ¬ (pa : Int) < 0 := by omega
    have HE : Hid (ndAll ns es [r] = true) := hidIn (by
      unfold ndAll
      rw [Hok.out, Bool.true_and]
      simp only [List.all_cons, List.all_nil, Bool.and_true]
      exact hasN_iff.2 han)
    have HR := hidIn (HRe.out Hok.out han w3 HB3w.out)
    clear hia han hpa
    go_wp2_with fail
    refine HR.out.mono ?_
    rintro e w4 ⟨⟨u, rfl, hA⟩, hb4⟩
    have HA := hidIn (hA.low HB3w.out.size)
    have HB4 := hidIn (HB3w.out.trans (hb4.mono HB3w.out.size))
    clear hA hb4
    go_wp2_with fail
    go_ret2
    exact ⟨.inr ⟨HE.out, _, rfl, HA.out⟩, HB4.out⟩
end Go.Proofs.Ytabnecicidkmhaa
namespace Go.Proofs.Ytabnecicidkmhaa
open Go.RowKit

/-- What the document's Of answers. -/
def DofAns (l : List (Rr × Value)) (t : Int) (e : Ending) : Prop :=
  (∃ k x, l[k]? = some x ∧ x.1.node = t ∧ (∀ y ∈ l.take k, y.1.node ≠ t) ∧ e = .returned (.tuple #[rchV x.1 x.2, .bool true])) ∨ ((∀ y ∈ l, y.1.node ≠ t) ∧ e = .returned (.tuple #[rchV noR (.slice none 0 0), .bool false]))
set_option maxRecDepth 100000 in
set_option maxHeartbeats 4000000 in
theorem dof_any {l : List (Rr × Value)} {v : Value} {w : World} (h : SlAt rwc 5 w v l) (hs : ∀ p ∈ l, ∃ a n c, p.2 = .slice a n c) (t : Int) : Calls Try.prog 11 #[v, .int .i64 t] w fun e w' => DofAns l t e ∧ Below w.heap.size w w' := by
  obtain ⟨aa, ca, rfl, hla, _, hca⟩ := h.rchs
  have Hca := hidIn hca
  have Hs := hidIn hs
  obtain ⟨ln, hln⟩ : ∃ ln, l.length = ln := ⟨_, rfl⟩
  have Hln := hidIn hln
  rw [hln] at hla ⊢
  obtain ⟨W1, hW1⟩ : ∃ W1, w.alloc (.cells #[.int .i64 0, .int .i64 0, .int .i64 0, .int .i64 0, .slice none 0 0] 34) = W1 := ⟨_, rfl⟩
  have bA : Below w.heap.size w W1 := by rw [← hW1]; exact (Below.refl _ w).alloc (Nat.le_refl _) _
  have hz : W1.heap[w.heap.size]? = some (.cells #[.int .i64 0, .int .i64 0, .int .i64 0, .int .i64 0, .slice none 0 0] 34) := by rw [← hW1]; exact heap_alloc_last w _
  obtain ⟨q, hqe⟩ : ∃ q, w.heap.size = q := ⟨_, rfl⟩
  rw [hqe] at hz
  have HB := hidIn bA
  have HW := hidIn hW1
  have Hqe := hidIn hqe
  have z0 := cell_of_row _ _ 0 _ _ _ hz
  have z1 := cell_of_row _ _ 1 _ _ _ hz
  have z2 := cell_of_row _ _ 2 _ _ _ hz
  have z3 := cell_of_row _ _ 3 _ _ _ hz
  have z4 := cell_of_row _ _ 4 _ _ _ hz
  simp at z0 z1 z2 z3 z4
  have y0 := frozen_new hz 0
  have y1 := frozen_new hz 1
  have y2 := frozen_new hz 2
  have y3 := frozen_new hz 3
  have y4 := frozen_new hz 4
  have HSet : Hid (∀ a b c d e : Value, (((((W1.setCell ⟨q, 0, none⟩ a).setCell ⟨q, 1, none⟩ b).setCell ⟨q, 2, none⟩ c).setCell ⟨q, 3, none⟩ d).setCell ⟨q, 4, none⟩ e).heap[q]? = some (.cells #[a, b, c, d, e] 34) ∧ Below w.heap.size w (((((W1.setCell ⟨q, 0, none⟩ a).setCell ⟨q, 1, none⟩ b).setCell ⟨q, 2, none⟩ c).setCell ⟨q, 3, none⟩ d).setCell ⟨q, 4, none⟩ e)) := hidIn fun a b c d e => ⟨set5 _ _ _ _ _ hz, below5 _ _ _ _ _ bA (by omega)⟩
  clear hW1 bA hz h hca hs hln
  go_enter Try.func11, Try.ntmps11
  go_upto_region 1 with fail
  rw [HW.out]
  clear HW hqe
  go_wp2_with fail
  go_loop [6] (fun i => ∃ k : Nat, k ≤ ln ∧ i = .int .i64 k ∧ Hid (∀ y ∈ l.take k, y.1.node ≠ t)) (fun i => ln - (intOf i).toNat)
  case atStart => exact ⟨0, Nat.zero_le _, rfl, hidIn (by simp)⟩
  case round =>
    obtain ⟨k, hk, rfl, HN⟩ := hrel
    by_cases hlt : k < ln
    · have hki : (k : Int) < (ln : Int) := by omega
      obtain ⟨bk, o, rfl, hbk, hcell⟩ := Hca.out (by have := Hln.out; omega)
      obtain ⟨⟨x, u⟩, hx⟩ : ∃ x, l[k]? = some x := ⟨l[k]'(by have := Hln.out; omega), List.getElem?_eq_getElem _⟩
      obtain ⟨t0, t1, t2, t3, t4⟩ := hcell k _ hx
      obtain ⟨ua, un, uc, hu⟩ := Hs.out _ (List.mem_of_getElem? hx)
      simp only at t0 t1 t2 t3 t4 hu
      subst hu
      have c0 := (HB.out.cell (p := ⟨bk, o + k * 5, none⟩) hbk).trans t0
      have c1 := (HB.out.cell (p := ⟨bk, o + k * 5 + 1, none⟩) hbk).trans t1
      have c2 := (HB.out.cell (p := ⟨bk, o + k * 5 + 2, none⟩) hbk).trans t2
      have c3 := (HB.out.cell (p := ⟨bk, o + k * 5 + 3, none⟩) hbk).trans t3
      have c4 := (HB.out.cell (p := ⟨bk, o + k * 5 + 4, none⟩) hbk).trans t4
      by_cases hxt : x.node = t
      · have hq : (x.node == t) = true := by simpa using hxt
        have HA : Hid (DofAns l t (.returned (.tuple #[rchV x (.slice ua un uc), .bool true]))) := hidIn (.inl ⟨k, _, hx, hxt, HN.out, rfl⟩)
        have HS := hidIn (HSet.out (.int .i64 x.node) (.int .i64 x.cost) (.int .i64 x.least) (.int .i64 x.most) (.slice ua un uc))
        clear hcell hx hxt t0 t1 t2 t3 t4 HN hbk
        go_wp2_with fail
        obtain ⟨hE1, hE2⟩ := HS.out
        generalize (((((World.setCell _ _ _).setCell _ _).setCell _ _).setCell _ _).setCell _ _) = W9 at hE1 hE2 ⊢
        have e0 := cell_of_row _ _ 0 _ _ _ hE1
        have e1 := cell_of_row _ _ 1 _ _ _ hE1
        have e2 := cell_of_row _ _ 2 _ _ _ hE1
        have e3 := cell_of_row _ _ 3 _ _ _ hE1
        have e4 := cell_of_row _ _ 4 _ _ _ hE1
        simp at e0 e1 e2 e3 e4
        refine bodyPost_ret (v := .tuple #[rchV x (.slice ua un uc), .bool true]) (by simp [results, Try.results11, asAddr, Result.andThen, go_sem, e0, e1, e2, e3, e4]) rfl ⟨HA.out, hE2⟩
      · have hq : (x.node == t) = false := by simpa using hxt
        have HE : Hid (∀ y ∈ l.take (k + 1), y.1.node ≠ t) := hidIn fun y hy => by
          rw [take_snoc hx, List.mem_append, List.mem_singleton] at hy
          rcases hy with hy | rfl
          · exact HN.out y hy
          · exact hxt
        clear hcell hx hxt t0 t1 t2 t3 t4 HN hbk
        go_wp2_with fail
        go_round
        case rel => exact ⟨k + 1, by omega, by go_num, HE⟩
        case measure => simp [intOf]; omega
    · have hki : ¬ ((k : Int) < (ln : Int)) := by omega
      have HA : Hid (DofAns l t (.returned (.tuple #[rchV noR (.slice none 0 0), .bool false]))) := hidIn (.inr ⟨fun y hy => HN.out y (by rw [List.take_of_length_le (by have := Hln.out; omega)]; exact hy), rfl⟩)
      have HS := hidIn (HSet.out (.int .i64 0) (.int .i64 0) (.int .i64 0) (.int .i64 0) (.slice none 0 0))
      have zr := zeroRch W1
      go_wp2_with fail
      obtain ⟨hE1, hE2⟩ := HS.out
      generalize (((((World.setCell _ _ _).setCell _ _).setCell _ _).setCell _ _).setCell _ _) = W9 at hE1 hE2 ⊢
      have e0 := cell_of_row _ _ 0 _ _ _ hE1
      have e1 := cell_of_row _ _ 1 _ _ _ hE1
      have e2 := cell_of_row _ _ 2 _ _ _ hE1
      have e3 := cell_of_row _ _ 3 _ _ _ hE1
      have e4 := cell_of_row _ _ 4 _ _ _ hE1
      simp at e0 e1 e2 e3 e4
      refine bodyPost_ret (v := .tuple #[rchV noR (.slice none 0 0), .bool false]) (by simp [results, Try.results11, asAddr, Result.andThen, go_sem, e0, e1, e2, e3, e4, noR]) rfl ⟨HA.out, hE2⟩
set_option maxRecDepth 100000 in
set_option maxHeartbeats 4000000 in
theorem sameR_yes {x : Rr} {v u : Value} {w : World} (hv : SlAt ic 1 w v x.next) (hu : SlAt ic 1 w u x.next) : Calls Try.prog 12 #[rchV x v, rchV x u] w fun e w' => e = .returned (.bool true) ∧ Below w.heap.size w w' := by
  obtain ⟨va, vc, rfl, _⟩ := hv.ints
  obtain ⟨ua, uc, rfl, _⟩ := hu.ints
  obtain ⟨W1, hW1⟩ : ∃ W1, (w.alloc (.cells #[.int .i64 x.node, .int .i64 x.cost, .int .i64 x.least, .int .i64 x.most, .slice va x.next.length vc] 34)).alloc (.cells #[.int .i64 x.node, .int .i64 x.cost, .int .i64 x.least, .int .i64 x.most, .slice ua x.next.length uc] 34) = W1 := ⟨_, rfl⟩
  have bA : Below w.heap.size w W1 := by rw [← hW1]; exact ((Below.refl _ w).alloc (Nat.le_refl _) _).alloc (by simp) _
  have hA : W1.heap[w.heap.size]? = some (.cells #[.int .i64 x.node, .int .i64 x.cost, .int .i64 x.least, .int .i64 x.most, .slice va x.next.length vc] 34) := by rw [← hW1, Below.heap_alloc _ _ _ (by simp)]; exact heap_alloc_last w _
  have hB : W1.heap[w.heap.size + 1]? = some (.cells #[.int .i64 x.node, .int .i64 x.cost, .int .i64 x.least, .int .i64 x.most, .slice ua x.next.length uc] 34) := by
    rw [← hW1]
    have := heap_alloc_last (w.alloc (.cells #[.int .i64 x.node, .int .i64 x.cost, .int .i64 x.least, .int .i64 x.most, .slice va x.next.length vc] 34)) (.cells #[.int .i64 x.node, .int .i64 x.cost, .int .i64 x.least, .int .i64 x.most, .slice ua x.next.length uc] 34)
    rwa [World.size_alloc] at this
  have HI := hidIn (sameI7 (hv.keep bA (Nat.le_refl _)) (hu.keep bA (Nat.le_refl _)))
  rw [decide_eq_true (rfl : x.next = x.next)] at HI
  obtain ⟨q, hqe⟩ : ∃ q, w.heap.size = q := ⟨_, rfl⟩
  rw [hqe] at hA hB
  have a0 := cell_of_row _ _ 0 _ _ _ hA
  have a1 := cell_of_row _ _ 1 _ _ _ hA
  have a2 := cell_of_row _ _ 2 _ _ _ hA
  have a3 := cell_of_row _ _ 3 _ _ _ hA
  have a4 := cell_of_row _ _ 4 _ _ _ hA
  have b0 := cell_of_row _ _ 0 _ _ _ hB
  have b1 := cell_of_row _ _ 1 _ _ _ hB
  have b2 := cell_of_row _ _ 2 _ _ _ hB
  have b3 := cell_of_row _ _ 3 _ _ _ hB
  have b4 := cell_of_row _ _ 4 _ _ _ hB
  simp at a0 a1 a2 a3 a4 b0 b1 b2 b3 b4
  have HW := hidIn hW1
  have HBA := hidIn bA
  generalize x.next.length = xl at *
  clear hW1 bA hA hB hv hu
  go_enter Try.func12, Try.ntmps12
  go_upto_region 1 with fail
  rw [HW.out]
  clear HW hqe
  go_wp2_with fail
  refine HI.out.mono ?_
  rintro e w2 ⟨rfl, hb2⟩
  have HB2 := hidIn (HBA.out.trans (hb2.mono HBA.out.size))
  clear hb2
  go_wp2_with fail
  go_ret
  exact ⟨rfl, HB2.out⟩
set_option maxRecDepth 100000 in
set_option maxHeartbeats 4000000 in
theorem sameRs_yes {la lb : List (Rr × Value)} {va vb : Value} {w : World} (ha : SlAt rwc 5 w va la) (hb : SlAt rwc 5 w vb lb) (na : ∀ p ∈ la, SlAt ic 1 w p.2 p.1.next) (nb : ∀ p ∈ lb, SlAt ic 1 w p.2 p.1.next) (he : la.map (·.1) = lb.map (·.1)) : Calls Try.prog 8 #[va, vb] w fun e w' => e = .returned (.bool true) ∧ Below w.heap.size w w' := by
  have hlen : lb.length = la.length := by have := congrArg List.length he; simpa using this.symm
  obtain ⟨aa, ca, rfl, hla, _, hca⟩ := ha.rchs
  obtain ⟨ab, cb, rfl, hlb, _, hcb⟩ := hb.rchs
  have Hca := hidIn hca
  have Hcb := hidIn hcb
  have Hna := hidIn na
  have Hnb := hidIn nb
  have Hlen := hidIn hlen
  have Heq : Hid (∀ (k : Nat) (x : Rr) (u : Value) (y : Rr) (v : Value), la[k]? = some (x, u) → lb[k]? = some (y, v) → x = y) := hidIn fun k x u y v h1 h2 => by
    have h3 : (la.map (·.1))[k]? = some x := by rw [List.getElem?_map, h1]; rfl
    have h4 : (lb.map (·.1))[k]? = some y := by rw [List.getElem?_map, h2]; rfl
    rw [he, h4] at h3
    exact (Option.some.inj h3).symm
  rw [hlen]
  obtain ⟨ln, hln⟩ : ∃ ln, la.length = ln := ⟨_, rfl⟩
  have Hln := hidIn hln
  rw [hln] at hla ⊢
  clear ha hb na nb he hlen hca hcb hlb hln
  go_enter Try.func8, Try.ntmps8
  go_wp2_with fail
  go_loopw [5] (fun i wr => ∃ k : Nat, k ≤ ln ∧ i = .int .i64 k ∧ Hid (Below w.heap.size w wr)) (fun i _ => ln - (intOf i).toNat)
  case atStart => exact ⟨0, Nat.zero_le _, rfl, hidIn (Below.refl _ _)⟩
  case round =>
    obtain ⟨k, hk, rfl, HB⟩ := hrel
    by_cases hlt : k < ln
    · have hki : (k : Int) < (ln : Int) := by omega
      obtain ⟨b1, o1, rfl, hb1, hc1⟩ := Hca.out (by have := Hln.out; omega)
      obtain ⟨b2, o2, rfl, hb2, hc2⟩ := Hcb.out (by have := Hln.out; have := Hlen.out; omega)
      obtain ⟨⟨x, u⟩, hx⟩ : ∃ x, la[k]? = some x := ⟨la[k]'(by have := Hln.out; omega), List.getElem?_eq_getElem _⟩
      obtain ⟨⟨y, v⟩, hy⟩ : ∃ y, lb[k]? = some y := ⟨lb[k]'(by have := Hln.out; have := Hlen.out; omega), List.getElem?_eq_getElem _⟩
      obtain rfl := Heq.out k x u y v hx hy
      obtain ⟨p0, p1, p2, p3, p4⟩ := hc1 k _ hx
      obtain ⟨q0, q1, q2, q3, q4⟩ := hc2 k _ hy
      have su := Hna.out _ (List.mem_of_getElem? hx)
      have sv := Hnb.out _ (List.mem_of_getElem? hy)
      simp only at p0 p1 p2 p3 p4 q0 q1 q2 q3 q4 su sv
      have c0 := (HB.out.cell (p := ⟨b1, o1 + k * 5, none⟩) hb1).trans p0
      have c1 := (HB.out.cell (p := ⟨b1, o1 + k * 5 + 1, none⟩) hb1).trans p1
      have c2 := (HB.out.cell (p := ⟨b1, o1 + k * 5 + 2, none⟩) hb1).trans p2
      have c3 := (HB.out.cell (p := ⟨b1, o1 + k * 5 + 3, none⟩) hb1).trans p3
      have c4 := (HB.out.cell (p := ⟨b1, o1 + k * 5 + 4, none⟩) hb1).trans p4
      have d0 := (HB.out.cell (p := ⟨b2, o2 + k * 5, none⟩) hb2).trans q0
      have d1 := (HB.out.cell (p := ⟨b2, o2 + k * 5 + 1, none⟩) hb2).trans q1
      have d2 := (HB.out.cell (p := ⟨b2, o2 + k * 5 + 2, none⟩) hb2).trans q2
      have d3 := (HB.out.cell (p := ⟨b2, o2 + k * 5 + 3, none⟩) hb2).trans q3
      have d4 := (HB.out.cell (p := ⟨b2, o2 + k * 5 + 4, none⟩) hb2).trans q4
      have HS : Hid (∀ dd os, Calls Try.prog 12 #[rchV x u, rchV x v] (Go.Sort.grow (redrawn wr dd) os) fun e w' => e = .returned (.bool true) ∧ Below (Go.Sort.grow (redrawn wr dd) os).heap.size (Go.Sort.grow (redrawn wr dd) os) w') := hidIn fun dd os => by
        have hb := below_regrown wr dd os
        have hbw := HB.out.trans (hb.mono HB.out.size)
        exact sameR_yes (su.keep hbw (Nat.le_refl _)) (sv.keep hbw (Nat.le_refl _))
      have g0 := cell_regrown c0
      have g1 := cell_regrown c1
      have g2 := cell_regrown c2
      have g3 := cell_regrown c3
      have g4 := cell_regrown c4
      have g5 := cell_regrown d0
      have g6 := cell_regrown d1
      have g7 := cell_regrown d2
      have g8 := cell_regrown d3
      have g9 := cell_regrown d4
      clear hc1 hc2 hx hy p0 p1 p2 p3 p4 q0 q1 q2 q3 q4 su sv c0 c1 c2 c3 c4 d0 d1 d2 d3 d4 hb1 hb2
      go_upto_region 6 with fail
      refine wp_region_quiet_below (by kernel_rfl) (by kernel_rfl) ?_
      repeat (go_big_quiet_step (first | (go_at_call 12; exact Calls.regrown_of (HS.out _ _))))
      refine wpQuiet_nil ?_
      intro _ hw'
      obtain ⟨⟨dq, osq⟩, hw''⟩ := hw'
      subst hw''
      have hb := below_regrown wr dq osq
      have HBv := hidIn (HB.out.trans (hb.mono HB.out.size))
      generalize Go.Sort.grow (redrawn wr dq) osq = wv at HBv ⊢
      clear hb g0 g1 g2 g3 g4 g5 g6 g7 g8 g9 HS
      go_wp2_with fail
      go_roundw
      case rel => exact ⟨k + 1, by omega, by go_num, HBv⟩
      case measure => simp [intOf]; omega
    · have hki : ¬ ((k : Int) < (ln : Int)) := by omega
      go_wp2_with fail
      go_ret
      exact ⟨rfl, HB.out⟩
set_option maxRecDepth 100000 in
set_option maxHeartbeats 4000000 in
theorem kept_yes {ns : List Int} {es : List Ed} {vn ve vn2 ve2 : Value} {w : World} (h : GrAt w vn ve ns es) (h2 : GrAt w vn2 ve2 ns es) : Calls Try.prog 9 #[grV vn ve, grV vn2 ve2] w fun e w' => e = .returned (.bool true) ∧ Below w.heap.size w w' := by
  obtain ⟨na, nca, rfl, hnl, _, hna⟩ := h.n.ints
  obtain ⟨ea, eca, rfl, hel, _, hea⟩ := h.e.eds
  obtain ⟨na2, nca2, rfl, _, _, hna2⟩ := h2.n.ints
  obtain ⟨ea2, eca2, rfl, _, _, hea2⟩ := h2.e.eds
  have Hna := hidIn hna
  have Hea := hidIn hea
  have Hna2 := hidIn hna2
  have Hea2 := hidIn hea2
  obtain ⟨W1, hW1⟩ : ∃ W1, (w.alloc (.cells #[.slice na ns.length nca, .slice ea es.length eca] 25)).alloc (.cells #[.slice na2 ns.length nca2, .slice ea2 es.length eca2] 25) = W1 := ⟨_, rfl⟩
  have bA : Below w.heap.size w W1 := by rw [← hW1]; exact ((Below.refl _ w).alloc (Nat.le_refl _) _).alloc (by simp) _
  have hA : W1.heap[w.heap.size]? = some (.cells #[.slice na ns.length nca, .slice ea es.length eca] 25) := by rw [← hW1, Below.heap_alloc _ _ _ (by simp)]; exact heap_alloc_last w _
  have hB : W1.heap[w.heap.size + 1]? = some (.cells #[.slice na2 ns.length nca2, .slice ea2 es.length eca2] 25) := by
    rw [← hW1]
    have := heap_alloc_last (w.alloc (.cells #[.slice na ns.length nca, .slice ea es.length eca] 25)) (.cells #[.slice na2 ns.length nca2, .slice ea2 es.length eca2] 25)
    rwa [World.size_alloc] at this
  obtain ⟨q, hqe⟩ : ∃ q, w.heap.size = q := ⟨_, rfl⟩
  rw [hqe] at hA hB
  have hlA := block_lt hA
  have hlB := block_lt hB
  obtain ⟨ln, hln⟩ : ∃ ln, ns.length = ln := ⟨_, rfl⟩
  obtain ⟨le, hle⟩ : ∃ le, es.length = le := ⟨_, rfl⟩
  rw [hln, hle] at hA hB hW1
  have HF : Hid (∀ wq, Below W1.heap.size W1 wq → ((wq.cell? ⟨q, 0, none⟩ = some (.slice na ln nca) ∧ wq.cell? ⟨q, 1, none⟩ = some (.slice ea le eca)) ∧ wq.cell? ⟨q + 1, 0, none⟩ = some (.slice na2 ln nca2) ∧ wq.cell? ⟨q + 1, 1, none⟩ = some (.slice ea2 le eca2)) ∧ Below w.heap.size w wq) := hidIn fun wq h => by
    have j0 := (h.block _ hlA).trans hA
    have j1 := (h.block _ hlB).trans hB
    exact ⟨⟨⟨cell_of_row _ _ 0 _ _ _ j0, cell_of_row _ _ 1 _ _ _ j0⟩, cell_of_row _ _ 0 _ _ _ j1, cell_of_row _ _ 1 _ _ _ j1⟩, bA.trans (h.mono bA.size)⟩
  rw [hln] at hnl ⊢
  rw [hle] at hel ⊢
  have HW := hidIn hW1
  have Hln := hidIn hln
  have Hle := hidIn hle
  clear hW1 bA hA hB h h2 hna hea hna2 hea2 hlA hlB hln hle
  obtain ⟨⟨⟨f0, f1⟩, f2, f3⟩, _⟩ := HF.out W1 (Below.refl _ _)
  go_enter Try.func9, Try.ntmps9
  go_upto_region 1 with fail
  rw [HW.out]
  clear HW hqe
  go_wp2_with fail
  go_loopw [5] (fun i wr => ∃ k : Nat, k ≤ ln ∧ i = .int .i64 k ∧ Hid (Below W1.heap.size W1 wr)) (fun i _ => ln - (intOf i).toNat)
  case atStart => exact ⟨0, Nat.zero_le _, rfl, hidIn (Below.refl _ _)⟩
  case round =>
    clear f0 f1 f2 f3
    obtain ⟨k, hk, rfl, HB⟩ := hrel
    obtain ⟨⟨⟨f0, f1⟩, f2, f3⟩, hBw⟩ := HF.out wr HB.out
    by_cases hlt : k < ln
    · have hki : (k : Int) < (ln : Int) := by omega
      obtain ⟨b1, o1, rfl, hb1, hc1⟩ := Hna.out (by have := Hln.out; omega)
      obtain ⟨b2, o2, rfl, hb2, hc2⟩ := Hna2.out (by have := Hln.out; omega)
      obtain ⟨x, hx⟩ : ∃ x, ns[k]? = some x := ⟨ns[k]'(by have := Hln.out; omega), List.getElem?_eq_getElem _⟩
      have c0 := (hBw.cell (p := ⟨b1, o1 + k, none⟩) hb1).trans (hc1 k x hx)
      have d0 := (hBw.cell (p := ⟨b2, o2 + k, none⟩) hb2).trans (hc2 k x hx)
      have hq : (x != x) = false := by simp
      clear hc1 hc2 hx hb1 hb2 hBw
      go_upto_region 6 with fail
      go_quiet (fail)
      go_wp2_with fail
      go_roundw
      case rel => exact ⟨k + 1, by omega, by go_num, hidIn (below_drewN HB.out _)⟩
      case measure => simp [intOf]; omega
    · have hki : ¬ ((k : Int) < (ln : Int)) := by omega
      clear hBw
      go_wp2_with fail
      go_loopw [6] (fun i wr => ∃ k : Nat, k ≤ le ∧ i = .int .i64 k ∧ Hid (Below W1.heap.size W1 wr)) (fun i _ => le - (intOf i).toNat)
      case atStart => exact ⟨0, Nat.zero_le _, rfl, HB⟩
      case round =>
        clear f0 f1 f2 f3 HB
        obtain ⟨m, hm, rfl, HB⟩ := hrel
        obtain ⟨⟨⟨f0, f1⟩, f2, f3⟩, hBw⟩ := HF.out wr HB.out
        by_cases hltm : m < le
        · have hmi : (m : Int) < (le : Int) := by omega
          obtain ⟨b1, o1, rfl, hb1, hc1⟩ := Hea.out (by have := Hle.out; omega)
          obtain ⟨b2, o2, rfl, hb2, hc2⟩ := Hea2.out (by have := Hle.out; omega)
          obtain ⟨⟨x, y, z⟩, hx⟩ : ∃ x, es[m]? = some x := ⟨es[m]'(by have := Hle.out; omega), List.getElem?_eq_getElem _⟩
          obtain ⟨p0, p1, p2⟩ := hc1 m _ hx
          obtain ⟨q0, q1, q2⟩ := hc2 m _ hx
          simp only at p0 p1 p2 q0 q1 q2
          have c0 := (hBw.cell (p := ⟨b1, o1 + m * 3, none⟩) hb1).trans p0
          have c1 := (hBw.cell (p := ⟨b1, o1 + m * 3 + 1, none⟩) hb1).trans p1
          have c2 := (hBw.cell (p := ⟨b1, o1 + m * 3 + 2, none⟩) hb1).trans p2
          have d0 := (hBw.cell (p := ⟨b2, o2 + m * 3, none⟩) hb2).trans q0
          have d1 := (hBw.cell (p := ⟨b2, o2 + m * 3 + 1, none⟩) hb2).trans q1
          have d2 := (hBw.cell (p := ⟨b2, o2 + m * 3 + 2, none⟩) hb2).trans q2
          have hq : ∀ w, (Op.equalIn 10000 54 (.agg #[.int .i64 x, .int .i64 y, .int .i64 z]) (.agg #[.int .i64 x, .int .i64 y, .int .i64 z])).run Try.prog w = Result.ok true w := fun w => by rw [eq_edge]; simp
          clear hc1 hc2 hx hb1 hb2 hBw p0 p1 p2 q0 q1 q2
          go_upto_region 11 with fail
          go_quiet (fail)
          go_wp2_with fail
          go_roundw
          case rel => exact ⟨m + 1, by omega, by go_num, hidIn (below_drewN HB.out _)⟩
          case measure => simp [intOf]; omega
        · have hmi : ¬ ((m : Int) < (le : Int)) := by omega
          have HBw := hidIn hBw
          clear hBw
          go_wp2_with fail
          go_ret
          exact ⟨rfl, HBw.out⟩
end Go.Proofs.Ytabnecicidkmhaa
namespace Go.Proofs.Ytabnecicidkmhaa

/-- A way as the list of its nodes. -/
def Wl (es : List Ed) (r : Int) (l : List Int) (x c : Int) : Prop := ∀ S : List Int → Int → Int → Prop, S [r] r 0 → (∀ e ∈ es, ∀ l c, S l e.1 c → S (l ++ [e.2.1]) e.2.1 (c + e.2.2)) → S l x c
theorem Wl.refl (es : List Ed) (r : Int) : Wl es r [r] r 0 := fun _ h _ => h
theorem Wl.step {es : List Ed} {r c : Int} {l : List Int} {e : Ed} (k : Wl es r l e.1 c) (he : e ∈ es) : Wl es r (l ++ [e.2.1]) e.2.1 (c + e.2.2) := fun S h1 h2 => h2 e he l c (k S h1 h2)
theorem Wl.last {es : List Ed} {r x c : Int} {l : List Int} (k : Wl es r l x c) : (l = [r] ∧ x = r ∧ c = 0) ∨ ∃ e ∈ es, ∃ l' c', Wl es r l' e.1 c' ∧ l = l' ++ [e.2.1] ∧ x = e.2.1 ∧ c = c' + e.2.2 :=
  (k (fun l x c => Wl es r l x c ∧ ((l = [r] ∧ x = r ∧ c = 0) ∨ ∃ e ∈ es, ∃ l' c', Wl es r l' e.1 c' ∧ l = l' ++ [e.2.1] ∧ x = e.2.1 ∧ c = c' + e.2.2)) ⟨Wl.refl _ _, .inl ⟨rfl, rfl, rfl⟩⟩ (fun e he l c h => ⟨h.1.step he, .inr ⟨e, he, l, c, h.1, rfl, rfl, rfl⟩⟩)).2
theorem cE_mem {ns : List Int} : ∀ (es : List Ed) (last : Ed), edgesOk ns last es = true → (∀ e ∈ es, (1 ≤ e.1 ∧ e.1 ≤ 24) ∧ 1 ≤ e.2.1 ∧ e.2.1 ≤ 24) → ∀ e ∈ es, cE es e.1.toNat e.2.1.toNat = e.2.2 := by
  intro es last hE hb
  have hr := (edgesOk_rise es last hE).2
  have key : ∀ (k : Nat) (fs : List Ed), fs.length = k → (fs.Pairwise fun a b => risesE a b = true) → (∀ e ∈ fs, (1 ≤ e.1 ∧ e.1 ≤ 24) ∧ 1 ≤ e.2.1 ∧ e.2.1 ≤ 24) → ∀ e ∈ fs, cE fs e.1.toNat e.2.1.toNat = e.2.2 := by
    intro k
    induction k with
    | zero => intro fs h _ _ e he; rw [List.length_eq_zero_iff.1 h] at he; simp at he
    | succ k ih =>
      intro fs h hp hb e he
      obtain ⟨U, f, rfl⟩ : ∃ U f, fs = U ++ [f] := by
        rcases List.eq_nil_or_concat fs with h' | ⟨U, f, h'⟩
        · rw [h'] at h; simp at h
        · exact ⟨U, f, by simpa using h'⟩
      rw [List.pairwise_append] at hp
      rw [cE_snoc]
      unfold put2
      have hf := hb f (by simp)
      have hee := hb e he
      rcases List.mem_append.1 he with h1 | h1
      · have h2 := hp.2.2 e h1 f (by simp)
        have hne : ¬ (e.1.toNat = f.1.toNat ∧ e.2.1.toNat = f.2.1.toNat) := by
          rintro ⟨q1, q2⟩
          have : e.1 = f.1 := by omega
          have : e.2.1 = f.2.1 := by omega
          simp [risesE, *] at h2
        rw [if_neg hne]
        exact ih U (by simpa using h) hp.1 (fun x hx => hb x (by simp [hx])) e h1
      · rw [List.mem_singleton.1 h1, if_pos ⟨rfl, rfl⟩]
  exact key _ es rfl hr hb
theorem graphOk_cE {ns : List Int} {es : List Ed} (h : graphOk ns es = true) {e : Ed} (he : e ∈ es) : cE es e.1.toNat e.2.1.toNat = e.2.2 := by
  have hbd := graphOk_bd h
  have h' := h
  unfold graphOk at h'
  simp only [Bool.and_eq_true] at h'
  exact cE_mem es _ h'.2.2 (fun e he => ⟨hbd.1 _ (hbd.2.1 e he).1, hbd.1 _ (hbd.2.1 e he).2⟩) e he
theorem wayR_snoc (C : Nat → Nat → Int) {v : Int} {y b : Int} (hv : C y.toNat b.toNat = v) (h0 : v ≠ 0) : ∀ (t : List Int) (s a s' : Int), wayR C s a t = some s' → (a :: t).getLast? = some y → wayR C s a (t ++ [b]) = some (s' + v)
  | [], s, a, s', h, hy => by
    simp at hy
    subst hy
    simp [wayR] at h
    subst h
    show (if C a.toNat b.toNat = 0 then none else wayR C (s + C a.toNat b.toNat) b []) = _
    rw [hv, if_neg h0]
    rfl
  | c :: t, s, a, s', h, hy => by
    have hy' : (c :: t).getLast? = some y := by simpa [List.getLast?_cons_cons] using hy
    simp only [wayR] at h
    by_cases hc : C a.toNat c.toNat = 0
    · rw [if_pos hc] at h; cases h
    · rw [if_neg hc] at h
      show (if C a.toNat c.toNat = 0 then none else wayR C (s + C a.toNat c.toNat) c (t ++ [b])) = _
      rw [if_neg hc]
      exact wayR_snoc C hv h0 t _ _ _ h hy'
/-- What is known of a way. -/
structure WlOk (ns : List Int) (es : List Ed) (r : Int) (l : List Int) (x c : Int) : Prop where
  wy : Wy es r x c (l.length - 1)
  pos : 0 < l.length
  last : l.getLast? = some x
  nodes : ∀ y ∈ l, y ∈ ns
  head : ∃ t, l = r :: t ∧ wayR (cE es) 0 r t = some c ∧ ((t = [] ∧ x = r ∧ c = 0) ∨ ∃ n t', t = n :: t' ∧ Fs es r n x c)
theorem Wl.ok {ns : List Int} {es : List Ed} {r x c : Int} {l : List Int} (hok : graphOk ns es = true) (hr : r ∈ ns) (k : Wl es r l x c) : WlOk ns es r l x c := by
  have hbd := graphOk_bd hok
  have hp := graphOk_pos hok
  refine k (WlOk ns es r) ⟨Wy.refl _ _, by simp, rfl, by simpa using hr, [], rfl, rfl, .inl ⟨rfl, rfl, rfl⟩⟩ ?_
  intro e he l c h
  obtain ⟨t, rfl, ht, hh⟩ := h.head
  refine ⟨?_, by simp, by rw [List.getLast?_append]; rfl, ?_, t ++ [e.2.1], by simp, ?_, ?_⟩
  · have := h.wy.step he
    simpa using this
  · intro y hy
    rcases List.mem_append.1 hy with h1 | h1
    · exact h.nodes y h1
    · rw [List.mem_singleton.1 h1]; exact (hbd.2.1 e he).2
  · exact wayR_snoc _ (graphOk_cE hok he) (by have := (hp e he).1; omega) _ _ _ _ ht h.last
  · right
    rcases hh with ⟨rfl, h1, h2⟩ | ⟨n, t', rfl, f, hf, h1, h2, hq, hw⟩
    · exact ⟨e.2.1, [], rfl, e, he, h1, rfl, 0, by rw [h2, show (0 : Int) + e.2.2 - e.2.2 = 0 from by omega]; exact Wy.refl _ _⟩
    · exact ⟨n, t' ++ [e.2.1], rfl, f, hf, h1, h2, hq + 1, by rw [show c + e.2.2 - f.2.2 = c - f.2.2 + e.2.2 from by omega]; exact hw.step he⟩
theorem Wl.uniq {ns : List Int} {es : List Ed} {r x c y d : Int} {l : List Int} (hok : graphOk ns es = true) (hr : r ∈ ns) (k : Wl es r l x c) (k' : Wl es r l y d) : x = y ∧ c = d := by
  have h1 := k.ok hok hr
  have h2 := k'.ok hok hr
  obtain ⟨t, e1, e2, _⟩ := h1.head
  obtain ⟨t', e1', e2', _⟩ := h2.head
  rw [e1] at e1'
  simp at e1'
  subst e1'
  rw [e2] at e2'
  have h3 := h1.last
  rw [h2.last] at h3
  exact ⟨by simpa using h3.symm, by simpa using e2'⟩
theorem Wl.longer {ns : List Int} {es : List Ed} {r y c : Int} {m : List Int} (hok : graphOk ns es = true) (hr : r ∈ ns) (k : Wl es r m y c) : ∀ l t x d, m = l ++ t → Wl es r l x d → t ≠ [] → d < c := by
  have hp := graphOk_pos hok
  refine (k (fun m y c => Wl es r m y c ∧ ∀ l t x d, m = l ++ t → Wl es r l x d → t ≠ [] → d < c) ⟨Wl.refl _ _, ?_⟩ ?_).2
  · intro l t x d he hl ht
    have h1 := (hl.ok hok hr).pos
    have h2 := congrArg List.length he
    rw [List.length_append] at h2
    have h3 : 0 < t.length := List.length_pos_iff.2 ht
    simp at h2
    omega
  · rintro e he m c ⟨hm, h⟩
    refine ⟨hm.step he, fun l t x d hlt hl ht => ?_⟩
    rcases List.eq_nil_or_concat t with h' | ⟨t', b, h'⟩
    · exact absurd h' ht
    · have h'' : t = t' ++ [b] := by simpa using h'
      subst h''
      rw [← List.append_assoc] at hlt
      have h1 := List.append_inj' hlt rfl
      have h2 := (hp e he).1
      by_cases h3 : t' = []
      · subst h3
        rw [List.append_nil] at h1
        rw [← h1.1] at hl
        have h4 := (hm.uniq hok hr hl).2
        omega
      · have := h l t' x d h1.1 hl h3
        omega
theorem cmpL_self : ∀ l : List Int, cmpL l l = 0
  | [] => rfl
  | a :: l => by
    show (if a < a then (-1 : Int) else if a < a then 1 else cmpL l l) = 0
    rw [if_neg (by omega), if_neg (by omega)]
    exact cmpL_self l
theorem cmpL_neg : ∀ l m : List Int, cmpL m l = - cmpL l m
  | [], [] => rfl
  | [], _ :: _ => rfl
  | _ :: _, [] => rfl
  | a :: l, b :: m => by
    have ih := cmpL_neg l m
    simp only [cmpL]
    by_cases h1 : a < b
    · rw [if_neg (by omega), if_pos h1, if_pos h1]; rfl
    · by_cases h2 : b < a
      · rw [if_pos h2, if_neg h1, if_pos h2]
      · rw [if_neg h2, if_neg h1, if_neg h1, if_neg h2]; exact ih
theorem cmpL_trans : ∀ a b c : List Int, cmpL a b ≤ 0 → cmpL b c ≤ 0 → cmpL a c ≤ 0
  | [], _, [], _, _ => by simp [cmpL]
  | [], _, _ :: _, _, _ => by simp [cmpL]
  | _ :: _, [], _, h, _ => by simp [cmpL] at h
  | _ :: _, _ :: _, [], _, h => by simp [cmpL] at h
  | a :: l, b :: m, c :: n, h, k => by
    have ih := cmpL_trans l m n
    simp only [cmpL] at h k ⊢
    by_cases h1 : a < b
    · by_cases k1 : b < c
      · rw [if_pos (by omega)]; omega
      · by_cases k2 : c < b
        · rw [if_neg k1, if_pos k2] at k; omega
        · rw [if_pos (by omega)]; omega
    · by_cases h2 : b < a
      · rw [if_neg h1, if_pos h2] at h; omega
      · rw [if_neg h1, if_neg h2] at h
        have hab : a = b := by omega
        subst hab
        by_cases k1 : a < c
        · rw [if_pos k1]; omega
        · by_cases k2 : c < a
          · rw [if_neg k1, if_pos k2] at k; omega
          · rw [if_neg k1, if_neg k2] at k ⊢
            exact ih h k
theorem cmpL_snoc (z : List Int) : ∀ l m : List Int, cmpL l m ≤ 0 → (∀ t, m = l ++ t → t = []) → cmpL (l ++ z) (m ++ z) ≤ 0
  | [], m, _, hp => by
    have := hp m rfl
    subst this
    rw [cmpL_self]
    exact Int.le_refl _
  | _ :: _, [], h, _ => by simp [cmpL] at h
  | a :: l, b :: m, h, hp => by
    simp only [cmpL, List.cons_append] at h ⊢
    by_cases h1 : a < b
    · rw [if_pos h1]; omega
    · by_cases h2 : b < a
      · rw [if_neg h1, if_pos h2] at h; omega
      · rw [if_neg h1, if_neg h2] at h ⊢
        have hab : a = b := by omega
        subst hab
        exact cmpL_snoc z l m h (fun t ht => hp t (by rw [ht]; rfl))
/-- One edge more, at its end. -/
def fstG (acc was : Option (List Int)) (e : Ed) : Option (List Int) :=
  match acc with
  | none => some (was.getD [] ++ [e.2.1])
  | some l => if cmpL (was.getD [] ++ [e.2.1]) l < 0 then some (was.getD [] ++ [e.2.1]) else some l
theorem putV_id {β : Type} (f : Nat → β) (n : Nat) : putV f n (f n) = f := by
  funext i
  unfold putV
  split
  · rename_i h; rw [h]
  · rfl
theorem fstE_step : fstE = stepG fstG := by
  funext f e
  unfold fstE stepG fstG wayE
  cases h : f e.2.1.toNat with
  | none => rfl
  | some l =>
    simp only
    by_cases hc : cmpL ((f e.1.toNat).getD [] ++ [e.2.1]) l < 0
    · rw [if_pos hc, if_pos hc]
    · rw [if_neg hc, if_neg hc, ← h, putV_id]
theorem fold_min (F : Nat → Option (List Int)) : ∀ (L : List Ed) (acc : Option (List Int)), (L ≠ [] ∨ ∃ l, acc = some l) →
    ∃ m, L.foldl (fun acc e => fstG acc (F e.1.toNat) e) acc = some m ∧ (acc = some m ∨ ∃ e ∈ L, m = (F e.1.toNat).getD [] ++ [e.2.1]) ∧ (∀ e ∈ L, cmpL m ((F e.1.toNat).getD [] ++ [e.2.1]) ≤ 0) ∧ ∀ l, acc = some l → cmpL m l ≤ 0
  | [], acc, h => by
    rcases h with h | ⟨l, rfl⟩
    · exact absurd rfl h
    · exact ⟨l, rfl, .inl rfl, by simp, fun m hm => by cases hm; rw [cmpL_self]; exact Int.le_refl _⟩
  | e :: L, acc, _ => by
    obtain ⟨a, ha, hcase⟩ : ∃ a, fstG acc (F e.1.toNat) e = some a ∧ ((acc = some a ∧ cmpL a ((F e.1.toNat).getD [] ++ [e.2.1]) ≤ 0) ∨ (a = (F e.1.toNat).getD [] ++ [e.2.1] ∧ ∀ l, acc = some l → cmpL a l ≤ 0)) := by
      cases acc with
      | none => exact ⟨_, rfl, .inr ⟨rfl, fun l hl => by cases hl⟩⟩
      | some l =>
        by_cases hc : cmpL ((F e.1.toNat).getD [] ++ [e.2.1]) l < 0
        · exact ⟨_, by simp only [fstG]; rw [if_pos hc], .inr ⟨rfl, fun m hm => by cases hm; omega⟩⟩
        · exact ⟨l, by simp only [fstG]; rw [if_neg hc], .inl ⟨rfl, by rw [cmpL_neg]; omega⟩⟩
    obtain ⟨m, h1, h2, h3, h4⟩ := fold_min F L (some a) (.inr ⟨a, rfl⟩)
    have hma := h4 a rfl
    refine ⟨m, by rw [List.foldl_cons, ha]; exact h1, ?_, ?_, ?_⟩
    · rcases h2 with h2 | ⟨f, hf, h2⟩
      · cases h2
        rcases hcase with ⟨h5, _⟩ | ⟨h5, _⟩
        · exact .inl h5
        · exact .inr ⟨e, by simp, h5⟩
      · exact .inr ⟨f, by simp [hf], h2⟩
    · intro f hf
      rcases List.mem_cons.1 hf with rfl | hf
      · rcases hcase with ⟨_, h5⟩ | ⟨h5, _⟩
        · exact cmpL_trans _ _ _ hma h5
        · rw [← h5]; exact hma
      · exact h3 f hf
    · intro l hl
      rcases hcase with ⟨h5, _⟩ | ⟨_, h5⟩
      · rw [h5] at hl; cases hl; exact hma
      · exact cmpL_trans _ _ _ hma (h5 l hl)
/-- What First tells of a node. -/
theorem fst_right {ns : List Int} {es : List Ed} {r : Int} {P : List (Int × Int)} (hok : graphOk ns es = true) (hr : r ∈ ns) (h : IsNear es r P) (hn : NdOk P) :
    ∀ (n : Nat) (x d : Int), d.toNat = n → x ∈ ns → Ds es r x d → ∃ l, fstT r (told es P P) x.toNat = some l ∧ Wl es r l x d ∧ ∀ m, Wl es r m x d → cmpL l m ≤ 0 := by
  have hp := graphOk_pos hok
  have hbd := graphOk_bd hok
  have h0 : ∀ n ∈ P, 0 ≤ n.1 := fun n h1 => by have := (hn.2 n h1).1; omega
  have hr2 := hbd.1 r hr
  have hF : ∀ y, (told es P P).foldl (stepG fstG) (putV (fun _ => none) r.toNat (some [r])) y = fstT r (told es P P) y := fun y => by unfold fstT; rw [fstE_step]
  have hinto : ∀ x, x ∈ ns → ∀ e, e ∈ (told es P P).filter (fun e => decide (e.2.1.toNat = x.toNat)) ↔ Into es r x e := fun x hx e => by
    have h2 := hbd.1 x hx
    rw [List.mem_filter, h.told_iff h0, decide_eq_true_eq]
    constructor
    · rintro ⟨⟨h1, d, hd1, hd2⟩, h3⟩
      have h4 := hbd.1 _ (hbd.2.1 e h1).2
      have h5 : e.2.1 = x := by omega
      exact ⟨h1, h5, d, hd1, by rw [← h5]; exact hd2⟩
    · rintro ⟨h1, h4, d, hd1, hd2⟩
      exact ⟨⟨h1, d, hd1, by rw [h4]; exact hd2⟩, by rw [h4]⟩
  intro n
  induction n using Nat.strongRecOn with
  | ind n ih =>
    intro x d hdn hx hd
    have hx2 := hbd.1 x hx
    have hfold := topo_fold fstG (putV (fun _ => none) r.toNat (some [r])) _ _ rfl (h.topo h0 hp) x.toNat
    have hfc : ∀ (L : List Ed) (a : Option (List Int)), L.foldl (fun acc e => fstG acc ((told es P P).foldl (stepG fstG) (putV (fun _ => none) r.toNat (some [r])) e.1.toNat) e) a = L.foldl (fun acc e => fstG acc (fstT r (told es P P) e.1.toNat) e) a := fun L a => by
      congr
      funext acc e
      rw [hF]
    rw [hF, hfc] at hfold
    rw [hfold]
    by_cases hxr : x = r
    · subst hxr
      have hd0 : d = 0 := hd.uniq (ds_root hp)
      subst hd0
      have hnil : (told es P P).filter (fun e => decide (e.2.1.toNat = x.toNat)) = [] := by
        apply List.eq_nil_iff_forall_not_mem.2
        intro e he
        exact into_root hp ((hinto x hx e).1 he)
      rw [hnil]
      refine ⟨[x], by show putV _ _ _ _ = _; rw [putV_same], Wl.refl _ _, fun m hm => ?_⟩
      have h1 := (hm.ok hok hr)
      have h2 := (h1.wy.pos hp).1
      have h3 : m.length = 1 := by have := h1.pos; omega
      obtain ⟨t, rfl, _⟩ := h1.head
      simp at h3
      subst h3
      rw [cmpL_self]
      exact Int.le_refl _
    · have hinit : putV (fun _ => none) r.toNat (some [r]) x.toNat = none := putV_other _ _ (by omega)
      rw [hinit]
      have hstep : ∀ e, Into es r x e → ∃ le c, Ds es r e.1 c ∧ d = c + e.2.2 ∧ fstT r (told es P P) e.1.toNat = some le ∧ Wl es r le e.1 c ∧ ∀ m, Wl es r m e.1 c → cmpL le m ≤ 0 := fun e hi => by
        obtain ⟨h1, h2, c, hc, hc2⟩ := hi
        have h3 := hd.uniq hc2
        have h4 := (hp e h1).1
        have h5 := hc.nonneg hp
        obtain ⟨le, hle⟩ := ih c.toNat (by omega) e.1 c rfl (hbd.2.1 e h1).1 hc
        exact ⟨le, c, hc, h3, hle⟩
      obtain ⟨hh, hw⟩ := hd.1
      have hne : (told es P P).filter (fun e => decide (e.2.1.toNat = x.toNat)) ≠ [] := by
        rcases hw.last with ⟨h1, _⟩ | ⟨e, he, c', h', hw', h1, h2, _⟩
        · exact absurd h1 hxr
        · intro hnil
          have := (hinto x hx e).2 (into_last hd he hw' h1 h2).1
          rw [hnil] at this
          simp at this
      obtain ⟨l, h1, h2, h3, _⟩ := fold_min (fstT r (told es P P)) _ none (.inl hne)
      refine ⟨l, h1, ?_, fun m hm => ?_⟩
      · rcases h2 with h2 | ⟨e, he, h2⟩
        · cases h2
        · have hi := (hinto x hx e).1 he
          obtain ⟨le, c, hc, hdc, hfe, hwl, _⟩ := hstep e hi
          rw [h2, hfe, hdc]
          have := hwl.step hi.1
          rw [hi.2.1] at this
          rw [hi.2.1]
          exact this
      · rcases hm.last with ⟨_, h5, _⟩ | ⟨e, he, m', c', hm', hml, h5, h6⟩
        · exact absurd h5 hxr
        · obtain ⟨hi, hc'⟩ := into_last hd he (hm'.ok hok hr).wy h5 h6
          obtain ⟨le, c, hc, hdc, hfe, hwl, hmin⟩ := hstep e hi
          have hcc := hc.uniq hc'
          subst hcc
          have h7 := h3 e ((hinto x hx e).2 hi)
          rw [hfe] at h7
          rw [hml]
          refine cmpL_trans _ _ _ h7 (cmpL_snoc [e.2.1] le m' (hmin m' hm') (fun t ht => Classical.byContradiction fun hne => ?_))
          have := hm'.longer hok hr le t _ _ ht hwl hne
          omega
theorem fst_none {ns : List Int} {es : List Ed} {r : Int} {P : List (Int × Int)} (hok : graphOk ns es = true) (hr : r ∈ ns) (h : IsNear es r P) (hn : NdOk P) {x : Int} (hx : x ∈ ns) (hno : ∀ d, ¬ Ds es r x d) : fstT r (told es P P) x.toNat = none := by
  have hp := graphOk_pos hok
  have hbd := graphOk_bd hok
  have h0 : ∀ n ∈ P, 0 ≤ n.1 := fun n h1 => by have := (hn.2 n h1).1; omega
  have hr2 := hbd.1 r hr
  have hx2 := hbd.1 x hx
  have hfold := topo_fold fstG (putV (fun _ => none) r.toNat (some [r])) _ _ rfl (h.topo h0 hp) x.toNat
  have hF : ∀ y, (told es P P).foldl (stepG fstG) (putV (fun _ => none) r.toNat (some [r])) y = fstT r (told es P P) y := fun y => by unfold fstT; rw [fstE_step]
  rw [hF] at hfold
  rw [hfold]
  have hnil : (told es P P).filter (fun e => decide (e.2.1.toNat = x.toNat)) = [] := by
    apply List.eq_nil_iff_forall_not_mem.2
    intro e he
    rw [List.mem_filter, h.told_iff h0, decide_eq_true_eq] at he
    obtain ⟨⟨h1, d, hd1, hd2⟩, h3⟩ := he
    have h4 := hbd.1 _ (hbd.2.1 e h1).2
    have h5 : e.2.1 = x := by omega
    rw [h5] at hd2
    exact hno _ hd2
  rw [hnil]
  show putV _ _ _ _ = _
  refine putV_other _ _ (fun e => hno 0 ?_)
  have : x = r := by omega
  rw [this]
  exact ds_root hp
end Go.Proofs.Ytabnecicidkmhaa
namespace Go.Proofs.Ytabnecicidkmhaa

theorem wy_wl {es : List Ed} {r x c : Int} {h : Nat} (k : Wy es r x c h) : ∃ l, Wl es r l x c :=
  k (fun x c _ => ∃ l, Wl es r l x c) ⟨_, Wl.refl es r⟩ (fun _ he _ _ ⟨_, hl⟩ => ⟨_, hl.step he⟩)
theorem wl_wy {es : List Ed} {r x c : Int} {l : List Int} (k : Wl es r l x c) : ∃ h, Wy es r x c h :=
  k (fun _ x c => ∃ h, Wy es r x c h) ⟨0, Wy.refl es r⟩ (fun _ he _ _ ⟨_, hl⟩ => ⟨_, hl.step he⟩)
theorem Wl.cons {es : List Ed} {e : Ed} (he : e ∈ es) {l : List Int} {x c : Int} (k : Wl es e.2.1 l x c) : Wl es e.1 (e.1 :: l) x (e.2.2 + c) := by
  have := k (fun l x c => Wl es e.1 (e.1 :: l) x (e.2.2 + c)) (by
    have h := (Wl.refl es e.1).step he
    rw [Int.zero_add] at h
    simpa using h) (fun f hf l c h => by
    have h2 := h.step hf
    rw [Int.add_assoc] at h2
    exact h2)
  exact this
/-- The first step of a way. -/
theorem Wl.head {es : List Ed} {r x c : Int} {l : List Int} (k : Wl es r l x c) : (l = [r] ∧ x = r ∧ c = 0) ∨ ∃ e ∈ es, e.1 = r ∧ ∃ l', l = r :: l' ∧ Wl es e.2.1 l' x (c - e.2.2) := by
  have := k (fun l x c => (l = [r] ∧ x = r ∧ c = 0) ∨ ∃ e ∈ es, e.1 = r ∧ ∃ l', l = r :: l' ∧ Wl es e.2.1 l' x (c - e.2.2)) (.inl ⟨rfl, rfl, rfl⟩) (fun f hf l c h => by
    rcases h with ⟨h1, h2, h3⟩ | ⟨e, he, h1, l', h2, h3⟩
    · refine .inr ⟨f, hf, h2, [f.2.1], by rw [h1]; rfl, ?_⟩
      rw [h3, show (0 : Int) + f.2.2 - f.2.2 = 0 by omega]
      exact Wl.refl es f.2.1
    · refine .inr ⟨e, he, h1, l' ++ [f.2.1], by rw [h2]; rfl, ?_⟩
      have h4 := h3.step hf
      rw [show c - e.2.2 + f.2.2 = c + f.2.2 - e.2.2 by omega] at h4
      exact h4)
  exact this
theorem wl_starts {es : List Ed} {r x c : Int} {l : List Int} (k : Wl es r l x c) : ∃ l', l = r :: l' := by
  rcases k.head with ⟨h, _⟩ | ⟨_, _, _, l', h, _⟩
  · exact ⟨[], h⟩
  · exact ⟨l', h⟩
/-- The first of the ways of a cost, by order. -/
def IsFst (es : List Ed) (a x d : Int) (l : List Int) : Prop := Wl es a l x d ∧ ∀ m, Wl es a m x d → cmpL l m ≤ 0
theorem cmpL_head {a : Int} {l m : List Int} : cmpL (a :: l) (a :: m) = cmpL l m := by
  show (if a < a then -1 else if a < a then 1 else cmpL l m) = _
  rw [if_neg (Int.lt_irrefl _), if_neg (Int.lt_irrefl _)]
/-- The least node from which the rest is as cheap as it must be is the way's next. -/
theorem fst_next {es : List Ed} {a x d : Int} {l : List Int} (hf : IsFst es a x d l) (hd : Ds es a x d) (hne : a ≠ x) :
    ∃ n l' c, l = a :: l' ∧ (a, n, c) ∈ es ∧ Ds es n x (d - c) ∧ IsFst es n x (d - c) l' ∧ ∀ m c', (a, m, c') ∈ es → Ds es m x (d - c') → n ≤ m := by
  rcases hf.1.head with ⟨_, h2, _⟩ | ⟨⟨e1, n, c⟩, he, h1, l', h2, h3⟩
  · exact absurd h2.symm hne
  · simp only at h1 h3
    subst h1
    have hdn : Ds es n x (d - c) := by
      obtain ⟨hh, hw⟩ := wl_wy h3
      refine ⟨⟨hh, hw⟩, fun c' h' hw' => ?_⟩
      have h4 := (Wy.one he).trans hw'
      simp only at h4
      have := hd.2 _ _ h4
      omega
    refine ⟨n, l', c, h2, he, hdn, ⟨h3, fun m hm => ?_⟩, fun m c' hm hdm => ?_⟩
    · have h4 := Wl.cons he hm
      simp only at h4
      rw [show c + (d - c) = d by omega] at h4
      have h5 := hf.2 _ h4
      rwa [h2, cmpL_head] at h5
    · obtain ⟨hh, hw⟩ := hdm.1
      obtain ⟨lm, hlm⟩ := wy_wl hw
      have h4 := Wl.cons hm hlm
      simp only at h4
      rw [show c' + (d - c') = d by omega] at h4
      have h5 := hf.2 _ h4
      rw [h2, cmpL_head] at h5
      obtain ⟨l1, hl1⟩ := wl_starts h3
      obtain ⟨l2, hl2⟩ := wl_starts hlm
      rw [hl1, hl2] at h5
      rcases Int.lt_or_le m n with h6 | h6
      · exfalso
        have : cmpL (n :: l1) (m :: l2) = 1 := by
          show (if n < m then -1 else if m < n then 1 else cmpL l1 l2) = 1
          rw [if_neg (by omega), if_pos h6]
        omega
      · exact h6
/-- At its end a way is done. -/
theorem fst_end {ns : List Int} {es : List Ed} (hok : graphOk ns es = true) {x d : Int} {l : List Int} (hf : IsFst es x x d l) (hd : Ds es x x d) : l = [x] := by
  have hp := graphOk_pos hok
  have h0 := hd.uniq (ds_root hp)
  rcases hf.1.head with ⟨h1, _⟩ | ⟨e, he, h1, l', h2, h3⟩
  · exact h1
  · obtain ⟨hh, hw⟩ := wl_wy h3
    have h4 := (hw.pos hp).1
    have h5 := hp e he
    omega
/-- What the program's First tells. -/
theorem fst_is {ns : List Int} {es : List Ed} {r : Int} {P : List (Int × Int)} (hok : graphOk ns es = true) (hr : r ∈ ns) (h : IsNear es r P) (hn : NdOk P) {x d : Int} (hx : x ∈ ns) (hd : Ds es r x d) : ∃ l, fstT r (told es P P) x.toNat = some l ∧ IsFst es r x d l := by
  obtain ⟨l, h1, h2, h3⟩ := fst_right hok hr h hn d.toNat x d rfl hx hd
  exact ⟨l, h1, h2, h3⟩
end Go.Proofs.Ytabnecicidkmhaa
namespace Go.Proofs.Ytabnecicidkmhaa
open Go.RowKit

theorem cE_out : ∀ (l : List Ed) (c : Nat → Nat → Int) (i j : Nat), (∀ e ∈ l, ¬ (e.1.toNat = i ∧ e.2.1.toNat = j)) → (l.foldl (fun c e => put2 c e.1.toNat e.2.1.toNat e.2.2) c) i j = c i j
  | [], _, _, _, _ => rfl
  | e :: l, c, i, j, h => by
    rw [List.foldl_cons, cE_out l _ i j (fun x hx => h x (List.mem_cons_of_mem _ hx))]
    have := h e List.mem_cons_self
    unfold put2
    rw [if_neg (fun e' => this ⟨e'.1.symm, e'.2.symm⟩)]
theorem edI_cE {ns : List Int} {es : List Ed} (hok : graphOk ns es = true) {a b : Int} (ha : a ∈ ns) (hb : b ∈ ns) : edI es a b = cE es a.toNat b.toNat := by
  have hbd := (graphOk_bd hok).1
  have ha' := hbd a ha
  have hb' := hbd b hb
  unfold edI
  cases hf : es.find? (fun e => e.1 == a && e.2.1 == b) with
  | some e =>
    have h1 := List.mem_of_find?_eq_some hf
    have h2 := List.find?_some hf
    simp only [Bool.and_eq_true, beq_iff_eq] at h2
    have := graphOk_cE hok h1
    rw [h2.1, h2.2] at this
    exact this.symm
  | none =>
    have h1 := List.find?_eq_none.1 hf
    unfold cE
    rw [cE_out es no2 _ _ (fun e he h2 => ?_)]
    · rfl
    · have h3 := h1 e he
      simp only [Bool.and_eq_true, beq_iff_eq] at h3
      have h4 := ((graphOk_bd hok).2.1 e he)
      have h5 := hbd _ h4.1
      have h6 := hbd _ h4.2
      exact h3 ⟨by omega, by omega⟩
theorem wayA_no {ns : List Int} {es : List Ed} {way : List Int} (h : ndAll ns es way = false) : wayA ns es way = (0, 2) := by
  cases way with
  | nil => rfl
  | cons a l => exact if_neg (by rw [h]; decide)
theorem wayA_yes {ns : List Int} {es : List Ed} {a : Int} {l : List Int} (h : ndAll ns es (a :: l) = true) : wayA ns es (a :: l) = match wayR (cE es) 0 a l with | none => (0, 6) | some s => (s, 0) := if_pos h
/-- As far as a way has been gone. -/
theorem wayR_drop (C : Nat → Nat → Int) {way : List Int} {s a b : Int} {k : Nat} (hb : way[k]? = some b) : wayR C s a (way.drop k) = if C a.toNat b.toNat = 0 then none else wayR C (s + C a.toNat b.toNat) b (way.drop (k + 1)) := by
  rw [drop_next hb]
  rfl
set_option maxRecDepth 100000 in
set_option maxHeartbeats 4000000 in
theorem dcost_any {ns : List Int} {es : List Ed} {vn ve v : Value} {way : List Int} {w : World} (h : GrAt w vn ve ns es) (hv : SlAt ic 1 w v way) (hlen : way.length ≤ 1000000000000) :
    Calls Try.prog 15 #[grV vn ve, v] w fun e w' => e = .returned (.tuple #[.int .i64 (wayA ns es way).1, .int .i64 (wayA ns es way).2]) ∧ Below w.heap.size w w' := by
  have HGr := hidIn h
  obtain ⟨na, nca, rfl, hnl, _, _⟩ := h.n.ints
  obtain ⟨ea, eca, rfl, hel, _, _⟩ := h.e.eds
  obtain ⟨va, vca, rfl, hvl, _, hva⟩ := hv.ints
  have Hva := hidIn hva
  obtain ⟨W1, hW1⟩ : ∃ W1, w.alloc (.cells #[.slice na ns.length nca, .slice ea es.length eca] 25) = W1 := ⟨_, rfl⟩
  have bA : Below w.heap.size w W1 := by rw [← hW1]; exact (Below.refl _ w).alloc (Nat.le_refl _) _
  have hGB : W1.heap[w.heap.size]? = some (.cells #[.slice na ns.length nca, .slice ea es.length eca] 25) := by rw [← hW1]; exact heap_alloc_last w _
  obtain ⟨q, hqe⟩ : ∃ q, w.heap.size = q := ⟨_, rfl⟩
  rw [hqe] at hGB
  have hlt0 := block_lt hGB
  have HF : Hid (∀ wq, Below W1.heap.size W1 wq → (wq.cell? ⟨q, 0, none⟩ = some (.slice na ns.length nca) ∧ wq.cell? ⟨q, 1, none⟩ = some (.slice ea es.length eca)) ∧ Below w.heap.size w wq) := hidIn fun wq h => by
    have j0 := (h.block _ hlt0).trans hGB
    exact ⟨⟨cell_of_row _ _ 0 _ _ _ j0, cell_of_row _ _ 1 _ _ _ j0⟩, bA.trans (h.mono bA.size)⟩
  have HW := hidIn hW1
  have HCk := hidIn (gcheck_any (h.keep bA (Nat.le_refl _)))
  have Hv := hidIn hv
  obtain ⟨ln, hln⟩ : ∃ ln, ns.length = ln := ⟨_, rfl⟩
  obtain ⟨le, hle⟩ : ∃ le, es.length = le := ⟨_, rfl⟩
  obtain ⟨lw, hlw⟩ : ∃ lw, way.length = lw := ⟨_, rfl⟩
  have hgr := HGr.out
  rw [hln, hle] at hgr
  have HG := hidIn hgr
  rw [hln] at hnl HF HW HCk ⊢
  rw [hle] at hel HF HW HCk ⊢
  rw [hlw] at hvl hlen ⊢
  have Hlw := hidIn hlw
  have HB1 := hidIn bA
  clear hW1 bA hGB hva h hln hle hlt0 hlw hgr HGr hv
  obtain ⟨⟨f0, f1⟩, _⟩ := HF.out W1 (Below.refl _ _)
  go_enter Try.func15, Try.ntmps15
  go_upto_region 1 with fail
  rw [HW.out]
  clear HW hqe
  go_wp2_with fail
  refine HCk.out.mono ?_
  rintro e w2 ⟨rfl, hb2⟩
  have HB2 := hidIn hb2
  clear hb2 HCk f0 f1
  cases hok : graphOk ns es with
  | false =>
    have HE : Hid (wayA ns es way = (0, 2)) := hidIn (wayA_no (by unfold ndAll; rw [hok]; rfl))
    have HBe := hidIn (HF.out w2 HB2.out).2
    rw [ckC_no hok]
    clear hok
    go_wp2_with fail
    go_ret2
    exact ⟨by rw [HE.out]; rfl, HBe.out⟩
  | true =>
    rw [ckC_yes hok]
    by_cases hw0 : lw = 0
    · subst hw0
      have HE : Hid (wayA ns es way = (0, 2)) := hidIn (by rw [List.length_eq_zero_iff.1 Hlw.out]; rfl)
      have HBe := hidIn (HF.out w2 HB2.out).2
      clear hok
      go_wp2_with fail
      go_ret2
      exact ⟨by rw [HE.out]; rfl, HBe.out⟩
    · have hwp : ((lw : Int) == 0) = false := by rw [beq_eq_false_iff_ne]; omega
      have Hok := hidIn hok
      clear hok
      go_wp2_with fail
      go_loopw [6] (fun i wr => ∃ k : Nat, k ≤ lw ∧ i = .int .i64 k ∧ Hid (Below W1.heap.size W1 wr ∧ ∀ y ∈ way.take k, y ∈ ns)) (fun i _ => lw - (intOf i).toNat)
      case atStart => exact ⟨0, Nat.zero_le _, rfl, hidIn ⟨HB2.out, by simp⟩⟩
      case round =>
        obtain ⟨k, hk, rfl, HR⟩ := hrel
        obtain ⟨hbw, hin⟩ := HR.out
        obtain ⟨⟨f0, f1⟩, hbw0⟩ := HF.out wr hbw
        by_cases hlt : k < lw
        · have hki : (k : Int) < (lw : Int) := by omega
          obtain ⟨bk, o, rfl, hbk, hcell⟩ := Hva.out (by have := Hlw.out; omega)
          obtain ⟨z, hz⟩ : ∃ z, way[k]? = some z := ⟨way[k]'(by have := Hlw.out; omega), List.getElem?_eq_getElem _⟩
          have c0 := (hbw0.cell (p := ⟨bk, o + k, none⟩) hbk).trans (hcell k z hz)
          have HP : Hid (∀ z dd os, Calls Try.prog 26 #[grV (.slice na ln nca) (.slice ea le eca), .int .i64 z] (Go.Sort.grow (redrawn wr dd) os) fun e w' => e = .returned (.int .i64 (plI ns z)) ∧ Below (Go.Sort.grow (redrawn wr dd) os).heap.size (Go.Sort.grow (redrawn wr dd) os) w') := hidIn fun z dd os => place_any (HG.out.keep (hbw0.trans ((below_regrown wr dd os).mono hbw0.size)) (Nat.le_refl _)) z
          have g0 := cell_regrown f0
          have g1 := cell_regrown f1
          have g2 := cell_regrown c0
          have HRw := hidIn hbw
          have hng := plI_neg (l := ns) (n := z)
          obtain ⟨bz, hbz⟩ : ∃ bz, decide (plI ns z < 0) = bz := ⟨_, rfl⟩
          have HNx : Hid (bz = false → ∀ y ∈ way.take (k + 1), y ∈ ns) := hidIn fun e y hy => by
            rw [take_snoc hz] at hy
            rcases List.mem_append.1 hy with h | h
            · exact hin y h
            · rw [List.mem_singleton.1 h]
              rw [e, decide_eq_false_iff_not, hng] at hbz
              exact Classical.byContradiction hbz
          have HNo : Hid (bz = true → wayA ns es way = (0, 2)) := hidIn fun e => by
            rw [e, decide_eq_true_iff, hng] at hbz
            have hf : ndAll ns es way = false := by
              unfold ndAll
              rw [Hok.out, Bool.true_and, List.all_eq_false]
              exact ⟨z, List.mem_of_getElem? hz, fun e => hbz (hasN_iff.1 e)⟩
            exact wayA_no hf
          clear hcell hz hbw hin hbw0 HR hng c0
          go_upto_region 6 with fail
          refine wp_region_quiet_below (by kernel_rfl) (by kernel_rfl) ?_
          repeat (go_big_quiet_step (first | (go_at_call 26; exact Calls.regrown_of (HP.out _ _ _))))
          refine wpQuiet_nil ?_
          intro _ hw'
          obtain ⟨⟨dq, osq⟩, hw''⟩ := hw'
          subst hw''
          have HRy := hidIn (HRw.out.trans ((below_regrown wr dq osq).mono HRw.out.size))
          generalize Go.Sort.grow (redrawn wr dq) osq = wy at HRy ⊢
          clear g0 g1 g2 HP HRw f0 f1
          cases bz
          · go_wp2_with fail
            go_roundw
            case rel => exact ⟨k + 1, by omega, by go_num, hidIn ⟨HRy.out, HNx.out rfl⟩⟩
            case measure => simp [intOf]; omega
          · have HBe := hidIn (HF.out wy HRy.out).2
            have HN2 := hidIn (HNo.out rfl)
            go_wp2_with fail
            go_ret2
            exact ⟨by rw [HN2.out]; rfl, HBe.out⟩
        · have hki : ¬ (k : Int) < (lw : Int) := by omega
          rw [List.take_of_length_le (by have := Hlw.out; omega)] at hin
          have Hin := hidIn hin
          have Hbw := hidIn hbw
          obtain ⟨a0, l0, hwc⟩ : ∃ a l, way = a :: l := by
            cases hw : way with
            | nil => have := Hlw.out; rw [hw] at this; simp at this; omega
            | cons a l => exact ⟨a, l, rfl⟩
          have HWA : Hid (wayA ns es way = match wayR (cE es) 0 a0 (way.drop 1) with | none => (0, 6) | some s => (s, 0)) := hidIn (by
            have hn : ndAll ns es way = true := by
              unfold ndAll
              rw [Hok.out, Bool.true_and, List.all_eq_true]
              intro x hx
              exact hasN_iff.2 (hin x hx)
            rw [hwc] at hn ⊢
            exact wayA_yes hn)
          have Ha0 : Hid (way[0]? = some a0) := hidIn (by rw [hwc]; rfl)
          clear hin hbw hbw0 HR hwc
          go_wp2_with fail
          clear f0 f1
          go_loopw [7, 8] (fun sm i wr => ∃ (j : Nat) (s a : Int), j + 1 ≤ lw ∧ i = .int .i64 ((j : Int) + 1) ∧ sm = .int .i64 s ∧ Hid (Below W1.heap.size W1 wr ∧ way[j]? = some a ∧ 0 ≤ s ∧ s ≤ 1000 * j ∧ wayR (cE es) 0 a0 (way.drop 1) = wayR (cE es) s a (way.drop (j + 1)))) (fun _ i _ => lw - (intOf i).toNat)
          case atStart => exact ⟨0, 0, a0, by omega, rfl, rfl, hidIn ⟨Hbw.out, Ha0.out, by omega, by omega, rfl⟩⟩
          case round =>
            obtain ⟨j, s, a, hj, rfl, rfl, HR⟩ := hrel
            obtain ⟨hbw, haj, hs0, hs1, hwr⟩ := HR.out
            obtain ⟨⟨f0, f1⟩, hbw0⟩ := HF.out wr hbw
            by_cases hlt : j + 1 < lw
            · have hji : (j : Int) + 1 < (lw : Int) := by omega
              have hji0 : (j : Int) < (lw : Int) := by omega
              have hsub : (j : Int) + 1 - 1 = (j : Int) := by omega
              obtain ⟨bk, o, rfl, hbk, hcell⟩ := Hva.out (by have := Hlw.out; omega)
              obtain ⟨b, hbz⟩ : ∃ z, way[j + 1]? = some z := ⟨way[j + 1]'(by have := Hlw.out; omega), List.getElem?_eq_getElem _⟩
              have c0 := (hbw0.cell (p := ⟨bk, o + j, none⟩) hbk).trans (hcell j a haj)
              have c1 := (hbw0.cell (p := ⟨bk, o + (j + 1), none⟩) hbk).trans (hcell (j + 1) b hbz)
              have hE := edI_cE Hok.out (Hin.out a (List.mem_of_getElem? haj)) (Hin.out b (List.mem_of_getElem? hbz))
              have hcb := cE_bd (graphOk_pos Hok.out) a.toNat b.toNat
              rw [wayR_drop _ hbz] at hwr
              rw [← hE] at hwr hcb
              obtain ⟨c, hc⟩ : ∃ c, edI es a b = c := ⟨_, rfl⟩
              have HP : Hid (∀ dd os, Calls Try.prog 32 #[grV (.slice na ln nca) (.slice ea le eca), .int .i64 a, .int .i64 b] (Go.Sort.grow (redrawn wr dd) os) fun e w' => e = .returned (.int .i64 c) ∧ Below (Go.Sort.grow (redrawn wr dd) os).heap.size (Go.Sort.grow (redrawn wr dd) os) w') := hidIn fun dd os => by
                have := edge_any (HG.out.keep (hbw0.trans ((below_regrown wr dd os).mono hbw0.size)) (Nat.le_refl _)) a b
                rwa [hc] at this
              rw [hc] at hwr hcb
              have g0 := cell_regrown f0
              have g1 := cell_regrown f1
              have g2 := cell_regrown c0
              have g3 := cell_regrown c1
              have HRw := hidIn hbw
              have Hwr := hidIn hwr
              have Hbz := hidIn hbz
              have hjn : ((j : Int) + 1) = ((j + 1 : Nat) : Int) := by omega
              rw [hjn] at hji ⊢
              have hwq : IntKind.i64.wrap (((j + 1 : Nat) : Int) - 1) = (j : Int) := by rw [IntKind.wrap_i64]; omega
              clear hcell hbw haj hwr hbw0 HR hbz hE hc c0 c1 hsub hjn
              go_upto_region 12 with fail
              refine wp_region_quiet_below (by kernel_rfl) (by kernel_rfl) ?_
              repeat (go_big_quiet_step (first | (go_at_call 32; exact Calls.regrown_of (HP.out _ _))))
              refine wpQuiet_nil ?_
              intro _ hw'
              obtain ⟨⟨dq, osq⟩, hw''⟩ := hw'
              subst hw''
              have HRy := hidIn (HRw.out.trans ((below_regrown wr dq osq).mono HRw.out.size))
              generalize Go.Sort.grow (redrawn wr dq) osq = wy at HRy ⊢
              clear g0 g1 g2 g3 HP HRw f0 f1 hwq
              by_cases hc0 : c = 0
              · have HE : Hid (wayA ns es way = (0, 6)) := hidIn (by rw [HWA.out, Hwr.out, if_pos hc0])
                have HBe := hidIn (HF.out wy HRy.out).2
                have hq : (c == 0) = true := by simpa using hc0
                clear hc0
                go_wp2_with fail
                go_ret2
                exact ⟨by rw [HE.out]; rfl, HBe.out⟩
              · have HE := hidIn (Hwr.out.trans (if_neg hc0))
                have hq : (c == 0) = false := by simpa using hc0
                clear hc0
                go_wp2_with fail
                go_roundw
                case rel => exact ⟨j + 1, s + c, b, by omega, by go_num, by go_num, hidIn ⟨HRy.out, Hbz.out, by omega, by omega, HE.out⟩⟩
                case measure => simp [intOf]; omega
            · have hji : ¬ (j : Int) + 1 < (lw : Int) := by omega
              have HE : Hid (wayA ns es way = (s, 0)) := hidIn (by
                rw [HWA.out, hwr, List.drop_eq_nil_of_le (by have := Hlw.out; omega)]
                rfl)
              have HBe := hidIn hbw0
              clear hbw haj hs0 hs1 hwr hbw0 HR
              go_wp2_with fail
              go_ret2
              exact ⟨by rw [HE.out]; rfl, HBe.out⟩
end Go.Proofs.Ytabnecicidkmhaa
namespace Go.Proofs.Ytabnecicidkmhaa
open Go.RowKit

theorem graphOk_lt {ns : List Int} {es : List Ed} (hok : graphOk ns es = true) : ns.Pairwise fun a b => a < b := by
  simp only [graphOk, Bool.and_eq_true] at hok
  have key : ∀ (ns : List Int) (last : Int), nodesOk last ns = true → ns.Pairwise fun a b => a < b := fun ns => by
    induction ns with
    | nil => intro _ _; exact List.Pairwise.nil
    | cons m ns ih =>
      intro last hm
      have hm' : nodesOk m ns = true := by
        simp only [nodesOk, Bool.and_eq_true] at hm
        exact hm.2.2
      exact List.pairwise_cons.2 ⟨fun y hy => (nodesOk_bd ns m hm' y hy).2.2, ih m hm'⟩
  exact key ns 0 hok.1
theorem nodes_lt {ns : List Int} {es : List Ed} (hok : graphOk ns es = true) {i j : Nat} {x y : Int} (hx : ns[i]? = some x) (hy : ns[j]? = some y) (h : i < j) : x < y := by
  obtain ⟨hi, rfl⟩ := List.getElem?_eq_some_iff.1 hx
  obtain ⟨hj, rfl⟩ := List.getElem?_eq_some_iff.1 hy
  exact List.pairwise_iff_getElem.1 (graphOk_lt hok) i j hi hj h
theorem edI_mem {es : List Ed} {a b : Int} (h : edI es a b ≠ 0) : (a, b, edI es a b) ∈ es := by
  unfold edI at h ⊢
  cases hf : es.find? (fun e => e.1 == a && e.2.1 == b) with
  | none => rw [hf] at h; exact absurd rfl h
  | some e =>
    have h1 := List.mem_of_find?_eq_some hf
    have h2 := List.find?_some hf
    simp only [Bool.and_eq_true, beq_iff_eq] at h2
    rw [← h2.1, ← h2.2]
    exact h1
theorem edI_of {ns : List Int} {es : List Ed} (hok : graphOk ns es = true) {a b c : Int} (h : (a, b, c) ∈ es) : edI es a b = c := by
  obtain ⟨h1, h2⟩ := (graphOk_bd hok).2.1 _ h
  rw [edI_cE hok h1 h2]
  exact graphOk_cE hok h
theorem wl_len {es : List Ed} (hp : PosE es) {r x c : Int} {l : List Int} (k : Wl es r l x c) : (l.length : Int) ≤ c + 1 :=
  k (fun l _ c => (l.length : Int) ≤ c + 1) (by simp) (fun e he l c h => by
    have := (hp e he).1
    simp only [List.length_append, List.length_cons, List.length_nil]
    omega)
/-- What a way that is or is not must be. -/
def FstOk (es : List Ed) (a b : Int) : Option (List Int) → Prop
  | none => ∀ d, ¬ Ds es a b d
  | some l => ∃ d, Ds es a b d ∧ IsFst es a b d l
/-- The graph's own cells, and a node's, while a region is gone through. -/
def S13 (q : Nat) (na : Option Addr) (nca ln : Nat) (ea : Option Addr) (eca le nb no : Nat) (y : Option Int) (wx : World) : Prop := wx.cell? ⟨q, 0, none⟩ = some (.slice na ln nca) ∧ wx.cell? ⟨q, 1, none⟩ = some (.slice ea le eca) ∧ ∀ z, y = some z → wx.cell? ⟨nb, no, none⟩ = some (.int .i64 z)
theorem S13.keep {q : Nat} {na : Option Addr} {nca ln : Nat} {ea : Option Addr} {eca le nb no : Nat} {y : Option Int} {wx wy : World} (h : S13 q na nca ln ea eca le nb no y wx) (hb : Below wx.heap.size wx wy) : S13 q na nca ln ea eca le nb no y wy :=
  ⟨(hb.cell (p := ⟨q, 0, none⟩) (block_lt_of_cell h.1)).trans h.1, (hb.cell (p := ⟨q, 1, none⟩) (block_lt_of_cell h.2.1)).trans h.2.1, fun z e => (hb.cell (p := ⟨nb, no, none⟩) (block_lt_of_cell (h.2.2 z e))).trans (h.2.2 z e)⟩
/-- As far as a way has been found. -/
structure FdM (w0 w : World) (es : List Ed) (b : Int) (L : List Int) (d x : Int) (k : Nat) (v : Value) : Prop where
  bl : Below w0.heap.size w0 w
  r : ∃ done rest, k = done.length + 1 ∧ w.ownsRow w0.heap.size 3 1 v k (fl ic (done ++ [x])) ∧ L = done ++ rest ∧ IsFst es x b d rest ∧ k ≤ 24001
  d : Ds es x b d
theorem FdM.keep {w0 w w' : World} {es : List Ed} {b : Int} {L : List Int} {d x : Int} {k : Nat} {v : Value} (h : FdM w0 w es b L d x k v) (hb : Below w.heap.size w w') : FdM w0 w' es b L d x k v := by
  obtain ⟨done, rest, h1, h2, h3⟩ := h.r
  exact ⟨h.bl.trans (hb.mono h.bl.size), ⟨done, rest, h1, row_below h2 hb (Nat.le_refl _), h3⟩, h.d⟩
structure FsR (w0 w : World) (k : Nat) (v : Value) (l : List Int) : Prop where
  b : Below w0.heap.size w0 w
  r : w.ownsRow w0.heap.size 3 1 v k (fl ic l)
theorem FsR.keep {w0 w w' : World} {k : Nat} {v : Value} {l : List Int} (h : FsR w0 w k v l) (hb : Below w.heap.size w w') : FsR w0 w' k v l := ⟨h.b.trans (hb.mono h.b.size), row_below h.r hb (Nat.le_refl _)⟩
theorem row_one1 {w : World} {B : Nat} (a : Int) (hB : B ≤ w.heap.size) : (w.alloc (.cells #[.int .i64 a] 3)).ownsRow B 3 1 (.slice (some ⟨w.heap.size, 0, none⟩) 1 1) 1 (fl ic [a]) :=
  ⟨rfl, .inr ⟨w.heap.size, 1, #[.int .i64 a], rfl, hB, heap_alloc_last w _, Nat.le_refl _, by unfold maxLen; omega, rfl, rfl⟩⟩
set_option maxRecDepth 100000 in
set_option maxHeartbeats 4000000 in
theorem dfirst_any {ns : List Int} {es : List Ed} {vn ve : Value} {w : World} (h : GrAt w vn ve ns es) (a b : Int) {L : Option (List Int)} (hL : ndAll ns es [a, b] = true → FstOk es a b L) :
    Calls Try.prog 19 #[grV vn ve, .int .i64 a, .int .i64 b] w fun e w' => ((ndAll ns es [a, b] = false ∧ e = .returned (.tuple #[.slice none 0 0, .int .i64 2])) ∨ (ndAll ns es [a, b] = true ∧ FstAns w' e L)) ∧ Below w.heap.size w w' := by
  have HLo := hidIn hL
  clear hL
  have HGr := hidIn h
  obtain ⟨na, nca, rfl, hnl, _, hna⟩ := h.n.ints
  obtain ⟨ea, eca, rfl, hel, _, hea⟩ := h.e.eds
  have Hna := hidIn hna
  have Hea := hidIn hea
  obtain ⟨W1, hW1⟩ : ∃ W1, w.alloc (.cells #[.slice na ns.length nca, .slice ea es.length eca] 25) = W1 := ⟨_, rfl⟩
  have bA : Below w.heap.size w W1 := by rw [← hW1]; exact (Below.refl _ w).alloc (Nat.le_refl _) _
  have hGB : W1.heap[w.heap.size]? = some (.cells #[.slice na ns.length nca, .slice ea es.length eca] 25) := by rw [← hW1]; exact heap_alloc_last w _
  obtain ⟨q, hqe⟩ : ∃ q, w.heap.size = q := ⟨_, rfl⟩
  rw [hqe] at hGB
  have hlt0 := block_lt hGB
  have HF : Hid (∀ wq, Below W1.heap.size W1 wq → (wq.cell? ⟨q, 0, none⟩ = some (.slice na ns.length nca) ∧ wq.cell? ⟨q, 1, none⟩ = some (.slice ea es.length eca)) ∧ Below w.heap.size w wq) := hidIn fun wq h => by
    have j0 := (h.block _ hlt0).trans hGB
    exact ⟨⟨cell_of_row _ _ 0 _ _ _ j0, cell_of_row _ _ 1 _ _ _ j0⟩, bA.trans (h.mono bA.size)⟩
  have HW := hidIn hW1
  have HCk := hidIn (gcheck_any (h.keep bA (Nat.le_refl _)))
  obtain ⟨ln, hln⟩ : ∃ ln, ns.length = ln := ⟨_, rfl⟩
  obtain ⟨le, hle⟩ : ∃ le, es.length = le := ⟨_, rfl⟩
  have hgr := HGr.out
  rw [hln, hle] at hgr
  have HG := hidIn hgr
  have HP : Hid (∀ z wq, Below w.heap.size w wq → Calls Try.prog 26 #[grV (.slice na ln nca) (.slice ea le eca), .int .i64 z] wq fun e w' => e = .returned (.int .i64 (plI ns z)) ∧ Below wq.heap.size wq w') := hidIn fun z wq hq => place_any (hgr.keep hq (Nat.le_refl _)) z
  have HCo : Hid (graphOk ns es = true → ∀ z wq, Below w.heap.size w wq → Calls Try.prog 34 #[grV (.slice na ln nca) (.slice ea le eca), .int .i64 z] wq fun e w' => (∃ a' c, e = .returned (.slice a' ln c) ∧ w'.ownsRow wq.heap.size 3 1 (.slice a' ln c) ln (fl ic (ns.map (bfN es z ln)))) ∧ Below wq.heap.size wq w') := hidIn fun hok z wq hq => by
    have := costs_any (hgr.keep hq (Nat.le_refl _)) hok z
    rwa [hln] at this
  rw [hln] at hnl HF HW HCk ⊢
  rw [hle] at hel HF HW HCk ⊢
  have Hln := hidIn hln
  have Hle := hidIn hle
  have HB1 := hidIn bA
  have Hq0 := hidIn hlt0
  clear hW1 bA hGB hna hea h hln hle hlt0 hgr HGr
  obtain ⟨⟨f0, f1⟩, _⟩ := HF.out W1 (Below.refl _ _)
  go_enter Try.func19, Try.ntmps19
  go_upto_region 1 with fail
  rw [HW.out]
  clear HW hqe
  go_wp2_with fail
  refine HCk.out.mono ?_
  rintro e w2 ⟨rfl, hb2⟩
  have HB2 := hidIn hb2
  obtain ⟨⟨k0, k1⟩, hB2⟩ := HF.out w2 hb2
  have HB2w := hidIn hB2
  clear hb2 HCk f0 f1 hB2
  cases hok : graphOk ns es with
  | false =>
    have HE : Hid (ndAll ns es [a, b] = false) := hidIn (by unfold ndAll; rw [hok]; rfl)
    rw [ckC_no hok]
    clear hok
    go_wp2_with fail
    go_ret2
    exact ⟨.inl ⟨HE.out, rfl⟩, HB2w.out⟩
  | true =>
    rw [ckC_yes hok]
    have Hok := hidIn hok
    clear hok
    go_wp2_with fail
    refine (HP.out a w2 HB2w.out).mono ?_
    rintro e w3 ⟨rfl, hb3⟩
    have HB3 := hidIn (HB2.out.trans (hb3.mono HB2.out.size))
    obtain ⟨⟨f0, f1⟩, hB3⟩ := HF.out w3 HB3.out
    have HB3w := hidIn hB3
    clear hb3 hB3 k0 k1
    rcases Classical.em (a ∈ ns) with han | han
    rotate_left
    · have hng : plI ns a < 0 := plI_neg.2 han
      have HE : Hid (ndAll ns es [a, b] = false) := hidIn (by
        unfold ndAll
        rw [Hok.out, Bool.true_and, List.all_eq_false]
        exact ⟨a, by simp, fun e => han (hasN_iff.1 e)⟩)
      generalize plI ns a = pz at hng ⊢
      clear han
      go_wp2_with fail
      go_ret2
      exact ⟨.inl ⟨HE.out, rfl⟩, HB3w.out⟩
    obtain ⟨pa, hpa⟩ : ∃ pa, ns[pa]? = some a := List.getElem?_of_mem han
    have hia := plI_some (plN_nodup (graphOk_nn Hok.out) hpa)
    have Hia := hidIn hia
    rw [hia]
    have hpn : ¬ (pa : Int) < 0 := by omega
    have Han := hidIn han
    have Hpa := hidIn hpa
    clear hia han hpa
    go_wp2_with fail
    refine (HP.out b w3 HB3w.out).mono ?_
    rintro e w4 ⟨rfl, hb4⟩
    have HB4 := hidIn (HB3.out.trans (hb4.mono HB3.out.size))
    obtain ⟨⟨k0, k1⟩, hB4⟩ := HF.out w4 HB4.out
    have HB4w := hidIn hB4
    clear hb4 hB4 f0 f1
    rcases Classical.em (b ∈ ns) with hbn | hbn
    rotate_left
    · have hng : plI ns b < 0 := plI_neg.2 hbn
      have HE : Hid (ndAll ns es [a, b] = false) := hidIn (by
        unfold ndAll
        rw [Hok.out, Bool.true_and, List.all_eq_false]
        exact ⟨b, by simp, fun e => hbn (hasN_iff.1 e)⟩)
      generalize plI ns b = pz at hng ⊢
      clear hbn
      go_wp2_with fail
      go_ret2
      exact ⟨.inl ⟨HE.out, rfl⟩, HB4w.out⟩
    obtain ⟨pb, hpb⟩ : ∃ pb, ns[pb]? = some b := List.getElem?_of_mem hbn
    have hib := plI_some (plN_nodup (graphOk_nn Hok.out) hpb)
    have Hib := hidIn hib
    rw [hib]
    have hpn2 : ¬ (pb : Int) < 0 := by omega
    have HY : Hid (ndAll ns es [a, b] = true) := hidIn (by
      unfold ndAll
      rw [Hok.out, Bool.true_and, List.all_eq_true]
      intro x hx
      simp only [List.mem_cons, List.not_mem_nil, or_false] at hx
      rcases hx with rfl | rfl
      · exact hasN_iff.2 Han.out
      · exact hasN_iff.2 hbn)
    have Hpb := hidIn hpb
    have hpal : pa < ln := by have := (List.getElem?_eq_some_iff.1 Hpa.out).1; have := Hln.out; omega
    have hpbl : pb < ln := by have := (List.getElem?_eq_some_iff.1 hpb).1; have := Hln.out; omega
    have hl24 : ln ≤ 24 := by have := graphOk_n24 Hok.out; have := Hln.out; omega
    have hpai : (pa : Int) < (ln : Int) := by omega
    have hpbi : (pb : Int) < (ln : Int) := by omega
    clear hib hbn hpb
    have hLo := HLo.out HY.out
    obtain ⟨hDb0, hDb1⟩ : 0 ≤ bfN es a ln b ∧ bfN es a ln b ≤ 1073741824 := by
      have := bf_all Hok.out Han.out b
      rw [Hln.out] at this
      rcases this with ⟨d, _, h1, h2, h3⟩ | ⟨_, h1⟩
      · omega
      · rw [h1]; unfold farC; omega
    have HS0 : Hid (S13 q na nca ln ea eca le 0 0 none w4.drew) := hidIn ⟨k0, k1, fun z e => by cases e⟩
    have HBd : Hid (Below w.heap.size w w4.drew) := hidIn HB4w.out.drew
    have HB4d : Hid (Below W1.heap.size W1 w4.drew) := hidIn HB4.out.drew
    have HLo2 := hidIn hLo
    clear hLo
    go_upto_region 3 with fail
    refine wp_region_held_drew (S := S13 q na nca ln ea eca le 0 0 none) (by kernel_rfl) HS0.out (fun hHeld => ?_)
    refine wpAnyH_take (i := 0) (v := .agg #[.slice na ln nca, .slice ea le eca]) rfl (by kernel_rfl) (by kernel_rfl) (by kernel_rfl) (fun _ _ _ h => h) (Or.inl ⟨by kernel_rfl, fun wq hSw => by
        obtain ⟨s0, s1, s2⟩ := hSw
        go_simp⟩) (by assumption) ?_
    refine wpAnyH_take (i := 1) (v := .int .i64 a) rfl (by kernel_rfl) (by kernel_rfl) (by kernel_rfl) (fun _ _ _ h => h) (Or.inl ⟨by kernel_rfl, fun _ _ => by kernel_rfl⟩) (by assumption) ?_
    refine wpAnyH_take (i := 3) (v := .agg #[.slice na ln nca, .slice ea le eca]) rfl (by kernel_rfl) (by kernel_rfl) (by kernel_rfl) (fun _ _ _ h => h) (Or.inl ⟨by kernel_rfl, fun wq hSw => by
        obtain ⟨s0, s1, s2⟩ := hSw
        go_simp⟩) (by assumption) ?_
    refine wpAnyH_take (i := 4) (v := .int .i64 b) rfl (by kernel_rfl) (by kernel_rfl) (by kernel_rfl) (fun _ _ _ h => h) (Or.inl ⟨by kernel_rfl, fun _ _ => by kernel_rfl⟩) (by assumption) ?_
    refine wpAnyH_ready (rs := [2]) (by kernel_rfl) (by simp) ?_
    refine AllReadyH.cons (i := 2) rfl ?_ AllReadyH.nil
    go_simp
    intro K hK
    refine (HCo.out Hok.out a _ HBd.out).mono ?_
    rintro e wC ⟨⟨ca, cc, rfl, hrC⟩, hbC⟩
    obtain ⟨g, rfl, hgb, hgc, _⟩ := rowI_open hrC (by rw [List.length_map]; exact Hln.out) (by omega)
    have cd := hgc pb (bfN es a ln b) (by rw [List.getElem?_map, Hpb.out]; rfl)
    have hSC := hHeld.keep hbC
    have HBC := hidIn (HBd.out.trans (hbC.mono HBd.out.size))
    have HB1C := hidIn (HB4d.out.trans (hbC.mono HB4d.out.size))
    refine hK.out _ _ hSC (fun _ => ?_)
    clear hK K hHeld hgc hgb hrC hbC
    refine wpAnyH_ready (rs := [5]) (by kernel_rfl) (by simp) ?_
    refine AllReadyH.cons (i := 5) rfl ?_ AllReadyH.nil
    go_simp
    intro K hK
    refine (HP.out b _ HBC.out).mono ?_
    rintro e wD ⟨rfl, hbD⟩
    rw [Hib.out]
    have hSD := hSC.keep hbD
    have HB1D := hidIn (HB1C.out.trans (hbD.mono HB1C.out.size))
    have cd2 := (hbD.cell (p := ⟨g, pb, none⟩) (block_lt_of_cell cd)).trans cd
    refine hK.out _ _ hSD (fun _ => ?_)
    clear hK K hSC hbD cd HBC HB1C
    refine wpAnyH_take (i := 6) (v := .pointer (some ⟨g, pb, none⟩)) rfl (by kernel_rfl) (by kernel_rfl) (by kernel_rfl) (fun _ _ _ h => h) (Or.inl ⟨by kernel_rfl, fun wq hSw => by
        obtain ⟨s0, s1, s2⟩ := hSw
        go_simp⟩) (by assumption) ?_
    refine wpAnyH_ready (rs := [7]) (by kernel_rfl) (by simp) ?_
    refine AllReadyH.cons (i := 7) rfl ?_ AllReadyH.nil
    go_simp
    intro K hK
    refine hK.out _ _ hSD (fun _ => ?_)
    clear hK K
    refine wpAnyH_take (i := 8) (v := .int .i64 (bfN es a ln b)) rfl (by kernel_rfl) (by kernel_rfl) (by kernel_rfl) (fun _ _ _ h => h) (Or.inl ⟨by kernel_rfl, fun _ _ => by kernel_rfl⟩) (by assumption) ?_
    refine wpAnyH_done (by kernel_rfl) ?_ _
    clear hSD cd2 k0 k1 HS0 HBd HB4d HB4 HB4w HB3 HB3w HB2 HB2w
    rcases bf_all Hok.out Han.out b with ⟨d0, hd0, hbe, hd1, hd2⟩ | ⟨hno, hbe⟩
    rotate_left
    · rw [Hln.out] at hbe
      have HA : Hid (L = none) := hidIn (by
        have := HLo2.out
        cases hL : L with
        | none => rfl
        | some l => rw [hL] at this; obtain ⟨d, h1, _⟩ := this; exact absurd h1 (hno d))
      rw [hbe]
      have hfar : farC = 1073741824 := rfl
      rw [hfar]
      have HBe := hidIn (HF.out wD HB1D.out).2
      clear hbe hno hfar
      go_wp2_with fail
      go_ret2
      exact ⟨.inr ⟨HY.out, by rw [HA.out]; rfl⟩, HBe.out⟩
    rw [Hln.out] at hbe hd2
    rw [hbe]
    obtain ⟨l0, hl0⟩ : ∃ l, L = some l := by
      have := HLo2.out
      cases hL : L with
      | none => rw [hL] at this; exact absurd hd0 (this d0)
      | some l => exact ⟨l, rfl⟩
    have hf0 : IsFst es a b d0 l0 := by
      have := HLo2.out
      rw [hl0] at this
      obtain ⟨d, h1, h2⟩ := this
      rwa [h1.uniq hd0] at h2
    subst hl0
    have hM0 : FdM W1 (wD.alloc (.cells #[.int .i64 a] 3)) es b l0 d0 a 1 (.slice (some ⟨wD.heap.size, 0, none⟩) 1 1) := ⟨HB1D.out.alloc HB1D.out.size _, ⟨[], l0, rfl, row_one1 a HB1D.out.size, rfl, hf0, by omega⟩, hd0⟩
    have HM0 := hidIn hM0
    have hf0L := hidIn hf0
    have hd0L := hidIn hd2
    have hng : ¬ (1073741824 ≤ d0) := by omega
    have hng2 : decide (d0 ≥ 1073741824) = false := by simpa using hng
    clear hbe hd0 hf0 hM0 hDb0 hDb1 HB1D HLo2 HLo
    go_wp2_with fail
    go_loopw [8, 9, 10] (fun lf ov at' wr => ∃ (d x : Int) (k : Nat) (oa : Option Addr) (oc : Nat), lf = .int .i64 d ∧ ov = .slice oa k oc ∧ at' = .int .i64 x ∧ 0 ≤ d ∧ d ≤ 24000 ∧ Hid (FdM W1 wr es b l0 d x k (.slice oa k oc) ∧ x ∈ ns)) (fun lf _ _ _ => (intOf lf).toNat)
    case atStart => exact ⟨d0, a, 1, _, _, rfl, rfl, rfl, hd1, by omega, hidIn ⟨HM0.out, Han.out⟩⟩
    case round =>
      obtain ⟨d, x, ok, oa, oc, rfl, rfl, rfl, hdp, hdq, HM⟩ := hrel
      clear HM0 hd1 hd2 hng hng2
      rcases Classical.em (x = b) with hxb | hxb
      · have hq : (x != b) = false := by simpa using hxb
        have HE : Hid (SlAt ic 1 wr (.slice oa ok oc) l0 ∧ 0 < l0.length) := hidIn (by
          obtain ⟨done, rest, h1, h2, h3, h4, h5⟩ := HM.out.1.r
          have h6 := HM.out.1.d
          rw [hxb] at h4 h6 h2
          have h7 := fst_end Hok.out h4 h6
          rw [h3, h7]
          exact ⟨slAt_of_row (cs := ic) (fun _ => rfl) h2 (by rw [List.length_append, h1]; rfl), by simp⟩)
        have HBe := hidIn (HF.out wr HM.out.1.bl).2
        clear hxb
        go_wp2_with fail
        go_ret2
        exact ⟨.inr ⟨HY.out, _, rfl, HE.out.1, HE.out.2⟩, HBe.out⟩
      · have hq : (x != b) = true := by simpa using hxb
        obtain ⟨done, rest, hk1, hrow, hl0, hfr, hk2⟩ := HM.out.1.r
        obtain ⟨n, l', c, hre, hem, hdn, hfn, hmin⟩ := fst_next hfr HM.out.1.d hxb
        have hnn := ((graphOk_bd Hok.out).2.1 _ hem).2
        simp only at hnn
        obtain ⟨pn, hpn'⟩ : ∃ pn, ns[pn]? = some n := List.getElem?_of_mem hnn
        have hpl : pn < ln := by have := (List.getElem?_eq_some_iff.1 hpn').1; have := Hln.out; omega
        have HN := hidIn (And.intro hem (And.intro hdn (And.intro hfn (And.intro hmin (And.intro hpn' (And.intro hl0 (And.intro hre hk1)))))))
        have HR : Hid (FsR W1 wr ok (.slice oa ok oc) (done ++ [x])) := hidIn ⟨HM.out.1.bl, hrow⟩
        have HXn := hidIn HM.out.2
        have hc1 := (graphOk_pos Hok.out _ hem)
        simp only at hc1
        have HCb : Hid (0 ≤ d - c) := hidIn (by
          obtain ⟨hh, hw⟩ := hdn.1
          have := (hw.pos (graphOk_pos Hok.out)).1
          omega)
        clear hxb hrow hl0 hfr hre hem hdn hfn hmin hnn hpn' hk1 HM
        go_wp2_with fail
        go_loopw [8, 9, 10, 11] (fun lf ov at' i wi => ∃ k : Nat, k ≤ pn ∧ lf = .int .i64 d ∧ ov = .slice oa ok oc ∧ at' = .int .i64 x ∧ i = .int .i64 k ∧ Hid (FsR W1 wi ok (.slice oa ok oc) (done ++ [x]))) (fun _ _ _ i _ => pn + 1 - (intOf i).toNat)
        case atStart => exact ⟨0, Nat.zero_le _, rfl, rfl, rfl, rfl, HR⟩
        case round =>
          clear HR
          obtain ⟨k, hk, rfl, rfl, rfl, rfl, HR⟩ := hrel
          obtain ⟨⟨f0, f1⟩, hbw0⟩ := HF.out wr HR.out.b
          obtain ⟨nb, no', rfl, hnb, hncell⟩ := Hna.out (by have := Hln.out; omega)
          have hki : (k : Int) < (ln : Int) := by omega
          obtain ⟨y, hy⟩ : ∃ z, ns[k]? = some z := ⟨ns[k]'(by have := Hln.out; omega), List.getElem?_eq_getElem _⟩
          have c0 := (hbw0.cell (p := ⟨nb, no' + k, none⟩) hnb).trans (hncell k y hy)
          obtain ⟨c', hc'⟩ : ∃ c', edI es x y = c' := ⟨_, rfl⟩
          have hyn : y ∈ ns := List.mem_of_getElem? hy
          obtain ⟨dy, hdy⟩ : ∃ dy, bfN es y ln b = dy := ⟨_, rfl⟩
          have hDy : 0 ≤ dy ∧ dy ≤ 1073741824 := by
            have := bf_all Hok.out hyn b
            rw [Hln.out, hdy] at this
            rcases this with ⟨d, _, h1, h2, h3⟩ | ⟨_, h1⟩
            · omega
            · rw [h1]; unfold farC; omega
          have hcb : 0 ≤ c' ∧ c' ≤ 1000 := by
            have hE := edI_cE Hok.out HXn.out hyn
            have := cE_bd (graphOk_pos Hok.out) x.toNat y.toNat
            omega
          have HYes : Hid (k = pn → y = n ∧ c' = c ∧ c' + dy = d) := hidIn fun e => by
            subst e
            obtain ⟨hem, hdn, _, _, hpn', _⟩ := HN.out
            have hyn2 : y = n := by rw [hy] at hpn'; exact Option.some.inj hpn'
            subst hyn2
            have h1 := edI_of Hok.out hem
            refine ⟨rfl, by omega, ?_⟩
            rcases bf_all Hok.out hyn b with ⟨d1, h2, h3, _⟩ | ⟨h2, _⟩
            · have := h2.uniq hdn
              rw [Hln.out] at h3
              omega
            · exact absurd hdn (h2 _)
          have HNo : Hid (k < pn → 0 < c' → c' + dy ≠ d) := hidIn fun e hp he => by
            obtain ⟨hem, hdn, _, hmin, hpn', _⟩ := HN.out
            have hm := edI_mem (es := es) (a := x) (b := y) (by omega)
            rw [hc'] at hm
            have h3 : Ds es y b (d - c') := by
              have := (bf_d Hok.out hyn (x := b) (by rw [Hln.out, hdy]; unfold farC; omega)).1
              rw [Hln.out, hdy] at this
              rwa [show d - c' = dy by omega]
            have h4 := hmin y c' hm h3
            have h5 := nodes_lt Hok.out hy hpn' e
            omega
          have HP2 : Hid (∀ dd os, Calls Try.prog 32 #[grV (.slice (some ⟨nb, no', none⟩) ln nca) (.slice ea le eca), .int .i64 x, .int .i64 y] (Go.Sort.grow (redrawn wr dd) os) fun e w' => e = .returned (.int .i64 c') ∧ Below (Go.Sort.grow (redrawn wr dd) os).heap.size (Go.Sort.grow (redrawn wr dd) os) w') := hidIn fun dd os => by
            have := edge_any (HG.out.keep (hbw0.trans ((below_regrown wr dd os).mono hbw0.size)) (Nat.le_refl _)) x y
            rwa [hc'] at this
          have g0 := cell_regrown f0
          have g1 := cell_regrown f1
          have g2 := cell_regrown c0
          have HC0 := hidIn c0
          have Hdy := hidIn hdy
          clear hncell hbw0 hc' hy hyn hdy c0 hnb
          go_upto_region 12 with fail
          refine wp_region_quiet_below (by kernel_rfl) (by kernel_rfl) ?_
          repeat (go_big_quiet_step (first | (go_at_call 32; exact Calls.regrown_of (HP2.out _ _))))
          refine wpQuiet_nil ?_
          intro _ hw'
          obtain ⟨⟨dq, osq⟩, hw''⟩ := hw'
          subst hw''
          have hb := below_regrown wr dq osq
          have HRv := hidIn (HR.out.keep hb)
          have c1 := (hb.cell (p := ⟨nb, no' + k, none⟩) (block_lt_of_cell HC0.out)).trans HC0.out
          generalize Go.Sort.grow (redrawn wr dq) osq = wv at HRv c1 ⊢
          clear hb g0 g1 g2 f0 f1 HP2 HC0 HR
          obtain ⟨⟨f0, f1⟩, hbv⟩ := HF.out wv HRv.out.b
          by_cases hc0 : c' = 0
          · subst hc0
            have hkn : k < pn := by
              rcases Nat.lt_or_ge k pn with h1 | h1
              · exact h1
              · have := (HYes.out (by omega)).2.1; omega
            clear hbv HYes HNo hcb hDy f0 f1 c1
            go_upto_region 13 with fail
            go_quiet (fail)
            go_wp2_with fail
            go_roundw
            case rel => exact ⟨k + 1, by omega, rfl, rfl, rfl, by go_num, hidIn (HRv.out.keep (below_drewN (Below.refl _ _) _))⟩
            case measure => simp [intOf]; omega
          · have hcp : 0 < c' := by omega
            have hcp2 : decide (c' > 0) = true := by simpa using hcp
            have HS0 : Hid (S13 q (some ⟨nb, no', none⟩) nca ln ea eca le nb (no' + k) (some y) wv.drew) := hidIn ⟨f0, f1, fun z e => by cases e; exact c1⟩
            have HBd : Hid (Below w.heap.size w wv.drew) := hidIn hbv.drew
            have HMd : Hid (FsR W1 wv.drew ok (.slice oa ok oc) (done ++ [x])) := hidIn (HRv.out.keep (Below.refl _ wv).drew)
            clear hbv hc0 f0 f1 c1
            go_upto_region 13 with fail
            refine wp_region_held_drew (S := S13 q (some ⟨nb, no', none⟩) nca ln ea eca le nb (no' + k) (some y)) (by kernel_rfl) HS0.out (fun hHeld => ?_)
            refine wpAnyH_take (i := 0) (v := .int .i64 c') rfl (by kernel_rfl) (by kernel_rfl) (by kernel_rfl) (fun _ _ _ h => h) (Or.inl ⟨by kernel_rfl, fun _ _ => by kernel_rfl⟩) (by assumption) ?_
            refine wpAnyH_take (i := 1) (v := .bool true) rfl (by kernel_rfl) (by kernel_rfl) (by kernel_rfl) (fun _ _ _ h => h) (Or.inl ⟨by kernel_rfl, fun wq hSw => by
                obtain ⟨s0, s1, s2⟩ := hSw
                go_simp⟩) (by assumption) ?_
            refine wpAnyH_take (i := 2) (v := .bool true) rfl (by kernel_rfl) (by kernel_rfl) (by kernel_rfl) (fun _ _ _ h => h) (Or.inl ⟨by kernel_rfl, fun _ _ => by kernel_rfl⟩) (by assumption) ?_
            refine wpAnyH_take (i := 3) (v := .int .i64 c') rfl (by kernel_rfl) (by kernel_rfl) (by kernel_rfl) (fun _ _ _ h => h) (Or.inl ⟨by kernel_rfl, fun _ _ => by kernel_rfl⟩) (by assumption) ?_
            refine wpAnyH_take (i := 4) (v := .agg #[.slice (some ⟨nb, no', none⟩) ln nca, .slice ea le eca]) rfl (by kernel_rfl) (by kernel_rfl) (by kernel_rfl) (fun _ _ _ h => h) (Or.inl ⟨by kernel_rfl, fun wq hSw => by
                obtain ⟨s0, s1, s2⟩ := hSw
                go_simp⟩) (by assumption) ?_
            refine wpAnyH_take (i := 5) (v := .pointer (some ⟨q, 0, none⟩)) rfl (by kernel_rfl) (by kernel_rfl) (by kernel_rfl) (fun _ _ _ h => h) (Or.inl ⟨by kernel_rfl, fun _ _ => by kernel_rfl⟩) (by assumption) ?_
            refine wpAnyH_take (i := 6) (v := .slice (some ⟨nb, no', none⟩) ln nca) rfl (by kernel_rfl) (by kernel_rfl) (by kernel_rfl) (fun _ _ _ h => h) (Or.inl ⟨by kernel_rfl, fun wq hSw => by
                obtain ⟨s0, s1, s2⟩ := hSw
                go_simp⟩) (by assumption) ?_
            refine wpAnyH_take (i := 7) (v := .int .i64 (k : Int)) rfl (by kernel_rfl) (by kernel_rfl) (by kernel_rfl) (fun _ _ _ h => h) (Or.inl ⟨by kernel_rfl, fun _ _ => by kernel_rfl⟩) (by assumption) ?_
            refine wpAnyH_take (i := 8) (v := .pointer (some ⟨nb, no' + k, none⟩)) rfl (by kernel_rfl) (by kernel_rfl) (by kernel_rfl) (fun _ _ _ h => h) (Or.inl ⟨by kernel_rfl, fun wq hSw => by
                obtain ⟨s0, s1, s2⟩ := hSw
                go_simp⟩) (by assumption) ?_
            refine wpAnyH_take (i := 9) (v := .int .i64 y) rfl (by kernel_rfl) (by kernel_rfl) (by kernel_rfl) (fun _ _ _ h => h) (Or.inl ⟨by kernel_rfl, fun wq hSw => by
                obtain ⟨s0, s1, s2⟩ := hSw
                go_simp⟩) (by assumption) ?_
            refine wpAnyH_take (i := 11) (v := .agg #[.slice (some ⟨nb, no', none⟩) ln nca, .slice ea le eca]) rfl (by kernel_rfl) (by kernel_rfl) (by kernel_rfl) (fun _ _ _ h => h) (Or.inl ⟨by kernel_rfl, fun wq hSw => by
                obtain ⟨s0, s1, s2⟩ := hSw
                go_simp⟩) (by assumption) ?_
            refine wpAnyH_take (i := 12) (v := .int .i64 b) rfl (by kernel_rfl) (by kernel_rfl) (by kernel_rfl) (fun _ _ _ h => h) (Or.inl ⟨by kernel_rfl, fun _ _ => by kernel_rfl⟩) (by assumption) ?_
            refine wpAnyH_take (i := 17) (v := .int .i64 d) rfl (by kernel_rfl) (by kernel_rfl) (by kernel_rfl) (fun _ _ _ h => h) (Or.inl ⟨by kernel_rfl, fun _ _ => by kernel_rfl⟩) (by assumption) ?_
            refine wpAnyH_ready (rs := [10]) (by kernel_rfl) (by simp) ?_
            refine AllReadyH.cons (i := 10) rfl ?_ AllReadyH.nil
            go_simp
            intro K hK
            refine (HCo.out Hok.out y _ HBd.out).mono ?_
            rintro e wC ⟨⟨ca, cc, rfl, hrC⟩, hbC⟩
            obtain ⟨g, rfl, hgb, hgc, _⟩ := rowI_open hrC (by rw [List.length_map]; exact Hln.out) (by omega)
            have cd := hgc pb (bfN es y ln b) (by rw [List.getElem?_map, Hpb.out]; rfl)
            have hSC := hHeld.keep hbC
            have HBC := hidIn (HBd.out.trans (hbC.mono HBd.out.size))
            have HMC := hidIn (HMd.out.keep hbC)
            refine hK.out _ _ hSC (fun _ => ?_)
            clear hK K hHeld hgc hgb hrC hbC
            refine wpAnyH_ready (rs := [13]) (by kernel_rfl) (by simp) ?_
            refine AllReadyH.cons (i := 13) rfl ?_ AllReadyH.nil
            go_simp
            intro K hK
            refine (HP.out b _ HBC.out).mono ?_
            rintro e wD ⟨rfl, hbD⟩
            rw [Hib.out]
            have hSD := hSC.keep hbD
            have HMD := hidIn (HMC.out.keep hbD)
            have hSDc := hSD.2.2 y rfl
            have cd2 := (hbD.cell (p := ⟨g, pb, none⟩) (block_lt_of_cell cd)).trans cd
            refine hK.out _ _ hSD (fun _ => ?_)
            clear hK K hSC hbD cd HBC HMC
            refine wpAnyH_take (i := 14) (v := .pointer (some ⟨g, pb, none⟩)) rfl (by kernel_rfl) (by kernel_rfl) (by kernel_rfl) (fun _ _ _ h => h) (Or.inl ⟨by kernel_rfl, fun wq hSw => by
                obtain ⟨s0, s1, s2⟩ := hSw
                go_simp⟩) (by assumption) ?_
            refine wpAnyH_ready (rs := [15]) (by kernel_rfl) (by simp) ?_
            refine AllReadyH.cons (i := 15) rfl ?_ AllReadyH.nil
            go_simp
            intro K hK
            refine hK.out _ _ hSD (fun _ => ?_)
            clear hK K
            refine wpAnyH_take (i := 16) (v := .int .i64 (IntKind.i64.wrap (c' + bfN es y ln b))) rfl (by kernel_rfl) (by kernel_rfl) (by kernel_rfl) (fun _ _ _ h => h) (Or.inl ⟨by kernel_rfl, fun _ _ => by kernel_rfl⟩) (by assumption) ?_
            refine wpAnyH_take (i := 18) (v := .bool (IntKind.i64.wrap (c' + bfN es y ln b) == d)) rfl (by kernel_rfl) (by kernel_rfl) (by kernel_rfl) (fun _ _ _ h => h) (Or.inl ⟨by kernel_rfl, fun wq hSw => by
                obtain ⟨s0, s1, s2⟩ := hSw
                go_simp⟩) (by assumption) ?_
            refine wpAnyH_take (i := 19) (v := .bool (IntKind.i64.wrap (c' + bfN es y ln b) == d)) rfl (by kernel_rfl) (by kernel_rfl) (by kernel_rfl) (fun _ _ _ h => h) (Or.inl ⟨by kernel_rfl, fun _ _ => by kernel_rfl⟩) (by assumption) ?_
            refine wpAnyH_done (by kernel_rfl) ?_ _
            clear hSD cd2 HS0 HBd HMd HRv hcp2
            rw [Hdy.out]
            have hwr : IntKind.i64.wrap (c' + dy) = c' + dy := by rw [IntKind.wrap_i64]; omega
            rw [hwr]
            clear hwr
            rcases Nat.lt_or_ge k pn with hkn | hkn
            · have hq2 : (c' + dy == d) = false := by simpa using HNo.out hkn hcp
              rw [hq2]
              clear HYes HNo hcb hDy hq2
              go_wp2_with fail
              go_roundw
              case rel => exact ⟨k + 1, by omega, rfl, rfl, rfl, by go_num, HMD⟩
              case measure => simp [intOf]; omega
            · have hkp : k = pn := by omega
              obtain ⟨hyn2, hcc, hs⟩ := HYes.out hkp
              have hq2 : (c' + dy == d) = true := by simpa using hs
              rw [hq2]
              obtain ⟨⟨f0, f1⟩, hbv⟩ := HF.out wD HMD.out.b
              have c1 := hSDc
              subst hyn2 hcc
              have Hkp := hidIn hkp
              obtain ⟨g9, gc9, w9, hrun9, hown9, _, _, hb9⟩ := append_int HMD.out.r y (by omega) HMD.out.b.size
              have HRun := hidIn hrun9
              have HFin : Hid (FdM W1 w9 es b l0 (d - c') y (ok + 1) (.slice (some ⟨g9, 0, none⟩) (ok + 1) gc9)) := hidIn (by
                obtain ⟨hem, hdn, hfn, _, _, hl0, hre, hk1⟩ := HN.out
                refine ⟨HMD.out.b.trans hb9, ⟨done ++ [x], l', by rw [List.length_append, hk1]; rfl, hown9, by rw [hl0, hre]; simp, hfn, ?_⟩, hdn⟩
                have h5 := wl_len (graphOk_pos Hok.out) hf0L.out.1
                rw [hl0, hre, List.length_append] at h5
                simp only [List.length_cons] at h5
                have h7 := hd0L.out
                have h6 := wl_starts hfn.1
                obtain ⟨l2, hl2⟩ := h6
                rw [hl2] at h5
                simp only [List.length_cons] at h5
                omega)
              clear hrun9 hown9 hb9 HYes HNo hbv hs hkp hq2 hcb hDy
              go_wp2_with (refine l_append rfl _ _ 22 rfl HRun.out ?_)
              go_roundw
              case rel => exact ⟨d - c', y, ok + 1, _, _, by go_num, rfl, rfl, HCb.out, by omega, hidIn ⟨HFin.out, List.mem_of_getElem? HN.out.2.2.2.2.1⟩⟩
              case measure =>
                have h1 := HCb.out
                simp [intOf]
                omega
end Go.Proofs.Ytabnecicidkmhaa
namespace Go.Proofs.Ytabnecicidkmhaa
open Go.RowKit

theorem base_own {w : World} {base k size : Nat} {e : TypeId} {u : Value} {xs : List Value} (hr : w.ownsRow base e size u k xs) : ∀ j, u.ownBlock = some j → base ≤ j := fun j hj => by
  rcases hr.2 with ⟨rfl, _⟩ | ⟨g, cap, cur, rfl, hb, _⟩
  · simp [Value.ownBlock] at hj
  · simp [Value.ownBlock] at hj; omega
theorem slAt_cut7 {α : Type} {cs : α → List Value} {sz : Nat} {w : World} {a : Option Addr} {n cap : Nat} {l : List α} (h : SlAt cs sz w (.slice a n cap) l) (k : Nat) : SlAt cs sz w (.slice a (l.take k).length cap) (l.take k) := by
  obtain ⟨a', cap', he, h0, h1, h2⟩ := h
  simp only [Value.slice.injEq] at he
  obtain ⟨rfl, _, rfl⟩ := he
  have hl : (l.take k).length ≤ l.length := by rw [List.length_take]; omega
  refine ⟨a, cap, rfl, by omega, by omega, fun hp => ?_⟩
  obtain ⟨bk, o, h3, h4, h5⟩ := h2 (by omega)
  refine ⟨bk, o, h3, h4, fun j x hx => h5 j x ?_⟩
  rw [List.getElem?_take] at hx
  by_cases hj : j < k
  · rwa [if_pos hj] at hx
  · rw [if_neg hj] at hx; cases hx
theorem setG {w : World} {b : Nat} {u v : Value} {t : TypeId} (h : w.heap[b]? = some (.cells #[u, v] t)) (u' v' : Value) : ((w.setCell ⟨b, 0, none⟩ u').setCell ⟨b, 1, none⟩ v').heap[b]? = some (.cells #[u', v'] t) := by
  have h1 := heap_setCell_same w b 0 _ _ u' h
  have h2 := heap_setCell_same _ b 1 _ _ v' h1
  simpa using h2
/-- A graph in rows of its own. -/
structure GrR (w : World) (vn ve : Value) (ns : List Int) (es : List Ed) : Prop where
  n : ∃ B, w.ownsRow B 3 1 vn ns.length (fl ic ns)
  e : ∃ B, w.ownsRow B 54 3 ve es.length (fl ec es)
theorem GrR.at {w : World} {vn ve : Value} {ns : List Int} {es : List Ed} (h : GrR w vn ve ns es) : GrAt w vn ve ns es := by
  obtain ⟨_, h1⟩ := h.n
  obtain ⟨_, h2⟩ := h.e
  exact ⟨slAt_of_row (cs := ic) (fun _ => rfl) h1 rfl, slAt_of_row (cs := ec) (fun _ => rfl) h2 rfl⟩
theorem GrR.keep {w w' : World} {vn ve : Value} {ns : List Int} {es : List Ed} {B : Nat} (h : GrR w vn ve ns es) (hb : Below B w w') (hB : w.heap.size ≤ B) : GrR w' vn ve ns es := by
  obtain ⟨_, h1⟩ := h.n
  obtain ⟨_, h2⟩ := h.e
  exact ⟨⟨_, row_below h1 hb hB⟩, ⟨_, row_below h2 hb hB⟩⟩
theorem row_typed {w : World} {base k size : Nat} {e : TypeId} {u : Value} {xs : List Value} (hr : w.ownsRow base e size u k xs) : ∀ j, u.ownBlock = some j → ∃ cur, w.heap[j]? = some (.cells cur e) := fun j hj => by
  rcases hr.2 with ⟨rfl, _⟩ | ⟨g, cap, cur, rfl, _, h, _⟩
  · simp [Value.ownBlock] at hj
  · simp [Value.ownBlock] at hj
    subst hj
    exact ⟨cur, h⟩
theorem GrR.fr {w w' : World} {vn ve : Value} {ns : List Int} {es : List Ed} {b : Nat} {cs : Array Value} (h : GrR w vn ve ns es) (hF : Fr (fun j => j = b) w w') (hb : w.heap[b]? = some (.cells cs 25)) : GrR w' vn ve ns es := by
  obtain ⟨_, h1⟩ := h.n
  obtain ⟨_, h2⟩ := h.e
  refine ⟨⟨_, row_fr h1 hF fun j hj e => ?_⟩, ⟨_, row_fr h2 hF fun j hj e => ?_⟩⟩
  · obtain ⟨cur, hc⟩ := row_typed h1 j hj
    rw [e, hb] at hc
    simp at hc
  · obtain ⟨cur, hc⟩ := row_typed h2 j hj
    rw [e, hb] at hc
    simp at hc
set_option maxRecDepth 100000 in
set_option maxHeartbeats 2000000 in
theorem gcut_any {ns : List Int} {es : List Ed} {vn ve : Value} {w : World} (h : GrAt w vn ve ns es) (hn : NilOk vn) (he : NilOk ve) :
    Calls Try.prog 5 #[grV vn ve] w fun e w' => (∃ vn' ve', e = .returned (grV vn' ve') ∧ GrR w' vn' ve' (ns.take 30) (es.take 100)) ∧ Below w.heap.size w w' := by
  have hgr := h
  obtain ⟨na, nca, rfl, hnl, hnc, _⟩ := h.n.ints
  obtain ⟨ea, eca, rfl, hel, hec, _⟩ := h.e.eds
  have hs1 := slAt_cut7 h.n 30
  have hs2 := slAt_cut7 h.e 100
  obtain ⟨m1, hm1⟩ : ∃ m1, (ns.take 30).length = m1 := ⟨_, rfl⟩
  obtain ⟨m2, hm2⟩ : ∃ m2, (es.take 100).length = m2 := ⟨_, rfl⟩
  have hl1 : m1 = min ns.length 30 := by rw [← hm1, List.length_take]; omega
  have hl2 : m2 = min es.length 100 := by rw [← hm2, List.length_take]; omega
  rw [hm1] at hs1
  rw [hm2] at hs2
  have hnil1 : (∃ a n c, Value.slice na m1 nca = .slice (some a) n c) ∨ (Value.slice na m1 nca = .slice none 0 0 ∧ Value.slice none 0 0 = .slice none 0 0) := by
    rcases hn with ⟨p, nn, cc, he'⟩ | he'
    · simp only [Value.slice.injEq] at he'
      rw [he'.1]
      exact .inl ⟨_, _, _, rfl⟩
    · simp only [Value.slice.injEq] at he'
      rw [he'.1, he'.2.2, show m1 = 0 by omega]
      exact .inr ⟨rfl, rfl⟩
  have hnil2 : (∃ a n c, Value.slice ea m2 eca = .slice (some a) n c) ∨ (Value.slice ea m2 eca = .slice none 0 0 ∧ Value.slice none 0 0 = .slice none 0 0) := by
    rcases he with ⟨p, nn, cc, he'⟩ | he'
    · simp only [Value.slice.injEq] at he'
      rw [he'.1]
      exact .inl ⟨_, _, _, rfl⟩
    · simp only [Value.slice.injEq] at he'
      rw [he'.1, he'.2.2, show m2 = 0 by omega]
      exact .inr ⟨rfl, rfl⟩
  obtain ⟨W1, hW1⟩ : ∃ W1, (w.alloc (.cells #[.slice na ns.length nca, .slice ea es.length eca] 25)).alloc (.cells #[.slice none 0 0, .slice none 0 0] 25) = W1 := ⟨_, rfl⟩
  have bA : Below w.heap.size w W1 := by rw [← hW1]; exact ((Below.refl _ w).alloc (Nat.le_refl _) _).alloc (by simp) _
  have hGB : W1.heap[w.heap.size]? = some (.cells #[.slice na ns.length nca, .slice ea es.length eca] 25) := by rw [← hW1, Below.heap_alloc _ _ _ (by simp)]; exact heap_alloc_last w _
  have hRB : W1.heap[w.heap.size + 1]? = some (.cells #[.slice none 0 0, .slice none 0 0] 25) := by
    rw [← hW1]
    have := heap_alloc_last (w.alloc (.cells #[.slice na ns.length nca, .slice ea es.length eca] 25)) (.cells #[.slice none 0 0, .slice none 0 0] 25)
    rwa [World.size_alloc] at this
  obtain ⟨v1, w2, hrun1, hrow1, hb2, _⟩ := append_allI (l := []) (World.ownsRow_nil W1 W1.heap.size 3 1) (hs1.keep bA (Nat.le_refl _)) (by rw [hm1]; omega) (Nat.le_refl _) hnil1
  have hB2 := bA.trans (hb2.mono bA.size)
  obtain ⟨v2, w3, hrun2, hrow2, hb3, _⟩ := append_allE (l := []) (World.ownsRow_nil w2 w2.heap.size 54 3) (hs2.keep hB2 (Nat.le_refl _)) (by rw [hm2]; omega) (Nat.le_refl _) hnil2
  rw [List.nil_append, hm1, Nat.zero_add] at hrow1
  rw [List.nil_append, hm2, Nat.zero_add] at hrow2
  obtain ⟨a1, c1, hv1⟩ := row_shape hrow1
  obtain ⟨a2, c2, hv2⟩ := row_shape hrow2
  subst hv1 hv2
  obtain ⟨q, hqe⟩ : ∃ q, w.heap.size = q := ⟨_, rfl⟩
  rw [hqe] at hGB hRB
  have hB3 := hB2.trans (hb3.mono hB2.size)
  have hG2 := (hb2.block _ (block_lt hGB)).trans hGB
  have hR3 := (hb3.block _ (Nat.lt_of_lt_of_le (block_lt hRB) hb2.size)).trans ((hb2.block _ (block_lt hRB)).trans hRB)
  obtain ⟨V, hV, e0, e1, hbV⟩ : ∃ V, (w3.setCell ⟨q + 1, 0, none⟩ (.slice a1 m1 c1)).setCell ⟨q + 1, 1, none⟩ (.slice a2 m2 c2) = V ∧ V.cell? ⟨q + 1, 0, none⟩ = some (.slice a1 m1 c1) ∧ V.cell? ⟨q + 1, 1, none⟩ = some (.slice a2 m2 c2) ∧ (Below w.heap.size w V ∧ GrR V (.slice a1 m1 c1) (.slice a2 m2 c2) (ns.take 30) (es.take 100)) := by
    have hF : Fr (fun j => j = q + 1) w3 ((w3.setCell ⟨q + 1, 0, none⟩ (.slice a1 m1 c1)).setCell ⟨q + 1, 1, none⟩ (.slice a2 m2 c2)) := ((Fr.refl (fun j => j = q + 1) w3).set (p := ⟨q + 1, 0, none⟩) rfl _).set (p := ⟨q + 1, 1, none⟩) rfl _
    have hs := setG hR3 (.slice a1 m1 c1) (.slice a2 m2 c2)
    have hq1 := block_lt hRB
    refine ⟨_, rfl, ?_, ?_, hB3.trans (hF.below hB3.size (fun j hj => by omega)), ?_, ?_⟩
    · rw [cell_of_row _ _ 0 _ _ _ hs]; rfl
    · rw [cell_of_row _ _ 1 _ _ _ hs]; rfl
    · rw [hm1]
      exact ⟨_, row_fr (row_below hrow1 hb3 (Nat.le_refl _)) hF (fun j hj e => by have := base_own hrow1 j hj; omega)⟩
    · rw [hm2]
      exact ⟨_, row_fr hrow2 hF (fun j hj e => by have := base_own hrow2 j hj; have := hb2.size; omega)⟩
  have HV := hidIn hV
  have HbV := hidIn hbV
  have HW := hidIn hW1
  have HR1 := hidIn hrun1
  have HR2 := hidIn hrun2
  have f0 := cell_of_row _ _ 0 _ _ _ hGB
  have k1 := cell_of_row _ _ 1 _ _ _ hG2
  have r0 := cell_of_row _ _ 0 _ _ _ hR3
  have r1 := cell_of_row _ _ 1 _ _ _ hR3
  have z0 := frozen_new hR3 0
  have z1 := frozen_new hR3 1
  simp at f0 k1 r0 r1
  obtain ⟨ln, hln⟩ : ∃ ln, ns.length = ln := ⟨_, rfl⟩
  obtain ⟨le, hle⟩ : ∃ le, es.length = le := ⟨_, rfl⟩
  rw [hln] at hnl hnc f0 HW hl1 ⊢
  rw [hle] at hel hec k1 HW hl2 ⊢
  have hmin1 : min (ln : Int) 30 = (m1 : Int) := by omega
  have hmin2 : min (le : Int) 100 = (m2 : Int) := by omega
  have hif1 : (if (30 : Int) < (ln : Int) then (30 : Int) else (ln : Int)) = (m1 : Int) := by split <;> omega
  have hif2 : (if (100 : Int) < (le : Int) then (100 : Int) else (le : Int)) = (m2 : Int) := by split <;> omega
  have hmc1 : (m1 : Int) ≤ (nca : Int) := by omega
  have hmc2 : (m2 : Int) ≤ (eca : Int) := by omega
  clear hV hbV hW1 bA hGB hRB hG2 hR3 hB2 hB3 hb2 hb3 hrow1 hrow2 hrun1 hrun2 hs1 hs2 hnil1 hnil2 hgr h hn he hln hle hm1 hm2 hl1 hl2
  go_enter Try.func5, Try.ntmps5
  go_upto_region 1 with fail
  rw [HW.out]
  clear HW hqe
  go_wp2_with (first | (refine l_append rfl _ _ 22 rfl HR1.out ?_) | (refine l_append rfl _ _ 23 rfl HR2.out ?_))
  rw [HV.out]
  refine bodyPost_ret (v := grV (.slice a1 m1 c1) (.slice a2 m2 c2)) (by simp [results, Try.results5, asAddr, Result.andThen, go_sem, e0, e1]) rfl ⟨⟨_, _, rfl, HbV.out.2⟩, HbV.out.1⟩
end Go.Proofs.Ytabnecicidkmhaa
