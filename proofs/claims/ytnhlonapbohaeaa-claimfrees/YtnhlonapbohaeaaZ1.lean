/- The document's Same, of claims that are the same. ClaimFrees. Numbers as an argument, with their bounds. -/
import Derived.Test.YtnhlonapbohaeaaUGS
import Derived.Deep.RegionHeld3
import Derived.Test.YtnhlonapbohaeaaUH3
import Derived.Test.YtnhlonapbohaeaaUH4
import Derived.Test.YtnhlonapbohaeaaUI
import Derived.Test.YtnhlonapbohaeaaUA
namespace Go.Proofs.Ytnhlonapbohaeaa
open Go.RowKit

set_option maxRecDepth 100000 in
set_option maxHeartbeats 2000000 in
theorem sameC_yes {T : List (Int × List Int)} {ua ub : Value} {w : World} (ha : TAt w ua T) (hb : TAt w ub T) :
    Calls Try.prog 9 #[ua, ub] w fun e w' => e = .returned (.bool true) ∧ Below w.heap.size w w' := by
  obtain ⟨La, ha1, ha2⟩ := ha
  obtain ⟨Lb, hb1, hb2⟩ := hb
  have hla : La.length = T.length := by rw [← ha2, List.length_map]
  have hlb : Lb.length = T.length := by rw [← hb2, List.length_map]
  obtain ⟨aa, ca, rfl, hna, _, hca⟩ := ha1.r.clms
  obtain ⟨ab, cb, rfl, _, _, hcb⟩ := hb1.r.clms
  have HA := hidIn ha1.a
  have HB' := hidIn hb1.a
  have HCa := hidIn hca
  have HCb := hidIn hcb
  have Ha2 := hidIn ha2
  have Hb2 := hidIn hb2
  have Hla := hidIn hla
  have Hlb := hidIn hlb
  rw [hla] at hna ⊢
  rw [hlb]
  obtain ⟨n, hn⟩ : ∃ n, T.length = n := ⟨_, rfl⟩
  rw [hn] at Hla Hlb hna ⊢
  clear ha1 ha2 hb1 hb2 hla hlb hca hcb hn
  go_enter Try.func9, Try.ntmps9
  go_wp2_with fail
  go_loopw [5] (fun i wr => ∃ k : Nat, k ≤ n ∧ i = .int .i64 k ∧ Hid (Below w.heap.size w wr)) (fun i _ => n - (intOf i).toNat)
  case atStart => exact ⟨0, Nat.zero_le _, rfl, hidIn (Below.refl _ _)⟩
  case round =>
    obtain ⟨k, hk, rfl, HB⟩ := hrel
    by_cases hlt : k < n
    · obtain ⟨b1, o1, rfl, hb1, g1⟩ := HCa.out (by have := Hla.out; omega)
      obtain ⟨b2, o2, rfl, hb2, g2⟩ := HCb.out (by have := Hlb.out; omega)
      obtain ⟨⟨i, rs, v1⟩, h1⟩ : ∃ z, La[k]? = some z := ⟨La[k]'(by have := Hla.out; omega), List.getElem?_eq_getElem _⟩
      obtain ⟨⟨j, ss, v2⟩, h2⟩ : ∃ z, Lb[k]? = some z := ⟨Lb[k]'(by have := Hlb.out; omega), List.getElem?_eq_getElem _⟩
      have he : (i, rs) = (j, ss) := by
        have e1 : (cls La)[k]? = some (i, rs) := by unfold cls; rw [List.getElem?_map, h1]; rfl
        have e2 : (cls Lb)[k]? = some (j, ss) := by unfold cls; rw [List.getElem?_map, h2]; rfl
        rw [Ha2.out] at e1
        rw [Hb2.out, e1] at e2
        exact Option.some.inj e2
      simp only [Prod.mk.injEq] at he
      obtain ⟨rfl, rfl⟩ := he
      obtain ⟨q1, q1'⟩ := g1 k _ h1
      obtain ⟨q2, q2'⟩ := g2 k _ h2
      have s1 := (HA.out _ (List.mem_of_getElem? h1)).1
      have s2 := (HB'.out _ (List.mem_of_getElem? h2)).1
      simp only at q1 q1' q2 q2' s1 s2
      have HC1 : Hid (∀ wq, Below w.heap.size w wq → wq.cell? ⟨b1, o1 + k * 2, none⟩ = some (.int .i64 i) ∧ wq.cell? ⟨b1, o1 + k * 2 + 1, none⟩ = some v1) := hidIn fun wq hq => ⟨(hq.cell (p := ⟨b1, o1 + k * 2, none⟩) hb1).trans q1, (hq.cell (p := ⟨b1, o1 + k * 2 + 1, none⟩) hb1).trans q1'⟩
      have HC2 : Hid (∀ wq, Below w.heap.size w wq → wq.cell? ⟨b2, o2 + k * 2, none⟩ = some (.int .i64 i) ∧ wq.cell? ⟨b2, o2 + k * 2 + 1, none⟩ = some v2) := hidIn fun wq hq => ⟨(hq.cell (p := ⟨b2, o2 + k * 2, none⟩) hb2).trans q2, (hq.cell (p := ⟨b2, o2 + k * 2 + 1, none⟩) hb2).trans q2'⟩
      have HSC : Hid (∀ wq, Below w.heap.size w wq → Calls Try.prog 25 #[.agg #[.int .i64 i, v1], .agg #[.int .i64 i, v2]] wq fun e w' => e = .returned (.bool true) ∧ Below wq.heap.size wq w') := hidIn fun wq hq => by
        have := sameClaim_any (i := i) (j := i) (s1.keep hq (Nat.le_refl _)) (s2.keep hq (Nat.le_refl _))
        rwa [show decide ((i, rs) = (i, rs)) = true by simp] at this
      have hki : (k : Int) < (n : Int) := by omega
      obtain ⟨va1, vc1, rfl⟩ := s1.ishape
      obtain ⟨va2, vc2, rfl⟩ := s2.ishape
      clear g1 g2 h1 h2 q1 q1' q2 q2' s1 s2
      go_wp2_with fail
      refine wp_region_held_drew (S := fun wx => Below w.heap.size w wx) (by kernel_rfl) ((HB.out).drew) (fun hHeld => ?_)
      have hh : Below w.heap.size w wr.drew := hHeld
      refine wpAnyH_take (i := 0) (v := ?_) rfl (by kernel_rfl) (by kernel_rfl) (by kernel_rfl) (fun _ _ _ h => h) (Or.inl ⟨by rfl, ?_⟩) (by assumption) ?_
      rotate_left
      · intro wq hSw
        clear hSw
        go_simp
        try (with_reducible rfl)
      refine wpAnyH_take (i := 1) (v := ?_) rfl (by kernel_rfl) (by kernel_rfl) (by kernel_rfl) (fun _ _ _ h => h) (Or.inl ⟨by rfl, ?_⟩) (by assumption) ?_
      rotate_left
      · intro wq hSw
        clear hSw
        go_simp
        try (with_reducible rfl)
      refine wpAnyH_take (i := 2) (v := ?_) rfl (by kernel_rfl) (by kernel_rfl) (by kernel_rfl) (fun _ _ _ h => h) (Or.inl ⟨by rfl, ?_⟩) (by assumption) ?_
      rotate_left
      · intro wq hSw
        clear hSw
        go_simp
        try (with_reducible rfl)
      refine wpAnyH_take (i := 3) (v := ?_) rfl (by kernel_rfl) (by kernel_rfl) (by kernel_rfl) (fun _ _ _ h => h) (Or.inl ⟨by rfl, ?_⟩) (by assumption) ?_
      rotate_left
      · intro wq hSw
        obtain ⟨z1, z2⟩ := HC1.out wq hSw
        clear hSw
        go_simp
        try (with_reducible rfl)
      refine wpAnyH_take (i := 4) (v := ?_) rfl (by kernel_rfl) (by kernel_rfl) (by kernel_rfl) (fun _ _ _ h => h) (Or.inl ⟨by rfl, ?_⟩) (by assumption) ?_
      rotate_left
      · intro wq hSw
        clear hSw
        go_simp
        try (with_reducible rfl)
      refine wpAnyH_take (i := 5) (v := ?_) rfl (by kernel_rfl) (by kernel_rfl) (by kernel_rfl) (fun _ _ _ h => h) (Or.inl ⟨by rfl, ?_⟩) (by assumption) ?_
      rotate_left
      · intro wq hSw
        clear hSw
        go_simp
        try (with_reducible rfl)
      refine wpAnyH_take (i := 6) (v := ?_) rfl (by kernel_rfl) (by kernel_rfl) (by kernel_rfl) (fun _ _ _ h => h) (Or.inl ⟨by rfl, ?_⟩) (by assumption) ?_
      rotate_left
      · intro wq hSw
        clear hSw
        go_simp
        try (with_reducible rfl)
      refine wpAnyH_take (i := 7) (v := ?_) rfl (by kernel_rfl) (by kernel_rfl) (by kernel_rfl) (fun _ _ _ h => h) (Or.inl ⟨by rfl, ?_⟩) (by assumption) ?_
      rotate_left
      · intro wq hSw
        obtain ⟨z1, z2⟩ := HC2.out wq hSw
        clear hSw
        go_simp
        try (with_reducible rfl)
      refine wpAnyH_ready (rs := [8]) (by kernel_rfl) (by simp) ?_
      refine AllReadyH.cons (i := 8) rfl (fun K hK => ?_) AllReadyH.nil
      go_simp
      refine (HSC.out _ hh).mono ?_
      rintro e w5 ⟨rfl, hbx⟩
      have h5 : Below w.heap.size w w5 := hh.trans (hbx.mono hh.size)
      refine hK.out _ _ h5 (fun _ => ?_)
      clear hK K hbx
      refine wpAnyH_take (i := 9) (v := ?_) rfl (by kernel_rfl) (by kernel_rfl) (by kernel_rfl) (fun _ _ _ h => h) (Or.inl ⟨by rfl, ?_⟩) (by assumption) ?_
      rotate_left
      · intro wq hSw
        clear hSw
        go_simp
        try (with_reducible rfl)
      refine wpAnyH_done (by kernel_rfl) ?_ _
      go_wp2_with fail
      go_roundw
      case rel => exact ⟨k + 1, by omega, by go_num, hidIn h5⟩
      case measure => simp [intOf]; omega
    · have hki : ¬ ((k : Int) < (n : Int)) := by omega
      go_wp2_with fail
      go_ret
      exact ⟨rfl, HB.out⟩
end Go.Proofs.Ytnhlonapbohaeaa
namespace Go.Proofs.Ytnhlonapbohaeaa
open Go.RowKit

theorem idsT_rs (T : List (Int × List Int)) (R : List Int) : idsT T (rsL R) = rsL (R.flatMap (frI T)) := by
  unfold idsT
  exact rsL_same fun x => by simp only [List.mem_flatMap, (rsL_ok R).2]
theorem wioT_rs (T : List (Int × List Int)) (R : List Int) : wioT T (rsL R) = rsL (R.filter fun n => (frI T n).isEmpty) := by
  unfold wioT
  exact crise_ext ((rsL_ok R).1.sublist List.filter_sublist) (rsL_ok _).1 (fun x => by rw [(rsL_ok _).2, List.mem_filter, List.mem_filter, (rsL_ok R).2])
/-- One number's row, whatever it is. -/
def Row1 (w : World) (base : Nat) (v : Value) : Prop := ∃ x : Int, w.ownsRow base 3 1 v 1 (fl ic [x])
theorem Row1.set {w : World} {base g c : Nat} {v : Value} (h : Row1 w base v) (z : Int) (hg : Row1 w base (.slice (some ⟨g, 0, none⟩) 1 c)) : Row1 (w.setCell ⟨g, 0, none⟩ (.int .i64 z)) base v := by
  obtain ⟨x, hx⟩ := h
  by_cases he : v.ownBlock = some g
  · obtain ⟨g', cp, cur, hv, _⟩ : ∃ g' cp cur, v = .slice (some ⟨g', 0, none⟩) 1 cp ∧ w.heap[g']? = some (.cells cur 3 (0, 0)) := by
      rcases hx.2 with ⟨h1, _⟩ | ⟨g', cap', cur, h1, _, hh, _⟩
      · rw [h1] at he; simp [Value.ownBlock] at he
      · exact ⟨g', cap', cur, h1, hh⟩
    subst hv
    simp [Value.ownBlock] at he
    subst he
    exact ⟨z, row_set hx 0 _⟩
  · exact ⟨x, row_fr hx ((Fr.refl (fun j => j = g) w).set (p := ⟨g, 0, none⟩) rfl _) (fun j hj e => he (by rw [hj, e]))⟩
theorem Row1.shape {w : World} {base : Nat} {v : Value} (h : Row1 w base v) : ∃ g c x, v = .slice (some ⟨g, 0, none⟩) 1 c ∧ base ≤ g ∧ w.cell? ⟨g, 0, none⟩ = some (.int .i64 x) ∧ w.frozen? ⟨g, 0, none⟩ = false ∧ ∃ cur, w.heap[g]? = some (.cells cur 3) := by
  obtain ⟨x, hx⟩ := h
  rcases hx.2 with ⟨_, h0⟩ | ⟨g, cap, cur, rfl, hb, hh, _⟩
  · omega
  · have := hx.cells (g := g) rfl 0 (.int .i64 x) rfl
    rw [Addr.add_mid, Nat.zero_add] at this
    exact ⟨g, cap, x, rfl, hb, this, frozen_new hh 0, cur, hh⟩
set_option maxRecDepth 100000 in
set_option maxHeartbeats 8000000 in
theorem claimFrees_walk {L : List Cl} {v rv : Value} {R : List Int} {w : World} (h : ClsAt w v L) (hw : ∀ y ∈ L, (Lit.int .i64 y.1).wf = true ∧ ∀ z ∈ y.2.1, (Lit.int .i64 z).wf = true) (hr : SlAt ic 1 w rv R) (hrw : ∀ z ∈ R, (Lit.int .i64 z).wf = true) (hnr : NilOk rv) :
    Calls Try.prog 4 #[v, rv] w fun e w' => e = .returned (.bool true) ∧ Below w.heap.size w w' := by
  have HC := hidIn (cut_any h)
  have HC2 : Hid (∀ w1, Below w.heap.size w w1 → Calls Try.prog 11 #[v] w1 fun e w' => (∃ a c, e = .returned (.slice a (cutT (cls L)).length c) ∧ ClsAns w1 w' (cutT (cls L)) (.slice a (cutT (cls L)).length c)) ∧ Below w1.heap.size w1 w') := hidIn fun w1 hb => cut_any (h.keep hb (Nat.le_refl _))
  have hwC : ∀ p ∈ cutT (cls L), ∀ z ∈ p.2, (Lit.int .i64 z).wf = true := fun p hp z hz => by
    obtain ⟨_, q, hq, _, h2⟩ := cutT_mem hp
    obtain ⟨y, hy, rfl⟩ := List.mem_map.1 hq
    exact (hw y hy).2 z (h2 z hz)
  have hlC := cutT_len (cls L)
  obtain ⟨va, vc, rfl, _⟩ := h.r
  obtain ⟨ra, rc, rfl, hrl, hrc, _⟩ := hr.ints
  have hcut := hr.cut 40
  have hnr' : NilOk (.slice ra (R.take 40).length rc) := by
    rcases hnr with ⟨p, nn, cc, he⟩ | he
    · simp only [Value.slice.injEq] at he
      rw [he.1]
      exact .inl ⟨_, _, _, rfl⟩
    · simp only [Value.slice.injEq] at he
      obtain ⟨rfl, h0, rfl⟩ := he
      have : (R.take 40).length = 0 := by rw [List.length_take]; omega
      rw [this]
      exact .inr rfl
  have hml : (R.take 40).length = min R.length 40 := by rw [List.length_take]; omega
  have hrw' : ∀ z ∈ R.take 40, (Lit.int .i64 z).wf = true := fun z hz => hrw z (List.mem_of_mem_take hz)
  generalize R.take 40 = R2 at hcut hnr' hml hrw'
  generalize cutT (cls L) = T at HC HC2 hwC hlC
  obtain ⟨m, hm⟩ : ∃ m, R2.length = m := ⟨_, rfl⟩
  obtain ⟨rl, hrl'⟩ : ∃ rl, R.length = rl := ⟨_, rfl⟩
  rw [hm] at hcut hnr' hml
  rw [hrl'] at hrl hrc hml ⊢
  have hmin : min (rl : Int) 40 = (m : Int) := by omega
  have hmc : (m : Int) ≤ (rc : Int) := by omega
  have HR := hidIn hcut
  have HRn := hidIn hnr'
  have HRw := hidIn hrw'
  have HRm : Hid (R2.length ≤ 100) := hidIn (by omega)
  have HwC := hidIn hwC
  have HlC := hidIn hlC
  obtain ⟨tn, htn⟩ : ∃ tn, T.length = tn := ⟨_, rfl⟩
  rw [htn] at HC HC2
  clear h hw hr hrw hnr hcut hnr' hml hrw' hm hrl' hwC hlC htn
  go_enter Try.func4, Try.ntmps4
  go_wp2_with fail
  refine HC.out.mono ?_
  rintro e w1 ⟨⟨a1, c1, rfl, hu1⟩, hb1⟩
  have HT1 := hidIn (tAt_ans hu1)
  have HB1 := hidIn hb1
  clear hu1 hb1 HC
  go_wp2_with fail
  refine (HC2.out w1 HB1.out).mono ?_
  rintro e w2 ⟨⟨a2, c2, rfl, hu2⟩, hb2⟩
  have HS2 := hidIn (tAt_ans hu2)
  have HT2 := hidIn (HT1.out.keep hb2)
  have HB2 := hidIn (HB1.out.trans (hb2.mono HB1.out.size))
  have HFr := hidIn (free_T HT2.out (by have := HlC.out; omega))
  clear hu2 hb2 HC2 HT1 HB1
  go_wp2_with fail
  refine HFr.out.mono ?_
  rintro e w3 ⟨⟨a3, c3, rfl, hu3⟩, hb3⟩
  have HF3 := hidIn hu3
  have HB23 := hidIn hb3
  have HDF := hidIn (dfree_T (HS2.out.keep hb3) (by have := HlC.out; omega))
  clear hu3 hb3 HFr
  go_wp2_with fail
  refine HDF.out.mono ?_
  rintro e w4 ⟨⟨u4, rfl, hu4⟩, hb4⟩
  have HSa := hidIn (sameC_yes ((tAt_ans HF3.out).keep hb4) hu4)
  obtain ⟨Lf, g1, g2, g3⟩ := HF3.out
  have hb24 := HB23.out.trans (hb4.mono HB23.out.size)
  have HL4 : Hid (w4.ownsRow w2.heap.size 33 2 (.slice a3 (freeT T).length c3) Lf.length (fl clc Lf) ∧ (∀ x ∈ Lf, Row1 w4 w2.heap.size x.2.2) ∧ Below w2.heap.size w2 w4) := hidIn (by
    refine ⟨row_below g1 hb4 (Nat.le_refl _), fun x hx => ?_, hb24⟩
    have hx1 : x.2.1.length = 1 := by
      have h1 : (x.1, x.2.1) ∈ freeT T := by rw [← g2]; exact List.mem_map.2 ⟨x, hx, rfl⟩
      have := (List.mem_filter.1 h1).2
      simpa using this
    have h3 := row_below (g3 x hx) hb4 (Nat.le_refl _)
    obtain ⟨y, hy⟩ := List.length_eq_one_iff.1 hx1
    rw [hy] at h3
    exact ⟨y, h3⟩)
  have hfl : (freeT T).length = Lf.length := by rw [← g2, List.length_map]
  have hfl2 : (freeT T).length ≤ 40 := Nat.le_trans (List.length_filter_le _ _) HlC.out
  obtain ⟨fn, hfn⟩ : ∃ fn, (freeT T).length = fn := ⟨_, rfl⟩
  rw [hfn] at HL4 HSa hfl hfl2 ⊢
  have Hfl := hidIn hfl
  rw [← hfl] at HL4
  obtain ⟨u4a, u4c, hu4s⟩ := hu4.shape
  subst hu4s
  clear hu4 hb4 g1 g2 g3 hb24 hfl hfn HDF HF3 HB23
  go_wp2_with fail
  refine HSa.out.mono ?_
  rintro e w5 ⟨rfl, hb5⟩
  have HL5 : Hid (w5.ownsRow w2.heap.size 33 2 (.slice a3 fn c3) fn (fl clc Lf) ∧ (∀ x ∈ Lf, Row1 w5 w2.heap.size x.2.2) ∧ Below w2.heap.size w2 w5) := hidIn ⟨row_below HL4.out.1 hb5 (Nat.le_refl _), fun x hx => by
    obtain ⟨y, hy⟩ := HL4.out.2.1 x hx
    exact ⟨y, row_below hy hb5 (Nat.le_refl _)⟩, HL4.out.2.2.trans (hb5.mono HL4.out.2.2.size)⟩
  clear hb5 HSa HL4
  go_wp2_with fail
  go_loopw [8] (fun i wr => ∃ k : Nat, k ≤ fn ∧ i = .int .i64 k ∧ Hid (wr.ownsRow w2.heap.size 33 2 (.slice a3 fn c3) fn (fl clc Lf) ∧ (∀ x ∈ Lf, Row1 wr w2.heap.size x.2.2) ∧ Below w2.heap.size w2 wr)) (fun i _ => fn - (intOf i).toNat)
  case atStart => exact ⟨0, Nat.zero_le _, rfl, HL5⟩
  case round =>
    clear HL5
    obtain ⟨k, hk, rfl, HRd⟩ := hrel
    by_cases hlt : k < fn
    · have hki : (k : Int) < (fn : Int) := by omega
      obtain ⟨g1, g2, g3⟩ := HRd.out
      obtain ⟨x, hx⟩ : ∃ x, Lf[k]? = some x := ⟨Lf[k]'(by have := Hfl.out; omega), List.getElem?_eq_getElem _⟩
      obtain ⟨sa, sc, hse, _, _, hsc⟩ := (slAt_of_row (cs := clc) (fun _ => rfl) g1 Hfl.out.symm).clms
      simp only [Value.slice.injEq] at hse
      obtain ⟨rfl, hz9, rfl⟩ := hse
      clear hz9
      obtain ⟨bk, o, rfl, hbk, hcell⟩ := hsc (by have := Hfl.out; omega)
      have q1 := (hcell k x hx).2
      have hr1 := g2 x (List.mem_of_getElem? hx)
      obtain ⟨g, gc, y, hv, hgb, hgc, hgf, cur, hgh⟩ := hr1.shape
      rw [hv] at q1 hr1
      have HO : Hid ((wr.setCell ⟨g, 0, none⟩ (.int .i64 (-5))).ownsRow w2.heap.size 33 2 (.slice (some ⟨bk, o, none⟩) fn c3) fn (fl clc Lf) ∧ (∀ x ∈ Lf, Row1 (wr.setCell ⟨g, 0, none⟩ (.int .i64 (-5))) w2.heap.size x.2.2) ∧ Below w2.heap.size w2 (wr.setCell ⟨g, 0, none⟩ (.int .i64 (-5)))) := hidIn (by
        refine ⟨row_fr g1 ((Fr.refl (fun j => j = g) wr).set (p := ⟨g, 0, none⟩) rfl _) (fun j hj e => ?_), fun z hz => (g2 z hz).set (-5) hr1, g3.setCell (p := ⟨g, 0, none⟩) hgb _⟩
        obtain ⟨cur', h1⟩ := crowTy g1 hj
        rw [e, hgh] at h1
        simp only [Option.some.injEq, Obj.cells.injEq] at h1
        exact absurd h1.2.1 (by decide))
      obtain ⟨W2, hW2⟩ : ∃ W2, wr.setCell ⟨g, 0, none⟩ (.int .i64 (-5)) = W2 := ⟨_, rfl⟩
      rw [hW2] at HO
      have HW2 := hidIn hW2
      clear g1 g2 g3 hx hsc hcell hr1 hv hgb hgh hW2 HRd
      go_wp2_with fail
      rw [HW2.out]
      go_roundw
      case rel => exact ⟨k + 1, by omega, by go_num, HO⟩
      case measure => simp [intOf]; omega
    · have hki : ¬ ((k : Int) < (fn : Int)) := by omega
      have hb := HRd.out.2.2
      have HT6 := hidIn (HT2.out.keep hb)
      have HS6 := hidIn (HS2.out.keep hb)
      have hb6 := HB2.out.trans (hb.mono HB2.out.size)
      have HIds := hidIn (ids_T HT6.out HwC.out (by have := HlC.out; omega) (HR.out.keep hb6 (Nat.le_refl _)) HRn.out HRm.out HRw.out)
      have HB6 := hidIn hb6
      clear hb hb6 HRd HT2 HS2 HB2
      go_wp2_with fail
      refine HIds.out.mono ?_
      rintro e w7 ⟨h7, hb7⟩
      obtain ⟨v1, v2, rfl, hv1, hv2⟩ := h7
      rw [idsT_rs] at hv1
      rw [wioT_rs] at hv2
      have HV1 := hidIn (slAt_of_row (cs := ic) (fun _ => rfl) hv1 rfl)
      have HV2 := hidIn (slAt_of_row (cs := ic) (fun _ => rfl) hv2 rfl)
      have HB7 := hidIn (HB6.out.trans (hb7.mono HB6.out.size))
      have HT7 := hidIn (HT6.out.keep hb7)
      have HS7 := hidIn (HS6.out.keep hb7)
      have HDI := hidIn (dids_T HS7.out (by have := HlC.out; omega) (HR.out.keep HB7.out (Nat.le_refl _)) HRm.out)
      clear hv1 hv2 hb7 HIds HB6 HT6 HS6
      go_wp2_with fail
      refine HDI.out.mono ?_
      rintro e w8 ⟨⟨v3, v4, rfl, hv3, hv4⟩, hb8⟩
      have hv1 := HV1.out.keep hb8 (Nat.le_refl _)
      have hv2 := HV2.out.keep hb8 (Nat.le_refl _)
      have HQ1 : Hid (Calls Try.prog 16 #[v1, v3] w8 fun e w' => e = .returned (.bool true) ∧ Below w8.heap.size w8 w') := hidIn (by
        have := sameInts hv1 hv3
        rwa [decide_eq_true rfl] at this)
      have HQ2 : Hid (∀ w9, Below w8.heap.size w8 w9 → Calls Try.prog 16 #[v2, v4] w9 fun e w' => e = .returned (.bool true) ∧ Below w9.heap.size w9 w') := hidIn fun w9 hb => by
        have := sameInts (hv2.keep hb (Nat.le_refl _)) (hv4.keep hb (Nat.le_refl _))
        rwa [decide_eq_true rfl] at this
      have HB8 := hidIn (HB7.out.trans (hb8.mono HB7.out.size))
      have HT8 := hidIn (HT7.out.keep hb8)
      have HS8 := hidIn (HS7.out.keep hb8)
      clear hv1 hv2 hv3 hv4 hb8 HV1 HV2 HB7 HT7 HS7 HDI
      go_wp2_with fail
      refine HQ1.out.mono ?_
      rintro e w9 ⟨rfl, hb9⟩
      have HB9 := hidIn (HB8.out.trans (hb9.mono HB8.out.size))
      have HT9 := hidIn (HT8.out.keep hb9)
      have HS9 := hidIn (HS8.out.keep hb9)
      have HQ3 := hidIn (HQ2.out w9 hb9)
      clear hb9 HQ1 HQ2 HB8 HT8 HS8
      go_wp2_with fail
      refine HQ3.out.mono ?_
      rintro e w10 ⟨rfl, hb10⟩
      have HB10 := hidIn (HB9.out.trans (hb10.mono HB9.out.size))
      have HSm := hidIn (sameC_yes (HT9.out.keep hb10) (HS9.out.keep hb10))
      clear hb10 HQ3 HB9 HT9 HS9
      go_wp2_with fail
      refine HSm.out.mono ?_
      rintro e w11 ⟨rfl, hb11⟩
      have HB11 := hidIn (HB10.out.trans (hb11.mono HB10.out.size))
      clear hb11 HSm HB10
      go_wp2_with fail
      refine (cworks_any _).mono ?_
      rintro e w12 ⟨rfl, hb12⟩
      have HB12 := hidIn (HB11.out.trans (hb12.mono HB11.out.size))
      clear hb12 HB11
      go_wp2_with fail
      go_ret
      exact ⟨rfl, HB12.out⟩
end Go.Proofs.Ytnhlonapbohaeaa
namespace Go.Proofs.Ytnhlonapbohaeaa
open Go.ChangeShapes Go.WideShapes Go.ChangeAt Go.RowKit

section
variable {H : Type} {enc : TypeId × Value → H} {W : World}
set_option maxRecDepth 100000 in
theorem intsW_arg {a : Option Addr} {len cap : Nat} {d : DataW H} {p : List MemPlace} (h : DataW.Trod enc Try.prog W 0 (fun _ => true) true 30 (.slice a len cap) d p) (hw : ∀ n ∈ d.weights Try.prog 30, n ≤ reachBytes) :
    ∃ ns, SlAt ic 1 W (.slice a len cap) ns ∧ (∀ z ∈ ns, (Lit.int .i64 z).wf = true) ∧ NilOk (.slice a len cap) ∧ (ns.length + 1) * 8 ≤ 140737488355328 := by
  obtain ⟨fuel, hf⟩ := h
  obtain ⟨ns, hn1, hn2, hG, hn3⟩ := open_sl 0 (cs := ic) (sz := 1) (G := fun y => (Lit.int .i64 y).wf = true) (fun _ => rfl) (by omega) Try.underlying30 cInt (fun n cs' x h => by
    obtain ⟨q, hq, _, wq⟩ := DataW.trod_int Try.underlying3 h
    exact ⟨q, hq, wq⟩) (by simpa [Value.cells] using hf)
  exact ⟨ns, hn1, hG, hn2, slice_weight Try.underlying30 bInt (by omega) hw (by rcases hn3 with rfl | h; exact .inl rfl; exact .inr h)⟩
end
end Go.Proofs.Ytnhlonapbohaeaa
