/- The document's Unlike, cost. -/
import Derived.Test.YtnhlonapbohaeaaGU0
import Derived.Test.YtnhlonapbohaeaaGH
import Derived.Test.YtnhlonapbohaeaaGUP
namespace Go.Proofs.Ytnhlonapbohaeaa
open Go.RowKit

theorem unl_snoc {rs : List Rc} {r : Rc} (h : Unl rs) (hr : recOk r = true) (hd : ∀ x ∈ rs, x.origin ≠ r.origin) : Unl (rs ++ [r]) := by
  refine ⟨fun x hx => ?_, ?_⟩
  · rcases List.mem_append.1 hx with hx | hx
    · exact h.1 x hx
    · simp at hx; rw [hx]; exact hr
  · rw [List.pairwise_append]
    refine ⟨h.2, by simp, fun x hx y hy e => ?_⟩
    simp at hy
    subst hy
    have h1 := (recOk_parts (h.1 x hx)).1
    have h2 := (recOk_parts hr).1
    exact hd x hx (by omega)
theorem unl_not1 {rs : List Rc} {r : Rc} (hm : r ∈ rs) (hr : recOk r = false) : bothOk no1 rs = false := by
  cases hb : bothOk no1 rs with
  | false => rfl
  | true => have := (both_unl.1 hb).1 r hm; rw [hr] at this; cases this
theorem pair_ne {rs : List Rc} {i j : Nat} {a b : Rc} (hu : Unl rs) (h1 : rs[i]? = some a) (h2 : rs[j]? = some b) (h3 : i < j) : a.origin.toNat ≠ b.origin.toNat := by
  obtain ⟨hi, e1⟩ := List.getElem?_eq_some_iff.1 h1
  obtain ⟨hj, e2⟩ := List.getElem?_eq_some_iff.1 h2
  have h := List.pairwise_iff_getElem.1 hu.2 i j hi hj h3
  rw [e1, e2] at h
  exact h
theorem unl_not2 {rs : List Rc} {i j : Nat} {a b : Rc} (h1 : rs[i]? = some a) (h2 : rs[j]? = some b) (h3 : i < j) (he : a.origin = b.origin) : bothOk no1 rs = false := by
  cases hb : bothOk no1 rs with
  | false => rfl
  | true => exact absurd (by rw [he]) (pair_ne (both_unl.1 hb) h1 h2 h3)

set_option maxRecDepth 100000 in
set_option maxHeartbeats 2000000 in
theorem unlike_any {l : List (Rc × Value)} {v : Value} {w : World} (hR : RecsAt w v l) (hg : ∀ y ∈ l, RecG w y) :
    Calls Try.prog 24 #[v] w fun e w' => e = .returned (.bool (bothOk no1 (rcs l))) ∧ Below w.heap.size w w' := by
  obtain ⟨a, cap, rfl, hl, hcap, hat⟩ := hR.r.recs
  have Ha := hidIn hat
  have HG := hidIn hg
  clear hat hR hg
  go_enter Try.func24, Try.ntmps24
  go_wp2
  go_loopw [3] (fun i wr => ∃ k : Nat, k ≤ l.length ∧ i = .int .i64 k ∧ Hid (Unl (rcs (l.take k)) ∧ Below w.heap.size w wr)) (fun i _ => l.length - (intOf i).toNat)
  case atStart => exact ⟨0, Nat.zero_le _, rfl, hidIn ⟨⟨by simp, by simp⟩, Below.refl _ _⟩⟩
  case round =>
    obtain ⟨k, hk, rfl, HR⟩ := hrel
    obtain ⟨hU, hbel⟩ := HR.out
    have HU := hidIn hU
    have HB := hidIn hbel
    clear HR hU hbel
    by_cases hlt : k < l.length
    · obtain ⟨bk, o, rfl, hbk, hcell⟩ := Ha.out (by omega)
      obtain ⟨⟨⟨orig, epo, sq, cl, ig, as'⟩, va⟩, hz⟩ : ∃ z, l[k]? = some z := ⟨l[k], List.getElem?_eq_getElem hlt⟩
      obtain ⟨hva, _, hep, hse⟩ := HG.out _ (List.mem_of_getElem? hz)
      simp only at hva hep hse
      obtain ⟨aa, acap, rfl, hal, _, _⟩ := hva.ads
      obtain ⟨q0, q1, q2, q3, q4, q5⟩ := hcell k _ hz
      have c0 := (HB.out.cell (p := ⟨bk, o + k * 6, none⟩) hbk).trans q0
      have c1 := (HB.out.cell (p := ⟨bk, o + k * 6 + 1, none⟩) hbk).trans q1
      have c2 := (HB.out.cell (p := ⟨bk, o + k * 6 + 2, none⟩) hbk).trans q2
      have c3 := (HB.out.cell (p := ⟨bk, o + k * 6 + 3, none⟩) hbk).trans q3
      have c4 := (HB.out.cell (p := ⟨bk, o + k * 6 + 4, none⟩) hbk).trans q4
      have c5 := (HB.out.cell (p := ⟨bk, o + k * 6 + 5, none⟩) hbk).trans q5
      simp only at c0 c1 c2 c3 c4 c5
      have HM := hidIn (mayrec_any (r := ⟨orig, epo, sq, cl, ig, as'⟩) (hva.keep HB.out (Nat.le_refl _)) hep hse)
      have Hz : Hid ((rcs l)[k]? = some ⟨orig, epo, sq, cl, ig, as'⟩) := hidIn (by rw [rcs, List.getElem?_map, hz]; rfl)
      have HT : Hid (rcs (l.take (k + 1)) = rcs (l.take k) ++ [⟨orig, epo, sq, cl, ig, as'⟩]) := hidIn (by rw [take_snoc hz]; simp [rcs])
      have HC : Hid (∀ j x, l[j]? = some x → w.cell? ⟨bk, o + j * 6, none⟩ = some (.int .i64 x.1.origin)) := hidIn fun j x hx => (hcell j x hx).1
      have hki : (k : Int) < (l.length : Int) := by omega
      clear hcell q0 q1 q2 q3 q4 q5 hz hva hep hse
      go_wp2_with fail
      refine HM.out.mono ?_
      rintro e w2 ⟨rfl, hb2⟩
      have HB2 := hidIn (HB.out.trans (hb2.mono HB.out.size))
      have d0 := (hb2.cell (p := ⟨bk, o + k * 6, none⟩) (Nat.lt_of_lt_of_le hbk HB.out.size)).trans c0
      clear hb2 HM c0 c1 c2 c3 c4 c5
      obtain ⟨b1, hb1⟩ : ∃ b1, recOk ⟨orig, epo, sq, cl, ig, as'⟩ = b1 := ⟨_, rfl⟩
      have Hb1 := hidIn hb1
      rw [hb1]
      clear hb1
      cases b1
      · go_wp2_with fail
        go_returns
        exact ⟨by rw [unl_not1 (List.mem_of_getElem? Hz.out) Hb1.out]; rfl, HB2.out⟩
      · have HO : Hid (w.cell? ⟨bk, o + k * 6, none⟩ = some (.int .i64 orig)) := hidIn ((HB2.out.cell (p := ⟨bk, o + k * 6, none⟩) hbk).symm.trans d0)
        clear d0
        go_wp2_with fail
        go_loopw [4] (fun i wr => ∃ j : Nat, j ≤ k ∧ i = .int .i64 j ∧ Hid ((∀ x ∈ rcs (l.take j), x.origin ≠ orig) ∧ Below w.heap.size w wr)) (fun i _ => k - (intOf i).toNat)
        case atStart => exact ⟨0, Nat.zero_le _, rfl, hidIn ⟨by simp, HB2.out⟩⟩
        case round =>
          obtain ⟨j, hj, rfl, HR⟩ := hrel
          obtain ⟨hd, hbel⟩ := HR.out
          have HD := hidIn hd
          have HB3 := hidIn hbel
          clear HR hd hbel
          by_cases hlt2 : j < k
          · obtain ⟨⟨rj, vj⟩, hzj⟩ : ∃ z, l[j]? = some z := ⟨l[j]'(by omega), List.getElem?_eq_getElem _⟩
            have e0 := (HB3.out.cell (p := ⟨bk, o + j * 6, none⟩) hbk).trans (HC.out j _ hzj)
            have e1 := (HB3.out.cell (p := ⟨bk, o + k * 6, none⟩) hbk).trans HO.out
            simp only at e0
            have hji : (j : Int) < (k : Int) := by omega
            have hji2 : (j : Int) < (l.length : Int) := by omega
            have Hzj : Hid ((rcs l)[j]? = some rj) := hidIn (by rw [rcs, List.getElem?_map, hzj]; rfl)
            have HTj : Hid (rcs (l.take (j + 1)) = rcs (l.take j) ++ [rj]) := hidIn (by rw [take_snoc hzj]; simp [rcs])
            clear hzj
            obtain ⟨oj, hoj⟩ : ∃ oj, rj.origin = oj := ⟨_, rfl⟩
            rw [hoj] at e0
            have Hoj := hidIn hoj
            clear hoj
            by_cases heq : oj = orig
            · have hq : (oj == orig) = true := by simpa using heq
              have He := hidIn heq
              clear heq
              go_upto_region 9 with fail
              go_quiet (fail)
              go_wp2_with fail
              go_returns
              exact ⟨by rw [unl_not2 Hzj.out Hz.out hlt2 (by rw [Hoj.out, He.out])]; rfl, below_drewN HB3.out _⟩
            · have hq : (oj == orig) = false := by simpa using heq
              have He := hidIn heq
              clear heq
              go_upto_region 9 with fail
              go_quiet (fail)
              go_wp2_with fail
              go_roundw
              case rel =>
                refine ⟨j + 1, by omega, by go_num, hidIn ⟨fun x hx => ?_, below_drewN HB3.out _⟩⟩
                rw [HTj.out] at hx
                rcases List.mem_append.1 hx with hx | hx
                · exact HD.out x hx
                · simp at hx; rw [hx, Hoj.out]; exact He.out
              case measure => simp [intOf]; omega
          · have hji : ¬ ((j : Int) < (k : Int)) := by omega
            obtain rfl : j = k := by omega
            go_wp2_with fail
            go_roundw
            case rel => exact ⟨j + 1, by omega, by go_num, hidIn ⟨by rw [HT.out]; exact unl_snoc HU.out Hb1.out HD.out, HB3.out⟩⟩
            case measure => simp [intOf]; omega
    · have hki : ¬ ((k : Int) < (l.length : Int)) := by omega
      have HOk : Hid (bothOk no1 (rcs l) = true) := hidIn (by have := HU.out; rw [List.take_of_length_le (by omega)] at this; exact both_unl.2 this)
      go_wp2_with fail
      go_returns
      exact ⟨by rw [HOk.out]; rfl, HB.out⟩
/-- What is left to look at. -/
def costM (r : Rc) (rs : List Rc) (a b : Int) (j : Nat) : Int := if r.origin = a then (match (r.adjs.drop j).find? fun x => decide (x.1 = b) with | some x => x.2 | none => costF rs a b) else costF rs a b
theorem costM_end {r : Rc} {rs : List Rc} {a b : Int} {j : Nat} (h : r.adjs.length ≤ j) : costM r rs a b j = costF rs a b := by
  unfold costM
  rw [List.drop_eq_nil_of_le h]
  by_cases h : r.origin = a <;> simp [h]
theorem costM_no {r : Rc} {rs : List Rc} {a b : Int} {j : Nat} {x : Int × Int} (h : r.adjs[j]? = some x) (hn : ¬ (r.origin = a ∧ x.1 = b)) : costM r rs a b j = costM r rs a b (j + 1) := by
  unfold costM
  rw [drop_next h]
  by_cases h1 : r.origin = a
  · have h2 : ¬ x.1 = b := fun e => hn ⟨h1, e⟩
    simp [h1, h2]
  · simp [h1]
theorem costM_yes {r : Rc} {rs : List Rc} {a b : Int} {j : Nat} {x : Int × Int} (h : r.adjs[j]? = some x) (h1 : r.origin = a) (h2 : x.1 = b) : costM r rs a b j = x.2 := by
  unfold costM
  rw [drop_next h]
  simp [h1, h2]

end Go.Proofs.Ytnhlonapbohaeaa
