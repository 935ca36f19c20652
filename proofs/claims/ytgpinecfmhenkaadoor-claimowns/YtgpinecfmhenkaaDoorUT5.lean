/- The document's Owner. -/
import Derived.Test.YtgpinecfmhenkaaDoorU8
import Derived.Test.YtgpinecfmhenkaaDoorUM0
namespace Go.Proofs.YtgpinecfmhenkaaDoor
open Go.RowKit

/-- What the document says of an id's owner: the router, the error, the claim. -/
def dOw (L : List Cl) (id : Int) : Int × Int × Int × Value :=
  if 1 ≤ id ∧ id ≤ 1024 then
    match clOf L id with
    | none => (0, 6, 0, nilS)
    | some x => match x.2.1 with
      | [] => (0, 6, 0, nilS)
      | [y] => (y, 0, x.1, x.2.2)
      | _ :: _ :: _ => (0, 11, x.1, x.2.2)
  else (0, 2, 0, nilS)
theorem dOw_no {L : List Cl} {id : Int} (h : ¬ (1 ≤ id ∧ id ≤ 1024)) : dOw L id = (0, 2, 0, nilS) := if_neg h
theorem dOw_none {L : List Cl} {id : Int} (h : 1 ≤ id ∧ id ≤ 1024) (hc : clOf L id = none) : dOw L id = (0, 6, 0, nilS) := by unfold dOw; rw [if_pos h, hc]
theorem dOw_nil {L : List Cl} {id : Int} {x : Cl} (h : 1 ≤ id ∧ id ≤ 1024) (hc : clOf L id = some x) (h0 : x.2.1.length = 0) : dOw L id = (0, 6, 0, nilS) := by
  unfold dOw
  rw [if_pos h, hc]
  simp only [List.length_eq_zero_iff.1 h0]
theorem dOw_one {L : List Cl} {id y : Int} {x : Cl} (h : 1 ≤ id ∧ id ≤ 1024) (hc : clOf L id = some x) (h0 : x.2.1 = [y]) : dOw L id = (y, 0, x.1, x.2.2) := by
  unfold dOw
  rw [if_pos h, hc]
  simp only [h0]
theorem dOw_two {L : List Cl} {id : Int} {x : Cl} (h : 1 ≤ id ∧ id ≤ 1024) (hc : clOf L id = some x) (h0 : 2 ≤ x.2.1.length) : dOw L id = (0, 11, x.1, x.2.2) := by
  obtain ⟨i, l, v⟩ := x
  unfold dOw
  rw [if_pos h, hc]
  match l, h0 with
  | [], h0 => simp at h0
  | [_], h0 => simp at h0
  | _ :: _ :: _, _ => rfl
theorem claim_set {w W : World} {q : Nat} {x y : Value} {B : Nat} (hq : W.heap[q]? = some (.cells #[x, y] 31)) (hb : Below B w W) (hB : B ≤ q) (u v : Value) :
    ∃ V, (W.setCell ⟨q, 0, none⟩ u).setCell ⟨q, 1, none⟩ v = V ∧ V.cell? ⟨q, 0, none⟩ = some u ∧ V.cell? ⟨q, 1, none⟩ = some v ∧ Below B w V := by
  have h := set2 hq u v
  refine ⟨_, rfl, ?_, ?_, Below.setCell (p := ⟨q, 1, none⟩) (Below.setCell (p := ⟨q, 0, none⟩) hb hB _) hB _⟩
  · rw [cell_of_row _ _ 0 _ _ _ h]; rfl
  · rw [cell_of_row _ _ 1 _ _ _ h]; rfl
set_option maxRecDepth 100000 in
set_option maxHeartbeats 2000000 in
theorem downer_any {L : List Cl} {v : Value} (id : Int) {w : World} (h : ClsAt w v L) :
    Calls Tryd.prog 7 #[v, .int .i64 id] w fun e w' => e = .returned (.tuple #[.int .i64 (dOw L id).1, .int .i64 (dOw L id).2.1, .agg #[.int .i64 (dOw L id).2.2.1, (dOw L id).2.2.2]]) ∧ Below w.heap.size w w' := by
  obtain ⟨W, hW⟩ : ∃ W, w.alloc (.cells #[.int .i64 0, nilS] 31) = W := ⟨_, rfl⟩
  have hB0 : Below w.heap.size w W := by rw [← hW]; exact (Below.refl _ w).alloc (Nat.le_refl _) _
  have hq : W.heap[w.heap.size]? = some (.cells #[.int .i64 0, nilS] 31) := by rw [← hW]; exact heap_alloc_last w _
  have HL := hidIn (h.keep hB0 (Nat.le_refl _))
  have HB := hidIn hB0
  have HW := hidIn hW
  have HQ := hidIn hq
  obtain ⟨a, cap, rfl, hn, _, _⟩ := h.r.clms
  have q0 := cell_of_row _ _ 0 _ _ _ hq
  have q1 := cell_of_row _ _ 1 _ _ _ hq
  have f0 := frozen_new hq 0
  have f1 := frozen_new hq 1
  simp at q0 q1
  have HVs := hidIn (fun u' v' => claim_set hq hB0 (Nat.le_refl _) u' v')
  clear h hB0 hW hq
  obtain ⟨q, hqe⟩ : ∃ q, w.heap.size = q := ⟨_, rfl⟩
  rw [hqe] at q0 q1 f0 f1 HVs HB HQ ⊢
  have Hqe := hidIn hqe
  by_cases hid : 1 ≤ id ∧ id ≤ 1024
  · obtain ⟨ln, hln⟩ : ∃ ln, L.length = ln := ⟨_, rfl⟩
    have Hln := hidIn hln
    have HAt := hidIn HL.out.r.clms
    rw [hln] at HL hn HAt ⊢
    obtain ⟨h1, h2⟩ := hid
    have h1' : ¬ id < 1 := by omega
    have h2' : ¬ 1024 < id := by omega
    have HE0 := hidIn (fun (hc : clOf L id = none) => dOw_none ⟨h1, h2⟩ hc)
    have HE1 := hidIn (fun (x : Cl) (hc : clOf L id = some x) (h0 : x.2.1.length = 0) => dOw_nil ⟨h1, h2⟩ hc h0)
    have HE2 := hidIn (fun (x : Cl) (y : Int) (hc : clOf L id = some x) (h0 : x.2.1 = [y]) => dOw_one ⟨h1, h2⟩ hc h0)
    have HE3 := hidIn (fun (x : Cl) (hc : clOf L id = some x) (h0 : 2 ≤ x.2.1.length) => dOw_two ⟨h1, h2⟩ hc h0)
    clear hln h1 h2
    go_enter Tryd.func7, Tryd.ntmps7
    go_upto_region 1 with fail
    rw [HW.out]
    clear HW hqe
    go_wp2_with fail
    go_loop [7] (fun i => ∃ k : Nat, k ≤ ln ∧ i = .int .i64 k ∧ Hid (∀ y ∈ L.take k, y.1 ≠ id)) (fun i => ln - (intOf i).toNat)
    case atStart => exact ⟨0, Nat.zero_le _, rfl, hidIn (by simp)⟩
    case round =>
      obtain ⟨k, hk, rfl, HC⟩ := hrel
      by_cases hlt : k < ln
      · obtain ⟨⟨x, xs, xv⟩, hz⟩ : ∃ z, L[k]? = some z := ⟨L[k]'(by have := Hln.out; omega), List.getElem?_eq_getElem _⟩
        obtain ⟨a', cap', hae, _, _, hat⟩ := HAt.out
        obtain ⟨bk, o, rfl, hbk, hcell⟩ := hat (by have := Hln.out; omega)
        simp only [Value.slice.injEq] at hae
        obtain ⟨rfl, h5a, h5b⟩ := hae
        obtain ⟨c0, c1⟩ := hcell k _ hz
        obtain ⟨hxs, _⟩ := HL.out.a _ (List.mem_of_getElem? hz)
        simp only at c0 c1 hxs
        obtain ⟨xa, xc, rfl, _, _, hxc⟩ := hxs.ints
        have hki : (k : Int) < (ln : Int) := by omega
        clear hcell hat h5a h5b
        by_cases hxi : x = id
        · have hqx : (x != id) = false := by simpa using hxi
          have hcl := find_drop HC.out hz hxi
          rcases Nat.lt_trichotomy xs.length 1 with hl | hl | hl
          · have hl0 : xs.length = 0 := by omega
            have hz0 : ((xs.length : Int) == 0) = true := by rw [hl0]; rfl
            have HEq := hidIn (HE1.out _ hcl hl0)
            obtain ⟨V, hV, e0, e1, hBV⟩ := HVs.out (.int .i64 0) nilS
            have HV := hidIn hV
            have HBV := hidIn hBV
            generalize xs.length = xl at *
            clear hxs hxc hz hcl hl hl0 hV hBV hxi
            go_wp2_with fail
            rw [HV.out]
            refine bodyPost_ret (v := .tuple #[.int .i64 0, .int .i64 6, .agg #[.int .i64 0, nilS]]) (by simp [results, Tryd.results7, asAddr, Result.andThen, go_sem, e0, e1]) rfl ⟨by rw [HEq.out], HBV.out⟩
          · obtain ⟨y, hy⟩ : ∃ y, xs = [y] := List.length_eq_one_iff.1 hl
            have hz0 : ((xs.length : Int) == 0) = false := by rw [hl]; rfl
            have hz1 : ¬ (1 : Int) < (xs.length : Int) := by rw [hl]; decide
            have hzp : (0 : Int) < (xs.length : Int) := by rw [hl]; decide
            obtain ⟨yb, yo, rfl, hyb, hyc⟩ := hxc (by omega)
            have d0 := hyc 0 y (by rw [hy]; rfl)
            rw [Nat.add_zero] at d0
            have HEq := hidIn (HE2.out _ y hcl hy)
            obtain ⟨V, hV, e0, e1, hBV⟩ := HVs.out (.int .i64 x) (.slice (some ⟨yb, yo, none⟩) xs.length xc)
            have HV := hidIn hV
            have HBV := hidIn hBV
            generalize xs.length = xl at *
            clear hxs hxc hz hcl hl hy hV hBV hxi hyc
            go_wp2_with fail
            go_region
            all_goals (go_wp2_with fail)
            all_goals (rw [HV.out])
            all_goals (refine bodyPost_ret (v := .tuple #[.int .i64 y, .int .i64 0, .agg #[.int .i64 x, .slice (some ⟨yb, yo, none⟩) xl xc]]) (by simp [results, Tryd.results7, asAddr, Result.andThen, go_sem, e0, e1]) rfl ⟨by rw [HEq.out], HBV.out.drew⟩)
          · have hz0 : ((xs.length : Int) == 0) = false := by rw [beq_eq_false_iff_ne]; omega
            have hz1 : (1 : Int) < (xs.length : Int) := by omega
            have HEq := hidIn (HE3.out _ hcl (by simp only; omega))
            obtain ⟨V, hV, e0, e1, hBV⟩ := HVs.out (.int .i64 x) (.slice xa xs.length xc)
            have HV := hidIn hV
            have HBV := hidIn hBV
            generalize xs.length = xl at *
            clear hxs hxc hz hcl hl hV hBV hxi
            go_wp2_with fail
            go_region
            all_goals (go_wp2_with fail)
            all_goals (rw [HV.out])
            all_goals (refine bodyPost_ret (v := .tuple #[.int .i64 0, .int .i64 11, .agg #[.int .i64 x, .slice xa xl xc]]) (by simp [results, Tryd.results7, asAddr, Result.andThen, go_sem, e0, e1]) rfl ⟨by rw [HEq.out], HBV.out.drew⟩)
        · have hqx : (x != id) = true := by simpa using hxi
          have HC2 : Hid (∀ y ∈ L.take (k + 1), y.1 ≠ id) := hidIn fun y hy => by
            rw [take_snoc hz] at hy
            rcases List.mem_append.1 hy with h | h
            · exact HC.out y h
            · rw [List.mem_singleton.1 h]; exact hxi
          clear hxs hxc hz hxi
          go_wp2_with fail
          go_round
          case rel => exact ⟨k + 1, by omega, by go_num, HC2⟩
          case measure => simp [intOf]; omega
      · have hki : ¬ (k : Int) < (ln : Int) := by omega
        have hcl : clOf L id = none := find_none (by have := HC.out; rwa [List.take_of_length_le (by have := Hln.out; omega)] at this)
        have HEq := hidIn (HE0.out hcl)
        obtain ⟨V, hV, e0, e1, hBV⟩ := HVs.out (.int .i64 0) nilS
        have HV := hidIn hV
        have HBV := hidIn hBV
        clear hcl hV hBV
        go_wp2_with fail
        rw [HV.out]
        refine bodyPost_ret (v := .tuple #[.int .i64 0, .int .i64 6, .agg #[.int .i64 0, nilS]]) (by simp [results, Tryd.results7, asAddr, Result.andThen, go_sem, e0, e1]) rfl ⟨by rw [HEq.out], HBV.out⟩
  · have HE := hidIn (dOw_no (L := L) hid)
    rw [HE.out]
    obtain ⟨V, hV, e0, e1, hBV⟩ := HVs.out (.int .i64 0) nilS
    have HV := hidIn hV
    have HBV := hidIn hBV
    clear hV hBV
    generalize L.length = ln at *
    by_cases h1 : id < 1
    · clear hid
      go_enter Tryd.func7, Tryd.ntmps7
      go_upto_region 1 with fail
      rw [HW.out]
      clear HW hqe
      go_wp2_with fail
      rw [HV.out]
      refine bodyPost_ret (v := .tuple #[.int .i64 0, .int .i64 2, .agg #[.int .i64 0, nilS]]) (by simp [results, Tryd.results7, asAddr, Result.andThen, go_sem, e0, e1]) rfl ⟨rfl, HBV.out⟩
    · have h2 : 1024 < id := by omega
      clear hid
      go_enter Tryd.func7, Tryd.ntmps7
      go_upto_region 1 with fail
      rw [HW.out]
      clear HW hqe
      go_wp2_with fail
      rw [HV.out]
      refine bodyPost_ret (v := .tuple #[.int .i64 0, .int .i64 2, .agg #[.int .i64 0, nilS]]) (by simp [results, Tryd.results7, asAddr, Result.andThen, go_sem, e0, e1]) rfl ⟨rfl, HBV.out⟩
end Go.Proofs.YtgpinecfmhenkaaDoor
