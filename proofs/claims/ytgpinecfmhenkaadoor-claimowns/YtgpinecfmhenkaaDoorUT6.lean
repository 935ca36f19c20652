/- The document's Mine. -/
import Derived.Test.YtgpinecfmhenkaaDoorUT5
import Derived.Test.YtgpinecfmhenkaaDoorUH1
namespace Go.Proofs.YtgpinecfmhenkaaDoor
open Go.RowKit

/-- What the document says of a router's id: the id, is there a conflict, the claim. -/
def dMn (L : List Cl) (self : Int) : Int × Bool × Int × Value :=
  match lstO L self with
  | none => (0, false, 0, nilS)
  | some x => if 2 ≤ x.2.1.length then (0, true, x.1, x.2.2) else (x.1, false, x.1, x.2.2)
/-- Where the least one so far stands. -/
def AtK (L : List Cl) (self : Int) (k : Nat) (at' : Int) : Prop :=
  (at' = -1 ∧ lstO (L.take k) self = none) ∨ (∃ (j : Nat) (y : Cl), at' = (j : Int) ∧ j < k ∧ L[j]? = some y ∧ lstO (L.take k) self = some y)
theorem AtK.keep {L : List Cl} {self at' : Int} {k : Nat} {x : Cl} (h : AtK L self k at') (hx : L[k]? = some x) (hn : (x.2.1.contains self && lstQ (lstO (L.take k) self) x.1) = false) : AtK L self (k + 1) at' := by
  have hs : lstO (L.take (k + 1)) self = lstO (L.take k) self := by
    rw [take_snoc hx, lstO_snoc]
    unfold lstC
    rw [hn]
    rfl
  unfold AtK
  rw [hs]
  rcases h with ⟨h1, h2⟩ | ⟨j, y, h1, h2, h3, h4⟩
  · exact .inl ⟨h1, h2⟩
  · exact .inr ⟨j, y, h1, by omega, h3, h4⟩
theorem AtK.next {L : List Cl} {self at' : Int} {k : Nat} {x : Cl} (_h : AtK L self k at') (hx : L[k]? = some x) (hn : (x.2.1.contains self && lstQ (lstO (L.take k) self) x.1) = true) : AtK L self (k + 1) (k : Int) := by
  refine .inr ⟨k, x, rfl, by omega, hx, ?_⟩
  rw [take_snoc hx, lstO_snoc]
  unfold lstC
  rw [hn]
  rfl
set_option maxRecDepth 100000 in
set_option maxHeartbeats 4000000 in
theorem dmine_any {L : List Cl} {v : Value} (self : Int) {w : World} (h : ClsAt w v L) :
    Calls Tryd.prog 11 #[v, .int .i64 self] w fun e w' => e = .returned (.tuple #[.int .i64 (dMn L self).1, .bool (dMn L self).2.1, .agg #[.int .i64 (dMn L self).2.2.1, (dMn L self).2.2.2]]) ∧ Below w.heap.size w w' := by
  obtain ⟨W, hW⟩ : ∃ W, w.alloc (.cells #[.int .i64 0, nilS] 31) = W := ⟨_, rfl⟩
  have hB0 : Below w.heap.size w W := by rw [← hW]; exact (Below.refl _ w).alloc (Nat.le_refl _) _
  have hq : W.heap[w.heap.size]? = some (.cells #[.int .i64 0, nilS] 31) := by rw [← hW]; exact heap_alloc_last w _
  have HL := hidIn (h.keep hB0 (Nat.le_refl _))
  have HB := hidIn hB0
  have HW := hidIn hW
  have HQ := hidIn hq
  obtain ⟨a, cap, rfl, hn, _, _⟩ := h.r.clms
  clear h hB0 hW hq
  obtain ⟨q, hqe⟩ : ∃ q, w.heap.size = q := ⟨_, rfl⟩
  rw [hqe] at HB HQ ⊢
  have Hqe := hidIn hqe
  obtain ⟨ln, hln⟩ : ∃ ln, L.length = ln := ⟨_, rfl⟩
  have Hln := hidIn hln
  have HAt := hidIn HL.out.r.clms
  rw [hln] at HL hn HAt ⊢
  clear hln
  go_enter Tryd.func11, Tryd.ntmps11
  go_upto_region 1 with fail
  rw [HW.out]
  clear HW hqe
  go_wp2_with fail
  go_loopw [7, 8] (fun p i wr => ∃ (k qn : Nat) (at' : Int), k ≤ ln ∧ i = .int .i64 k ∧ p = .int .i64 at' ∧ wr = W.drewN qn ∧ Hid (AtK L self k at')) (fun _ i _ => ln - (intOf i).toNat)
  case atStart => exact ⟨0, 0, -1, Nat.zero_le _, rfl, rfl, rfl, hidIn (.inl ⟨rfl, rfl⟩)⟩
  case round =>
    obtain ⟨k, qn, at', hk, rfl, rfl, rfl, HA⟩ := hrel
    obtain ⟨V, hV, hVB⟩ : ∃ V, W.drewN qn = V ∧ Below W.heap.size W V := ⟨_, rfl, below_drewN (Below.refl _ _) _⟩
    rw [hV]
    have HV := hidIn hV
    have HVB := hidIn hVB
    obtain ⟨a', cap', hae, _, _, hat⟩ := (HL.out.keep hVB (Nat.le_refl _)).r.clms
    have HLA := hidIn (HL.out.keep hVB (Nat.le_refl _)).a
    simp only [Value.slice.injEq] at hae
    obtain ⟨rfl, h5a, rfl⟩ := hae
    clear h5a hV hVB
    by_cases hlt : k < ln
    · obtain ⟨⟨x, xs, xv⟩, hz⟩ : ∃ z, L[k]? = some z := ⟨L[k]'(by have := Hln.out; omega), List.getElem?_eq_getElem _⟩
      obtain ⟨bk, o, rfl, hbk, hcell⟩ := hat (by have := Hln.out; omega)
      obtain ⟨c0, c1⟩ := hcell k _ hz
      obtain ⟨hxs, _⟩ := HLA.out _ (List.mem_of_getElem? hz)
      simp only at c0 c1 hxs
      have hki : (k : Int) < (ln : Int) := by omega
      have HH : Hid (∀ m, Calls Tryd.prog 23 #[xv, .int .i64 self] (V.drewN m) fun e w' => e = .returned (.bool (xs.contains self)) ∧ w' = V.drewN m) := hidIn fun m => dhas_any self (hxs.keep (w' := V.drewN m) (below_drewN (Below.refl _ _) m) (Nat.le_refl _))
      obtain ⟨xa, xc, rfl, _⟩ := hxs
      have HK := hidIn (fun hn => AtK.keep HA.out hz hn)
      have HX := hidIn (fun hn => AtK.next HA.out hz hn)
      simp only at HK HX
      obtain ⟨bc, hbc⟩ : ∃ bc, xs.contains self = bc := ⟨_, rfl⟩
      rw [hbc] at HH HK HX
      generalize hxl : xs.length = xl at *
      clear hbc hxl
      cases bc
      · clear hcell hat
        go_wp2_with fail
        go_quiet (first | (go_at_call 23; exact Calls.quiet_of_same (HH.out _)))
        go_wp2_with fail
        go_roundw
        case rel => exact ⟨k + 1, qn + nq, at', by omega, by go_num, rfl, by rw [← HV.out]; first | rfl | rw [World.drewN_drewN], hidIn (HK.out rfl)⟩
        case measure => simp [intOf]; omega
      · rcases HA.out with ⟨ha, ho⟩ | ⟨j, y, ha, hj, hy, ho⟩
        · have hd : decide (at' < 0) = true := by rw [ha]; rfl
          rw [ho] at HX
          clear hcell hat ha ho HK
          go_wp2_with fail
          go_quiet (first | (go_at_call 23; exact Calls.quiet_of_same (HH.out _)))
          go_wp2_with fail
          go_roundw
          case rel => exact ⟨k + 1, qn + nq, (k : Int), by omega, by go_num, rfl, by rw [← HV.out]; first | rfl | rw [World.drewN_drewN], hidIn (HX.out rfl)⟩
          case measure => simp [intOf]; omega
        · obtain ⟨y1, y2, y3⟩ := y
          obtain ⟨d0, _⟩ := hcell j _ hy
          simp only at d0
          have hji : (j : Int) < (ln : Int) := by omega
          have hd : decide ((j : Int) < 0) = false := by simp
          rw [ho] at HX HK
          rw [ha]
          have HA2 := hidIn ha
          obtain ⟨bl, hbl⟩ : ∃ bl, decide (x < y1) = bl := ⟨_, rfl⟩
          simp only [lstQ, hbl] at HX HK
          clear hcell hat ho hy hj ha
          cases bl
          · go_wp2_with fail
            go_quiet (first | (go_at_call 23; exact Calls.quiet_of_same (HH.out _)))
            go_wp2_with fail
            go_roundw
            case rel => exact ⟨k + 1, qn + nq, at', by omega, by go_num, by rw [HA2.out], by rw [← HV.out]; first | rfl | rw [World.drewN_drewN], hidIn (HK.out rfl)⟩
            case measure => simp [intOf]; omega
          · go_wp2_with fail
            go_quiet (first | (go_at_call 23; exact Calls.quiet_of_same (HH.out _)))
            go_wp2_with fail
            go_roundw
            case rel => exact ⟨k + 1, qn + nq, (k : Int), by omega, by go_num, rfl, by rw [← HV.out]; first | rfl | rw [World.drewN_drewN], hidIn (HX.out rfl)⟩
            case measure => simp [intOf]; omega
    · have hki : ¬ (k : Int) < (ln : Int) := by omega
      have hqV := (HVB.out.block q (block_lt HQ.out)).trans HQ.out
      have hBV := HB.out.trans (HVB.out.mono (by have := HB.out.size; have := Hqe.out; omega))
      have q0 := cell_of_row _ _ 0 _ _ _ hqV
      have q1 := cell_of_row _ _ 1 _ _ _ hqV
      have f0 := frozen_new hqV 0
      have f1 := frozen_new hqV 1
      simp at q0 q1
      have htk : L.take k = L := List.take_of_length_le (by have := Hln.out; omega)
      rcases HA.out with ⟨ha, ho⟩ | ⟨j, y, ha, hj, hy, ho⟩
      · rw [htk] at ho
        have HEq : Hid (dMn L self = (0, false, 0, nilS)) := hidIn (by unfold dMn; rw [ho])
        obtain ⟨U, hU, e0, e1, hBU⟩ := claim_set hqV hBV (Nat.le_refl _) (.int .i64 0) nilS
        have HU := hidIn hU
        have HBU := hidIn hBU
        have hd : at' < 0 := by rw [ha]; decide
        clear hat hqV hBV htk ho hU hBU ha
        go_wp2_with fail
        rw [HU.out]
        refine bodyPost_ret (v := .tuple #[.int .i64 0, .bool false, .agg #[.int .i64 0, nilS]]) (by simp [results, Tryd.results11, asAddr, Result.andThen, go_sem, e0, e1]) rfl ⟨by rw [HEq.out], HBU.out⟩
      · rw [htk] at ho
        obtain ⟨y1, y2, y3⟩ := y
        obtain ⟨bk, o, rfl, hbk, hcell⟩ := hat (by have := Hln.out; have := (List.getElem?_eq_some_iff.1 hy).1; omega)
        obtain ⟨c0, c1⟩ := hcell j _ hy
        obtain ⟨hys, _⟩ := HLA.out _ (List.mem_of_getElem? hy)
        simp only at c0 c1 hys
        obtain ⟨ya, yc, rfl, _⟩ := hys
        have hji : (j : Int) < (ln : Int) := by have := (List.getElem?_eq_some_iff.1 hy).1; have := Hln.out; omega
        have hjn : ¬ (j : Int) < 0 := by omega
        obtain ⟨U, hU, e0, e1, hBU⟩ := claim_set hqV hBV (Nat.le_refl _) (.int .i64 y1) (.slice ya y2.length yc)
        have HU := hidIn hU
        have HBU := hidIn hBU
        rw [ha]
        by_cases h2 : 2 ≤ y2.length
        · have HEq : Hid (dMn L self = (0, true, y1, .slice ya y2.length yc)) := hidIn (by unfold dMn; rw [ho]; simp only [if_pos h2])
          have hd : (1 : Int) < (y2.length : Int) := by omega
          generalize y2.length = yl at *
          clear hcell hat hqV hBV htk ho hU hBU hy ha hj h2
          go_wp2_with fail
          go_region
          all_goals (go_wp2_with fail)
          all_goals (rw [HU.out])
          all_goals (refine bodyPost_ret (v := .tuple #[.int .i64 0, .bool true, .agg #[.int .i64 y1, .slice ya yl yc]]) (by simp [results, Tryd.results11, asAddr, Result.andThen, go_sem, e0, e1]) rfl ⟨by rw [HEq.out], HBU.out.drew⟩)
        · have HEq : Hid (dMn L self = (y1, false, y1, .slice ya y2.length yc)) := hidIn (by unfold dMn; rw [ho]; simp only [if_neg h2])
          have hd : ¬ (1 : Int) < (y2.length : Int) := by omega
          generalize y2.length = yl at *
          clear hcell hat hqV hBV htk ho hU hBU hy ha hj h2
          go_wp2_with fail
          go_region
          all_goals (go_wp2_with fail)
          all_goals (rw [HU.out])
          all_goals (refine bodyPost_ret (v := .tuple #[.int .i64 y1, .bool false, .agg #[.int .i64 y1, .slice ya yl yc]]) (by simp [results, Tryd.results11, asAddr, Result.andThen, go_sem, e0, e1]) rfl ⟨by rw [HEq.out], HBU.out.drew⟩)
end Go.Proofs.YtgpinecfmhenkaaDoor
