/- FatePlays: the document's Check. -/
import Derived.Test.YtkkgbcoclfpicaaFP0
import Derived.Test.YtkkgbcoclfpicaaFO2
namespace Go.Proofs.Ytkkgbcoclfpicaa.Fa
open Go.RowKit

set_option maxRecDepth 100000 in
set_option maxHeartbeats 8000000 in
theorem dchk_any {l : List Ru} {v : Value} {w : World} (h : SlAt ruC 5 w v l) {n c : Int} (hc : chkR l = (n, c)) :
    Calls Try.prog 7 #[v] w fun e w' => e = .returned (.tuple #[.int .i64 n, .int .i64 c]) ∧ Below w.heap.size w w' := by
  obtain ⟨a, cap, rfl, hl, hat⟩ := SlAt_rus h
  have Ha := hidIn hat
  have Hc := hidIn hc
  clear hat h hc
  obtain ⟨ln, hln⟩ : ∃ ln, l.length = ln := ⟨_, rfl⟩
  rw [hln] at Ha hl ⊢
  have Hln := hidIn hln
  by_cases h64 : ln ≤ 64
  · have h64' : ¬ (64 : Int) < (ln : Int) := by omega
    clear hln
    go_enter Try.func7, Try.ntmps7
    go_wp2_with fail
    go_loopw [4] (fun i wr => ∃ k : Nat, k ≤ ln ∧ i = .int .i64 k ∧ Hid (Below w.heap.size w wr ∧ ∀ j, j < k → badAt l j = 0)) (fun i _ => ln - (intOf i).toNat)
    case atStart => exact ⟨0, Nat.zero_le _, rfl, hidIn ⟨Below.refl _ _, fun j hj => by omega⟩⟩
    case round =>
      obtain ⟨k, hk, rfl, HR⟩ := hrel
      by_cases hlt : k < ln
      · have hki : (k : Int) < (ln : Int) := by omega
        obtain ⟨bk, o, rfl, hbk, hcell⟩ := Ha.out (by omega)
        obtain ⟨r, hr⟩ : ∃ r, l[k]? = some r := ⟨l[k]'(by have := Hln.out; omega), List.getElem?_eq_getElem _⟩
        obtain ⟨hbel, hbad⟩ := HR.out
        have HCell : Hid (∀ wq, Below w.heap.size w wq → ∀ j e, l[j]? = some e → wq.cell? ⟨bk, o + j * 5, none⟩ = some (.int .i64 e.1) ∧ wq.cell? ⟨bk, o + j * 5 + 1, none⟩ = some (.int .i64 e.2.1) ∧ wq.cell? ⟨bk, o + j * 5 + 2, none⟩ = some (.int .i64 e.2.2.1) ∧ wq.cell? ⟨bk, o + j * 5 + 3, none⟩ = some (.int .i64 e.2.2.2.1) ∧ wq.cell? ⟨bk, o + j * 5 + 4, none⟩ = some (.int .i64 e.2.2.2.2)) := hidIn fun wq hF j e he => by
          obtain ⟨q0, q1, q2, q3, q4⟩ := hcell j e he
          exact ⟨(hF.cell (p := ⟨bk, o + j * 5, none⟩) hbk).trans q0, (hF.cell (p := ⟨bk, o + j * 5 + 1, none⟩) hbk).trans q1, (hF.cell (p := ⟨bk, o + j * 5 + 2, none⟩) hbk).trans q2, (hF.cell (p := ⟨bk, o + j * 5 + 3, none⟩) hbk).trans q3, (hF.cell (p := ⟨bk, o + j * 5 + 4, none⟩) hbk).trans q4⟩
        obtain ⟨c0, c1, c2, c3, c4⟩ := HCell.out _ hbel k r hr
        have HBAD : Hid (∀ e, badAt l k = e → e ≠ 0 → chkR l = ((k : Int), e)) := hidIn fun e he hne => chk_stop (by have := Hln.out; omega) (by have := Hln.out; omega) hbad he hne
        have HBA : Hid (badAt l k = if ruOk r = true then (if (findR (l.take k) (kR r)).isSome = true then 7 else 0) else 2) := hidIn (by unfold badAt; rw [hr])
        have HB0 := hidIn hbad
        have HBel := hidIn hbel
        have Hr := hidIn hr
        clear hbel hbad hcell hr HR hbk
        go_wp2_with fail
        refine (dmay_any r wr).mono ?_
        rintro e' w2 ⟨rfl, hb2⟩
        have HB2 := hidIn (HBel.out.trans (hb2.mono HBel.out.size))
        clear c0 c1 c2 c3 c4 hb2
        have HHb : ∃ b1, ruOk r = b1 := ⟨_, rfl⟩
        obtain ⟨b1, hb1⟩ := HHb
        have Hb1 := hidIn hb1
        rw [hb1]
        clear hb1
        cases b1
        · have HE : Hid (n = (k : Int) ∧ c = 2) := hidIn (by
            have := HBAD.out 2 (by rw [HBA.out, if_neg (by rw [Hb1.out]; simp)]) (by omega)
            rw [Hc.out] at this
            exact ⟨congrArg (·.1) this, congrArg (·.2) this⟩)
          go_wp2_with fail
          go_returns
          exact ⟨by rw [HE.out.1, HE.out.2]; rfl, HB2.out⟩
        go_wp2_with fail
        go_loopw [5] (fun i wr => ∃ j : Nat, j ≤ k ∧ i = .int .i64 j ∧ Hid (Below w2.heap.size w2 wr ∧ findR (l.take j) (kR r) = none)) (fun i _ => k - (intOf i).toNat)
        case atStart => exact ⟨0, Nat.zero_le _, rfl, hidIn ⟨Below.refl _ _, by simp [findR]⟩⟩
        case round =>
          obtain ⟨j, hj, rfl, HZ⟩ := hrel
          have hbz := HB2.out.trans (HZ.out.1.mono HB2.out.size)
          by_cases hlj : j < k
          · have hji : (j : Int) < (k : Int) := by omega
            have hjl : (j : Int) < (ln : Int) := by omega
            obtain ⟨s, hs⟩ : ∃ s, l[j]? = some s := ⟨l[j]'(by have := Hln.out; omega), List.getElem?_eq_getElem _⟩
            obtain ⟨c0, c1, c2, _, _⟩ := HCell.out _ hbz j s hs
            obtain ⟨d0, d1, d2, _, _⟩ := HCell.out _ hbz k r Hr.out
            have c0 := cell_regrown c0
            have c1 := cell_regrown c1
            have c2 := cell_regrown c2
            have d0 := cell_regrown d0
            have d1 := cell_regrown d1
            have d2 := cell_regrown d2
            obtain ⟨e1, he1⟩ : ∃ e, (s.1 == r.1) = e := ⟨_, rfl⟩
            obtain ⟨e2, he2⟩ : ∃ e, (s.2.1 == r.2.1) = e := ⟨_, rfl⟩
            obtain ⟨e3, he3⟩ : ∃ e, (s.2.2.1 == r.2.2.1) = e := ⟨_, rfl⟩
            have HE : Hid (kR s = kR r ↔ (e1 = true ∧ e2 = true ∧ e3 = true)) := hidIn (by
              rw [← he1, ← he2, ← he3]
              simp [kR])
            have HNo : Hid (¬ (e1 = true ∧ e2 = true ∧ e3 = true) → findR (l.take (j + 1)) (kR r) = none) := hidIn (fun hne => by
              rw [find_take hs, if_neg (fun h => hne (HE.out.1 h)), Option.or_none]
              exact HZ.out.2)
            have Hs := hidIn hs
            have Hbz := hidIn HZ.out.1
            have HBz := hidIn hbz
            clear hbz hs HZ
            cases e1 with
            | false =>
              clear he2 he3 c1 c2 d1 d2
              go_wp2_with fail
              refine wp_region_quiet_below (by kernel_rfl) (by kernel_rfl) ?_
              repeat (go_big_quiet_step (fail))
              refine wpQuiet_nil ?_
              intro _ hw'
              obtain ⟨⟨dq, osq⟩, hw''⟩ := hw'
              subst hw''
              have hq5 := below_regrown wr dq osq
              generalize Go.Sort.grow (redrawn wr dq) osq = W5x at hq5 ⊢
              have Hz := hidIn (Hbz.out.trans (hq5.mono Hbz.out.size))
              have HNn := hidIn (HNo.out (by simp))
              clear hq5
              go_wp2_with fail
              go_roundw
              case rel => exact ⟨j + 1, by omega, by go_num, hidIn ⟨Hz.out, HNn.out⟩⟩
              case measure => simp [intOf]; omega
            | true =>
              cases e2 with
              | false =>
                clear he3 c2 d2
                go_wp2_with fail
                refine wp_region_quiet_below (by kernel_rfl) (by kernel_rfl) ?_
                repeat (go_big_quiet_step (fail))
                refine wpQuiet_nil ?_
                intro _ hw'
                obtain ⟨⟨dq, osq⟩, hw''⟩ := hw'
                subst hw''
                have hq5 := below_regrown wr dq osq
                generalize Go.Sort.grow (redrawn wr dq) osq = W5x at hq5 ⊢
                have Hz := hidIn (Hbz.out.trans (hq5.mono Hbz.out.size))
                have HNn := hidIn (HNo.out (by simp))
                clear hq5
                go_wp2_with fail
                go_roundw
                case rel => exact ⟨j + 1, by omega, by go_num, hidIn ⟨Hz.out, HNn.out⟩⟩
                case measure => simp [intOf]; omega
              | true =>
                cases e3 with
                | false =>
                  go_wp2_with fail
                  refine wp_region_quiet_below (by kernel_rfl) (by kernel_rfl) ?_
                  repeat (go_big_quiet_step (fail))
                  refine wpQuiet_nil ?_
                  intro _ hw'
                  obtain ⟨⟨dq, osq⟩, hw''⟩ := hw'
                  subst hw''
                  have hq5 := below_regrown wr dq osq
                  generalize Go.Sort.grow (redrawn wr dq) osq = W5x at hq5 ⊢
                  have Hz := hidIn (Hbz.out.trans (hq5.mono Hbz.out.size))
                  have HNn := hidIn (HNo.out (by simp))
                  clear hq5
                  go_wp2_with fail
                  go_roundw
                  case rel => exact ⟨j + 1, by omega, by go_num, hidIn ⟨Hz.out, HNn.out⟩⟩
                  case measure => simp [intOf]; omega
                | true =>
                  have HX : Hid (n = (k : Int) ∧ c = 7) := hidIn (by
                    have hsome : (findR (l.take k) (kR r)).isSome = true := by
                      cases hf : findR (l.take k) (kR r) with
                      | some _ => rfl
                      | none =>
                        have hmem : s ∈ l.take k := List.mem_of_getElem? (by rw [List.getElem?_take, if_pos hlj]; exact Hs.out)
                        exact absurd (HE.out.2 ⟨rfl, rfl, rfl⟩) (findR_none.1 hf s hmem)
                    have := HBAD.out 7 (by rw [HBA.out, if_pos Hb1.out, if_pos hsome]) (by omega)
                    rw [Hc.out] at this
                    exact ⟨congrArg (·.1) this, congrArg (·.2) this⟩)
                  go_wp2_with fail
                  refine wp_region_quiet_below (by kernel_rfl) (by kernel_rfl) ?_
                  repeat (go_big_quiet_step (fail))
                  refine wpQuiet_nil ?_
                  intro _ hw'
                  obtain ⟨⟨dq, osq⟩, hw''⟩ := hw'
                  subst hw''
                  have hq5 := below_regrown wr dq osq
                  generalize Go.Sort.grow (redrawn wr dq) osq = W5x at hq5 ⊢
                  have Hz := hidIn (HBz.out.trans (hq5.mono HBz.out.size))
                  clear hq5
                  go_wp2_with fail
                  go_returns
                  exact ⟨by rw [HX.out.1, HX.out.2]; rfl, Hz.out⟩
          · have hji : ¬ (j : Int) < (k : Int) := by omega
            have hjk : j = k := by omega
            have HG : Hid (badAt l k = 0) := hidIn (by
              have hf := HZ.out.2
              rw [hjk] at hf
              rw [HBA.out, if_pos Hb1.out, hf]
              rfl)
            have HBz := hidIn hbz
            clear hbz hjk HZ
            go_wp2_with fail
            go_roundw
            case rel => exact ⟨k + 1, by omega, by go_num, hidIn ⟨HBz.out, fun i hi => by
              by_cases hik : i < k
              · exact HB0.out i hik
              · rw [show i = k from by omega]; exact HG.out⟩⟩
            case measure => simp [intOf]; omega
      · have hki : ¬ (k : Int) < (ln : Int) := by omega
        have hke : k = l.length := by have := Hln.out; omega
        have HE : Hid (n = 0 ∧ c = 0) := hidIn (by
          have := chk_done (by have := Hln.out; omega) (fun j hj => HR.out.2 j (by omega))
          rw [Hc.out] at this
          exact ⟨congrArg (·.1) this, congrArg (·.2) this⟩)
        have HB := hidIn HR.out.1
        clear hke HR
        go_wp2_with fail
        go_returns
        exact ⟨by rw [HE.out.1, HE.out.2]; rfl, HB.out⟩
  · have h64' : (64 : Int) < (ln : Int) := by omega
    have HE : Hid (n = 64 ∧ c = 3) := hidIn (by
      have := chk_long (l := l) (by omega)
      rw [Hc.out] at this
      exact ⟨congrArg (·.1) this, congrArg (·.2) this⟩)
    clear hln
    go_enter Try.func7, Try.ntmps7
    go_wp2_with fail
    refine bodyPost_ret (v := .tuple #[.int .i64 64, .int .i64 3]) (by simp [results, Try.results7, asAddr, go_sem]) rfl ⟨by rw [HE.out.1, HE.out.2], Below.refl _ _⟩
end Go.Proofs.Ytkkgbcoclfpicaa.Fa
