/- The document's Ids. -/
import Derived.Test.YtnhlonapbohaeaaUH2
import Derived.Test.YtnhlonapbohaeaaUC
namespace Go.Proofs.Ytnhlonapbohaeaa
open Go.RowKit

theorem frI_free (T : List (Int × List Int)) (n : Int) : frI (freeT T) n = frI T n := by
  unfold frI freeT
  rw [List.filter_filter]
  congr 1
  refine List.filter_congr fun p _ => ?_
  by_cases h : p.2 = [n]
  · simp [h]
  · simp [h]
theorem rsL_app (a b c : List Int) (h : ∀ x, x ∈ a ↔ x ∈ b) : rsL (a ++ c) = rsL (b ++ c) := rsL_same fun y => by rw [List.mem_append, List.mem_append, h]
set_option maxRecDepth 100000 in
set_option maxHeartbeats 4000000 in
theorem dids_T {T : List (Int × List Int)} {v rv : Value} {R : List Int} {w : World} (h : TAt w v T) (hl : T.length ≤ 100) (hr : SlAt ic 1 w rv R) (hRl : R.length ≤ 100) :
    Calls Try.prog 15 #[v, rv] w fun e w' => (∃ u1 u2, e = .returned (.tuple #[u1, u2]) ∧ SlAt ic 1 w' u1 (rsL (R.flatMap (frI T))) ∧ SlAt ic 1 w' u2 (rsL (R.filter fun n => (frI T n).isEmpty))) ∧ Below w.heap.size w w' := by
  have HF := hidIn (dfree_T h (by omega))
  have hfl : (freeT T).length ≤ 100 := Nat.le_trans (List.length_filter_le _ _) hl
  have HTl := hidIn hl
  have HF1 : Hid (∀ p ∈ freeT T, p.2.length = 1) := hidIn fun p hp => by
    have := (List.mem_filter.1 hp).2
    simpa using this
  have HRs := hidIn hr
  obtain ⟨ra, rc, rfl, _, _, hat⟩ := hr.ints
  have Ha := hidIn hat
  obtain ⟨rn, hrn⟩ : ∃ rn, R.length = rn := ⟨_, rfl⟩
  have Hrn := hidIn hrn
  obtain ⟨va, vc, rfl⟩ := h.shape
  rw [hrn] at hRl ⊢
  clear h hr hat hrn hl
  go_enter Try.func15, Try.ntmps15
  go_wp2_with fail
  refine HF.out.mono ?_
  rintro e w1 ⟨⟨u, rfl, hu⟩, hb1⟩
  have HFr : Hid (∀ q, frI (freeT T) q = frI T q) := hidIn fun q => frI_free T q
  generalize freeT T = F at hu hfl HF1 HFr
  obtain ⟨fa, fc, rfl, _, _, hfo⟩ := hu.op
  have HFo := hidIn hfo
  have HB1 := hidIn hb1
  obtain ⟨fn, hfn⟩ : ∃ fn, F.length = fn := ⟨_, rfl⟩
  have Hfn := hidIn hfn
  rw [hfn] at hfl ⊢
  clear hu hfo hb1 HF hfn
  go_wp2_with fail
  go_loopw [7, 8, 9] (fun ua ub i wr => ∃ k : Nat, k ≤ rn ∧ i = .int .i64 k ∧ Hid (SlAt ic 1 wr ua (rsL ((R.take k).flatMap (frI T))) ∧ SlAt ic 1 wr ub (rsL ((R.take k).filter fun n => (frI T n).isEmpty)) ∧ Below w1.heap.size w1 wr)) (fun _ _ i _ => rn - (intOf i).toNat)
  case atStart => exact ⟨0, Nat.zero_le _, rfl, hidIn ⟨by simp only [List.take_zero, List.flatMap_nil]; rw [rsL_nil]; exact slAt_of_row (cs := ic) (fun _ => rfl) (World.ownsRow_nil w1 0 3 1) rfl, by simp only [List.take_zero, List.filter_nil]; rw [rsL_nil]; exact slAt_of_row (cs := ic) (fun _ => rfl) (World.ownsRow_nil w1 0 3 1) rfl, Below.refl _ _⟩⟩
  case round =>
    obtain ⟨k, hk, rfl, HR⟩ := hrel
    by_cases hlt : k < rn
    · obtain ⟨bk, o, rfl, hbk, hcell⟩ := Ha.out (by have := Hrn.out; omega)
      obtain ⟨q, hq⟩ : ∃ q, R[k]? = some q := ⟨R[k]'(by have := Hrn.out; omega), List.getElem?_eq_getElem _⟩
      have HQc := hidIn (hcell k q hq)
      have hki : (k : Int) < (rn : Int) := by omega
      have hlA : ((R.take k).flatMap (frI T)).length ≤ 10000 := by
        have h1 : ∀ X : List Int, (X.flatMap (frI T)).length ≤ X.length * 100 := fun X => by
          induction X with
          | nil => simp
          | cons x X ih =>
            rw [List.flatMap_cons, List.length_append, List.length_cons, Nat.succ_mul]
            have := frI_len T x
            have := HTl.out
            omega
        have h2 := h1 (R.take k)
        have h3 : (R.take k).length ≤ 100 := by rw [List.length_take]; omega
        omega
      have HA1 : Hid ((R.take (k + 1)).flatMap (frI T) = (R.take k).flatMap (frI T) ++ frI T q) := hidIn (by rw [take_snoc hq, List.flatMap_append]; simp)
      have HB2 : Hid (((R.take (k + 1)).filter fun n => (frI T n).isEmpty) = ((R.take k).filter fun n => (frI T n).isEmpty) ++ (if (frI T q).isEmpty then [q] else [])) := hidIn (by
        rw [take_snoc hq, List.filter_append]
        congr 1
        cases hh : (frI T q).isEmpty <;> simp [hh])
      have HlB : Hid (((R.take k).filter fun n => (frI T n).isEmpty).length ≤ 100) := hidIn (Nat.le_trans (List.length_filter_le _ _) (by rw [List.length_take]; omega))
      obtain ⟨h1, h2, h3⟩ := HR.out
      have HS1 : Hid (SlAt ic 1 wr u7 (rsL ((R.take k).flatMap (frI T) ++ frI (F.take 0) q))) := hidIn (by simpa [frI] using h1)
      have HS2 := hidIn h2
      have HW := hidIn h3
      generalize (R.take k).flatMap (frI T) = la at HS1 HA1 hlA
      generalize ((R.take k).filter fun n => (frI T n).isEmpty) = lb at HS2 HB2 HlB
      have HlA := hidIn hlA
      clear HR h1 h2 h3 hcell hq hlA
      go_wp2_with fail
      generalize hwo : wr = wo at *
      clear hwo
      go_loopw [7, 10, 11] (fun ua b i wz => ∃ j : Nat, j ≤ fn ∧ i = .int .i64 j ∧ b = .bool (!(frI (F.take j) q).isEmpty) ∧ Hid (SlAt ic 1 wz ua (rsL (la ++ frI (F.take j) q)) ∧ Below wo.heap.size wo wz)) (fun _ _ i _ => fn - (intOf i).toNat)
      case atStart => exact ⟨0, Nat.zero_le _, rfl, by simp [frI], hidIn ⟨HS1.out, Below.refl _ _⟩⟩
      case round =>
        clear HS1
        obtain ⟨j, hj, rfl, rfl, HR⟩ := hrel
        obtain ⟨hs, hbz⟩ := HR.out
        clear HR
        by_cases hltj : j < fn
        · obtain ⟨fb, fo, rfl, hfb, hfc⟩ := HFo.out (by have := Hfn.out; omega)
          obtain ⟨⟨id, xs⟩, hp⟩ : ∃ p, F[j]? = some p := ⟨F[j]'(by have := Hfn.out; omega), List.getElem?_eq_getElem _⟩
          obtain ⟨ya, yc, e1, e2, e3⟩ := hfc j _ hp
          have hx1 := HF1.out _ (List.mem_of_getElem? hp)
          simp only at e1 e2 e3 hx1
          obtain ⟨y, rfl⟩ : ∃ y, xs = [y] := List.length_eq_one_iff.1 hx1
          obtain ⟨yb, yo, rfl, hyb, hyc⟩ := e3 (by simp)
          have hw1z : Below w1.heap.size w1 wr := HW.out.trans (hbz.mono HW.out.size)
          have hwz : Below w.heap.size w wr := HB1.out.trans (hw1z.mono HB1.out.size)
          have c1 := (hw1z.cell (p := ⟨fb, fo + j * 2 + 1, none⟩) hfb).trans e2
          have c2 := (hw1z.cell (p := ⟨yb, yo + 0, none⟩) hyb).trans (hyc 0 y rfl)
          have c3 := (hwz.cell (p := ⟨bk, o + k, none⟩) hbk).trans HQc.out
          simp only [Nat.add_zero, List.length_cons, List.length_nil, Nat.zero_add] at c1 c2
          have HJ : Hid (frI (F.take (j + 1)) q = frI (F.take j) q ++ (if [y] = [q] then [id] else [])) := hidIn (by rw [take_snoc hp]; exact frI_snoc _ _ _)
          have hji : (j : Int) < (fn : Int) := by omega
          have HE1 : Hid (w1.cell? ⟨fb, fo + j * 2, none⟩ = some (.int .i64 id)) := hidIn e1
          have HSl := hidIn hs
          have HBz := hidIn hbz
          have hfrl := frI_len (F.take j) q
          have HlF : Hid ((frI (F.take j) q).length ≤ 100) := hidIn (by rw [List.length_take] at hfrl; omega)
          clear hp e1 e2 e3 hx1 hyc hw1z hwz hs hbz hfc hfrl
          by_cases hyq : y = q
          · have hqq : (y == q) = true := by simpa using hyq
            have HJ' : Hid (frI (F.take (j + 1)) q = frI (F.take j) q ++ [id]) := hidIn (by rw [HJ.out, if_pos (by rw [hyq])])
            clear hyq HJ
            go_wp2_with fail
            go_quiet (fail)
            generalize hwn : World.drewN wr _ = wn
            have hbn : Below wo.heap.size wo wn := by rw [← hwn]; exact below_drewN HBz.out _
            have hsn : SlAt ic 1 wn u7 (rsL (la ++ frI (F.take j) q)) := HSl.out.keep (B := wr.heap.size) (by rw [← hwn]; exact below_drewN (Below.refl _ wr) _) (Nat.le_refl _)
            have c0 := ((HW.out.trans (hbn.mono HW.out.size)).cell (p := ⟨fb, fo + j * 2, none⟩) hfb).trans HE1.out
            have HWi := hidIn (dwith_any id hsn (rsL_ok _).1 (Nat.le_trans (rsL_len _) (by rw [List.length_append]; have := HlA.out; have := HlF.out; omega)))
            have HBn := hidIn hbn
            clear hwn hsn hbn c1 c2 c3 HSl HBz
            go_wp2_with fail
            refine HWi.out.mono ?_
            rintro e w5 ⟨⟨v', rfl, hv'⟩, hb5⟩
            have HO : Hid (SlAt ic 1 w5 v' (rsL (la ++ frI (F.take (j + 1)) q)) ∧ Below wo.heap.size wo w5) := hidIn ⟨by rw [HJ'.out, ← List.append_assoc, ← rsL_rs]; exact hv', HBn.out.trans (hb5.mono HBn.out.size)⟩
            have Hne : Hid ((!(frI (F.take (j + 1)) q).isEmpty) = true) := hidIn (by rw [HJ'.out]; simp)
            clear hv' hb5 HWi HBn c0
            go_wp2_with fail
            go_roundw
            case rel => exact ⟨j + 1, by omega, by go_num, by rw [Hne.out], HO⟩
            case measure => simp [intOf]; omega
          · have hqq : (y == q) = false := by simpa using hyq
            have HJ' : Hid (frI (F.take (j + 1)) q = frI (F.take j) q) := hidIn (by rw [HJ.out, if_neg (by simpa using hyq), List.append_nil])
            clear hyq HJ
            go_wp2_with fail
            go_quiet (fail)
            generalize hwn : World.drewN wr _ = wn
            have HO : Hid (SlAt ic 1 wn u7 (rsL (la ++ frI (F.take (j + 1)) q)) ∧ Below wo.heap.size wo wn) := hidIn ⟨by rw [HJ'.out]; exact HSl.out.keep (B := wr.heap.size) (by rw [← hwn]; exact below_drewN (Below.refl _ wr) _) (Nat.le_refl _), by rw [← hwn]; exact below_drewN HBz.out _⟩
            clear hwn c1 c2 c3 HSl HBz
            go_wp2_with fail
            go_roundw
            case rel => exact ⟨j + 1, by omega, by go_num, by rw [HJ'.out], HO⟩
            case measure => simp [intOf]; omega
        · have hji : ¬ ((j : Int) < (fn : Int)) := by omega
          have hje : F.take j = F := List.take_of_length_le (by have := Hfn.out; omega)
          rw [hje, HFr.out] at hs
          rw [hje, HFr.out]
          have hw1z : Below w1.heap.size w1 wr := HW.out.trans (hbz.mono HW.out.size)
          have hs2 := HS2.out.keep (B := wo.heap.size) hbz (Nat.le_refl _)
          obtain ⟨fb, hfb⟩ : ∃ fb, (frI T q).isEmpty = fb := ⟨_, rfl⟩
          rw [hfb] at HB2 ⊢
          have HS := hidIn hs
          have HW2 := hidIn hw1z
          cases fb
          · have HO : Hid (SlAt ic 1 wr u7 (rsL ((R.take (k + 1)).flatMap (frI T))) ∧ SlAt ic 1 wr u8 (rsL ((R.take (k + 1)).filter fun n => (frI T n).isEmpty)) ∧ Below w1.heap.size w1 wr) := hidIn ⟨by rw [HA1.out]; exact hs, by rw [HB2.out]; simpa using hs2, hw1z⟩
            clear hs hbz hw1z hs2 hje hfb
            go_wp2_with fail
            go_roundw
            case rel => exact ⟨k + 1, by omega, by go_num, HO⟩
            case measure => simp [intOf]; omega
          · have hwz : Below w.heap.size w wr := HB1.out.trans (hw1z.mono HB1.out.size)
            have c3 := (hwz.cell (p := ⟨bk, o + k, none⟩) hbk).trans HQc.out
            have HWi := hidIn (dwith_any q hs2 (rsL_ok _).1 (Nat.le_trans (rsL_len _) (by have := HlB.out; omega)))
            clear hs hbz hw1z hs2 hje hfb hwz
            go_wp2_with fail
            refine HWi.out.mono ?_
            rintro e w5 ⟨⟨v', rfl, hv'⟩, hb5⟩
            have HO : Hid (SlAt ic 1 w5 u7 (rsL ((R.take (k + 1)).flatMap (frI T))) ∧ SlAt ic 1 w5 v' (rsL ((R.take (k + 1)).filter fun n => (frI T n).isEmpty)) ∧ Below w1.heap.size w1 w5) := hidIn ⟨by rw [HA1.out]; exact HS.out.keep hb5 (Nat.le_refl _), by rw [HB2.out, if_pos (by trivial), ← rsL_rs]; exact hv', HW2.out.trans (hb5.mono HW2.out.size)⟩
            clear hv' hb5 HWi c3
            go_wp2_with fail
            go_roundw
            case rel => exact ⟨k + 1, by omega, by go_num, HO⟩
            case measure => simp [intOf]; omega
    · have hki : ¬ ((k : Int) < (rn : Int)) := by omega
      obtain ⟨h1, h2, h3⟩ := HR.out
      rw [List.take_of_length_le (by have := Hrn.out; omega)] at h1 h2
      have HE : Hid ((SlAt ic 1 wr u7 (rsL (R.flatMap (frI T))) ∧ SlAt ic 1 wr u8 (rsL (R.filter fun n => (frI T n).isEmpty))) ∧ Below w.heap.size w wr) := hidIn ⟨⟨h1, h2⟩, HB1.out.trans (h3.mono HB1.out.size)⟩
      clear h1 h2 h3 HR
      go_wp2_with fail
      go_ret2
      exact ⟨⟨_, _, rfl, HE.out.1.1, HE.out.1.2⟩, HE.out.2⟩
end Go.Proofs.Ytnhlonapbohaeaa
