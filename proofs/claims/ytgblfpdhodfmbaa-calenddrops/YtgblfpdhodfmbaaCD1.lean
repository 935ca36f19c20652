/- CalendDrops: the walk. -/
import Derived.Test.YtgblfpdhodfmbaaCD0
namespace Go.Proofs.Ytgblfpdhodfmbaa.Ca
open Go.RowKit Go.Maps

theorem even_ok (x : Int) (W : World) : Calls Try.prog 26 (#[.int .i64 x] ++ #[]) W fun e W' => e = .returned (.bool (evenB x)) ∧ W' = W := by
  show Calls Try.prog 26 #[.int .i64 x] W _
  by_cases h : Int.tmod x 2 = 0
  · have he : (Int.tmod x 2 == 0) = true := by simpa using h
    go_enter Try.func26, Try.ntmps26
    go_wp2
    go_ret
    exact ⟨by simp [evenB, h], rfl⟩
  · have he : (Int.tmod x 2 == 0) = false := by simpa using h
    go_enter Try.func26, Try.ntmps26
    go_wp2
    go_ret
    exact ⟨by simp [evenB, h], rfl⟩
theorem enterE (args : Array Value) (w : World) : (callFunc 26 args).run Try.prog w = .ok (Next.enter 26 args) w := by kernel_rfl
theorem infoBoo : (Try.prog.info? 4).map (fun i => (i.zero, i.size, i.bytes)) = some (some (.bool false), 1, 1) := by kernel_rfl
/-- The row of marks. -/
abbrev hrC (H : List Bool) : Array Value := (H.map Value.bool).toArray
theorem make_here (n : Nat) (hn : n ≤ 100) (w : World) : (Instr.makeSlice 56 (.int .i64 (n : Int)) (.int .i64 (n : Int))).run Try.prog w = .ok (.slice (some ⟨w.heap.size, 0, none⟩) n n) (w.alloc (.cells (hrC (List.replicate n false)) 4)) := by
  obtain ⟨i0, hi, hz0, hz1, hz2⟩ := info_parts infoBoo
  have := run_make (P := Try.prog) w 56 4 i0 (.bool false) Try.underlying56 hi hz0 .i64 .i64 n n (by omega) (Int.le_refl _) (by rw [hz2]; omega) (by omega)
  rw [hz1, Nat.mul_one] at this
  rw [this]
  simp only [Int.toNat_natCast]
  refine congrArg (fun a => Result.ok _ (w.alloc (.cells a _))) ?_
  unfold madeCells hrC
  apply Array.ext
  · simp
  · intro i h1 h2
    simp [Value.cells, Nat.mod_one]
theorem hr_cell {w : World} {hb : Nat} {H : List Bool} {t : TypeId} (h : w.heap[hb]? = some (.cells (hrC H) t)) {j : Nat} {b : Bool} (hj : H[j]? = some b) : w.cell? ⟨hb, j, none⟩ = some (.bool b) := by
  rw [cell_of_row w hb j _ _ _ h]
  simp [hj]
theorem hr_set {w : World} {hb : Nat} {H : List Bool} {t : TypeId} (h : w.heap[hb]? = some (.cells (hrC H) t)) (j : Nat) (b : Bool) : (w.setCell ⟨hb, j, none⟩ (.bool b)).heap[hb]? = some (.cells (hrC (H.set j b)) t) := by
  rw [heap_setCell_same w hb j _ _ (.bool b) h]
  simp [hrC, List.map_set]
set_option maxRecDepth 100000 in
set_option maxHeartbeats 4000000 in
theorem calendDrops_walk {A C : List Int} {va vc : Value} {w : World} (hA : SlAt u64c 1 w va A) (hAb : ∀ z ∈ A, 0 ≤ z ∧ z ≤ 18446744073709551615) (hC : SlAt ic 1 w vc C) (hCb : ∀ z ∈ C, (Lit.int .i64 z).wf = true) (odd : Bool) :
    Calls Try.prog 6 #[va, vc, .bool odd] w fun e w' => e = .returned (.bool true) ∧ Below w.heap.size w w' := by
  obtain ⟨pa, ca, rfl, hal, _, hac⟩ := sl_u64 hA
  obtain ⟨pc, cc, rfl, hcl, _, hcc⟩ := sl_i64 hC
  have HAb := hidIn hAb
  have HCb := hidIn hCb
  obtain ⟨q, hq⟩ : ∃ q, w.heap.size = q := ⟨_, rfl⟩
  rw [hq]
  have Hq := hidIn hq
  rw [hq] at hac hcc
  have HAc := hidIn hac
  have HCc := hidIn hcc
  obtain ⟨n, hn⟩ : ∃ n, (if 100 < A.length then 100 else A.length) = n := ⟨_, rfl⟩
  have Hn : Hid (n ≤ 100 ∧ n ≤ A.length) := hidIn (by rw [← hn]; split <;> omega)
  have Hn1 : Hid (100 < A.length → n = 100) := hidIn (fun h => by rw [← hn, if_pos h])
  have Hn2 : Hid (¬ 100 < A.length → n = A.length) := hidIn (fun h => by rw [← hn, if_neg h])
  have hmk := make_here n Hn.out.1
  have hWk := hidIn (S.works_ok w)
  rw [hq] at hWk
  clear hA hC hac hcc hAb hCb hq hn
  go_enter Try.func6, Try.ntmps6
  go_wp2_with fail
  refine hWk.out.mono ?_
  rintro e w1 ⟨rfl, hb1⟩
  have B1 := hidIn hb1
  have s1 : q ≤ w1.heap.size := by have := hb1.size; have := Hq.out; omega
  have N1 := hidIn (I.new_ok w1)
  clear hb1 hWk
  go_wp2_with fail
  refine N1.out.mono ?_
  rintro e w3 ⟨c, rfl, hC2, hb2⟩
  have C3 := hidIn hC2
  have B3 := hidIn (B1.out.trans (hb2.mono s1))
  have s2 : w1.heap.size ≤ w3.heap.size := hb2.size
  clear hC2 hb2 N1 B1
  go_upto_region 4 with fail
  go_cut [8] (fun x wx => x = .int .i64 n ∧ wx = w3)
  case first =>
    by_cases h100 : 100 < A.length
    · have h1 : (100 : Int) < (A.length : Int) := by omega
      go_wp2_with fail
      go_meet
      exact ⟨by rw [Hn1.out h100]; congr 1; omega, rfl⟩
    · have h1 : ¬ (100 : Int) < (A.length : Int) := by omega
      go_wp2_with fail
      go_meet
      exact ⟨by rw [Hn2.out h100]; congr 1; omega, rfl⟩
  case rest =>
    obtain ⟨rfl, hwc⟩ := hcut
    rw [hwc]
    clear hwc
    obtain ⟨hb, hhb⟩ : ∃ hb, w3.heap.size = hb := ⟨_, rfl⟩
    obtain ⟨W3, hW3⟩ : ∃ W3, w3.alloc (.cells (hrC (List.replicate n false)) 4) = W3 := ⟨_, rfl⟩
    have hb3 : Below hb w3 W3 := by rw [← hW3, ← hhb]; exact (Below.refl _ w3).alloc (Nat.le_refl _) _
    have HH3 : Hid (W3.heap[hb]? = some (.cells (hrC (List.replicate n false)) 4)) := hidIn (by rw [← hW3, ← hhb]; exact heap_alloc_last w3 _)
    obtain ⟨S, hS⟩ : ∃ S : Nat → Prop, S = fun k => q ≤ k ∧ k ≠ hb := ⟨_, rfl⟩
    have HS : Hid (∀ k, S k ↔ q ≤ k ∧ k ≠ hb) := hidIn (fun k => by rw [hS])
    have C4 : Hid (I.Cal W3 S c [] 0) := hidIn ((C3.out.mono (fun k hk h => (HS.out k).2 ⟨by omega, by omega⟩)).below (by rw [← hhb] at hb3; exact hb3))
    have B4 : Hid (Below q w W3) := hidIn (B3.out.trans (hb3.mono (by omega)))
    have HW3 := hidIn hW3
    have hqb : q ≤ hb := by omega
    have s3 : hb < W3.heap.size := block_lt HH3.out
    clear hb3 hW3 hS C3 B3
    go_upto_region 6 with fail
    rw [HW3.out]
    clear HW3 hhb
    go_wp2_with fail
    go_loopw [11] (fun i wr => ∃ k : Nat, k ≤ n ∧ i = .int .i64 k ∧ Hid (I.Cal wr S c (filL A k) k ∧ wr.heap[hb]? = some (.cells (hrC (List.replicate k true ++ List.replicate (n - k) false)) 4) ∧ Below q w wr)) (fun i _ => n - (intOf i).toNat)
    case atStart =>
      refine ⟨0, Nat.zero_le _, rfl, hidIn ⟨C4.out, by simpa using HH3.out, B4.out⟩⟩
    case round =>
      obtain ⟨k, hk, rfl, HR⟩ := hrel
      obtain ⟨r1, r2, r3⟩ := HR.out
      clear HR
      by_cases hlt : k < n
      · obtain ⟨bk, o, rfl, hbk, hcell⟩ := HAc.out (by have := Hn.out; omega)
        obtain ⟨x, hx⟩ : ∃ x, A[k]? = some x := ⟨A[k]'(by have := Hn.out; omega), List.getElem?_eq_getElem _⟩
        have x0 := (r3.cell (p := ⟨bk, o + k, none⟩) hbk).trans (hcell k x hx)
        have hF : Hid (filL A (k + 1) = insL (filL A k) ((((k : Nat) : Int), x), ((k + 1 : Nat) : Int))) := hidIn (filL_succ hx)
        have hn100 := Hn.out.1
        have P1 := hidIn (I.put_ok (k : Int) x r1 (by omega) (by rw [filL_length k (by have := Hn.out; omega)]; omega))
        have R2 := hidIn r2
        have R3 := hidIn r3
        have hki : (k : Int) < (n : Int) := by omega
        have hkA : (k : Int) < (A.length : Int) := by have := Hn.out; omega
        have hsq : hb < wr.heap.size := block_lt r2
        clear r1 r2 r3 hcell hx C4 B4 HH3
        go_wp2_with fail
        refine P1.out.mono ?_
        rintro e w4 ⟨rfl, hC4, hF4⟩
        have H4 := hidIn ((hF4.block hb hsq (fun h => ((HS.out hb).1 h).2 rfl)).trans R2.out)
        have C4 := hidIn (hC4.mono (fun j hj h => by
          rcases h with h | h
          · exact h
          · exact (HS.out j).2 ⟨by omega, by omega⟩))
        have B4 := hidIn (R3.out.trans (hF4.below (by omega) (fun k hk => ((HS.out k).1 hk).1)))
        have y0 := hr_cell H4.out (j := k) (b := false) (by rw [List.getElem?_append_right (by simp), List.length_replicate, Nat.sub_self, List.getElem?_replicate]; simp; omega)
        have f0 := frozen_new H4.out k
        have hset := hr_set H4.out k true
        obtain ⟨w5, hw5⟩ : ∃ w5, w4.setCell ⟨hb, k, none⟩ (.bool true) = w5 := ⟨_, rfl⟩
        rw [hw5] at hset
        have hF5 : Fr (fun j => j = hb) w4 w5 := by rw [← hw5]; exact (Fr.refl (fun j => j = hb) w4).set (p := ⟨hb, k, none⟩) rfl _
        have C5 := hidIn (C4.out.keep hF5 (fun j h1 h2 => ((HS.out j).1 h1).2 h2))
        have B5 := hidIn (B4.out.trans (hF5.below (by have := hF4.size; omega) (fun j hj => by omega)))
        have H5 : Hid (w5.heap[hb]? = some (.cells (hrC (List.replicate (k + 1) true ++ List.replicate (n - (k + 1)) false)) 4)) := hidIn (by
          rw [hset]
          congr 3
          rw [List.set_append_right _ _ (by simp), List.length_replicate, Nat.sub_self, show n - k = (n - (k + 1)) + 1 from by omega, List.replicate_succ, List.set_cons_zero, List.replicate_succ', List.append_assoc]; rfl)
        have HW5 := hidIn hw5
        clear hC4 hF4 x0 P1 hset hF5 hw5 H4 C4 B4
        go_wp2_with fail
        go_roundw
        case rel =>
          refine ⟨k + 1, by omega, by go_num, hidIn ?_⟩
          rw [HW5.out, hF.out]
          exact ⟨C5.out, H5.out, B5.out⟩
        case measure => simp [intOf]; omega
      · have hke : k = n := by omega
        have hki : ¬ ((k : Int) < (n : Int)) := by omega
        rw [hke] at r1 r2
        rw [Nat.sub_self, List.replicate_zero, List.append_nil] at r2
        have Q0 := qm_full Hn.out.2 r1.o
        have HLm : ∀ a ∈ filL A n, a.1.2 ≤ 18446744073709551615 := fun a ha => by
          obtain ⟨j, _, _, h3, _⟩ := (filL_mem n Hn.out.2 a).1 ha
          exact (HAb.out _ (List.mem_of_getElem? h3)).2
        have hLl : (filL A n).length = n := filL_length n Hn.out.2
        obtain ⟨L0, hL0⟩ : ∃ L0, filL A n = L0 := ⟨_, rfl⟩
        rw [hL0] at r1 Q0 HLm hLl
        have R1 := hidIn r1
        have R2 := hidIn r2
        have R3 := hidIn r3
        have RQ := hidIn Q0
        have RM := hidIn HLm
        have RL := hidIn hLl
        have hn100 := Hn.out.1
        clear r1 r2 r3 Q0 HLm hLl hL0 hke hk hlt C4 B4 HH3
        go_wp2_with fail
        go_loopw [10, 12] (fun lv i wx => ∃ (m : Nat) (L : List (Tg Int)) (H : List Bool), m ≤ 100 ∧ m ≤ C.length ∧ i = .int .i64 m ∧ lv = .int .i64 L.length ∧ L.length ≤ n ∧ Hid (I.Cal wx S c L n ∧ Qm n L H ∧ wx.heap[hb]? = some (.cells (hrC H) 4) ∧ Below q w wx ∧ ∀ a ∈ L, a.1.2 ≤ 18446744073709551615)) (fun _ i _ => 100 - (intOf i).toNat)
        case atStart =>
          exact ⟨0, L0, _, by omega, Nat.zero_le _, rfl, by rw [RL.out], Nat.le_of_eq RL.out, hidIn ⟨R1.out, RQ.out, R2.out, R3.out, RM.out⟩⟩
        case round =>
          obtain ⟨m, L, H, hm100, hmC, rfl, rfl, hLn, HR⟩ := hrel
          obtain ⟨r1, r2, r3, r4, r5⟩ := HR.out
          clear HR R1 R2 R3
          by_cases hgo : m < C.length ∧ m < 100
          · obtain ⟨hlt, hlt100⟩ := hgo
            have hmi : (m : Int) < (C.length : Int) := by omega
            have hmi100 : (m : Int) < 100 := by omega
            obtain ⟨bk, o, rfl, hbk, hcell⟩ := HCc.out (by omega)
            obtain ⟨t, ht⟩ : ∃ t, C[m]? = some t := ⟨C[m], List.getElem?_eq_getElem hlt⟩
            have t0 := (r4.cell (p := ⟨bk, o + m, none⟩) hbk).trans (hcell m t ht)
            have htw := HCb.out t (List.mem_of_getElem? ht)
            have htb : -9223372036854775808 ≤ t ∧ t ≤ 9223372036854775807 := bounds_i64 htw
            have DR := hidIn (I.drop_ok t htw r1 (by omega) (by omega))
            have R1 := hidIn r1
            have R2 := hidIn r2
            have R3 := hidIn r3
            have R4 := hidIn r4
            have R5 := hidIn r5
            clear r1 r2 r3 r4 r5 hcell ht htw hm100 hmC hlt
            go_upto_region 15 with fail
            go_cut [13] (fun kv wz => (∃ z : Int, kv = .int .i64 z ∧ (z = t - 1 ∨ (t = -9223372036854775808 ∧ z = 9223372036854775807))) ∧ wz = wr)
            case first =>
              go_wp2_with fail
              go_meet
              refine ⟨⟨_, rfl, ?_⟩, rfl⟩
              unfold wrap64
              omega
            case rest =>
              obtain ⟨⟨z, rfl, hz⟩, hwz⟩ := hcut
              rw [hwz]
              clear hwz
              have hzj : ∀ j : Nat, j < n → (t = ((j + 1 : Nat) : Int) ↔ z = (j : Int)) := fun j hj => by omega
              clear hz
              go_upto_region 16 with fail
              go_cut [14] (fun kv wz => (∃ b : Bool, kv = .bool b ∧ ((b = true ∧ ∃ j : Nat, j < n ∧ z = (j : Int) ∧ H[j]? = some true) ∨ (b = false ∧ ∀ j : Nat, j < n → z = (j : Int) → H[j]? = some false))) ∧ wz = wr)
              case first =>
                by_cases hz0 : 0 ≤ z
                · by_cases hzn : z < (n : Int)
                  · obtain ⟨j, rfl⟩ := Int.eq_ofNat_of_zero_le hz0
                    have hjn : j < n := by omega
                    have hjn' : (j : Int) < (n : Int) := by omega
                    rcases R2.out.some hjn with hj | hj
                    · have y0 := hr_cell R3.out hj
                      go_wp2_with fail
                      go_meet
                      exact ⟨⟨true, rfl, .inl ⟨rfl, j, hjn, rfl, hj⟩⟩, rfl⟩
                    · have y0 := hr_cell R3.out hj
                      go_wp2_with fail
                      go_meet
                      exact ⟨⟨false, rfl, .inr ⟨rfl, fun i _ hi => by
                        have : i = j := by omega
                        rw [this]; exact hj⟩⟩, rfl⟩
                  · have hzn2 : (n : Int) ≤ z := by omega
                    go_wp2_with fail
                    go_meet
                    exact ⟨⟨false, rfl, .inr ⟨rfl, fun i h1 h2 => by omega⟩⟩, rfl⟩
                · have hz1 : z < 0 := by omega
                  go_wp2_with fail
                  go_meet
                  exact ⟨⟨false, rfl, .inr ⟨rfl, fun i h1 h2 => by omega⟩⟩, rfl⟩
              case rest =>
                obtain ⟨⟨b, rfl, hb9⟩, hwz⟩ := hcut
                rw [hwz]
                clear hwz
                rcases hb9 with ⟨rfl, j, hjn, rfl, hj⟩ | ⟨rfl, hno⟩
                · have htj : t = ((j + 1 : Nat) : Int) := (hzj j hjn).2 rfl
                  have hany := R2.out.any hjn hj
                  rw [← htj] at hany
                  have HAny := hidIn hany
                  rw [hany.1] at DR
                  have y0 := hr_cell R3.out hj
                  have QD : Hid (Qm n (dropT L t) (H.set j false)) := hidIn (by rw [htj]; exact R2.out.drop hjn)
                  clear hany htj hzj
                  go_wp2_with fail
                  refine DR.out.mono ?_
                  rintro e w4 ⟨rfl, hC4, hF4⟩
                  have H4 := (hF4.block hb (block_lt R3.out) (fun h => ((HS.out hb).1 h).2 rfl)).trans R3.out
                  have y4 := hr_cell H4 hj
                  have f4 := frozen_new H4 j
                  have hset := hr_set H4 j false
                  obtain ⟨w5, hw5⟩ : ∃ w5, w4.setCell ⟨hb, j, none⟩ (.bool false) = w5 := ⟨_, rfl⟩
                  rw [hw5] at hset
                  have hF5 : Fr (fun i => i = hb) w4 w5 := by rw [← hw5]; exact (Fr.refl (fun i => i = hb) w4).set (p := ⟨hb, j, none⟩) rfl _
                  have C5 := hidIn (hC4.keep hF5 (fun i h1 h2 => ((HS.out i).1 h1).2 h2))
                  have hsz4 : q ≤ wr.heap.size := by have := R4.out.size; have := Hq.out; omega
                  have B5 := hidIn (R4.out.trans ((hF4.below hsz4 (fun k hk => ((HS.out k).1 hk).1)).trans (hF5.below (by have := hF4.size; omega) (fun i hi => by omega))))
                  have H5 := hidIn hset
                  have HW5 := hidIn hw5
                  have hjn' : (j : Int) < (n : Int) := by omega
                  have hL1 : ((dropT L t).length : Int) + 1 = (L.length : Int) := by have := HAny.out.2; omega
                  have hL2 : (L.length : Int) - 1 = ((dropT L t).length : Int) := by omega
                  clear hC4 hF4 H4 hset hF5 hw5 DR y0
                  go_wp2_with fail
                  try rw [HW5.out]
                  go_roundw
                  case rel => exact ⟨m + 1, dropT L t, H.set j false, by omega, by omega, by go_num, by first | rfl | (congr 1; omega), by omega, hidIn ⟨C5.out, QD.out, H5.out, B5.out, fun a ha => R5.out a (List.mem_filter.1 ha).1⟩⟩
                  case measure => simp [intOf]; omega
                · have hnn := R2.out.nany (t := t) (fun j hj ht => hno j hj ((hzj j hj).1 ht))
                  rw [hnn.1, hnn.2] at DR
                  clear hnn hno hzj
                  go_wp2_with fail
                  refine DR.out.mono ?_
                  rintro e w4 ⟨rfl, hC4, hF4⟩
                  have H5 := hidIn ((hF4.block hb (block_lt R3.out) (fun h => ((HS.out hb).1 h).2 rfl)).trans R3.out)
                  have C5 := hidIn hC4
                  have hsz4 : q ≤ wr.heap.size := by have := R4.out.size; have := Hq.out; omega
                  have B5 := hidIn (R4.out.trans (hF4.below hsz4 (fun k hk => ((HS.out k).1 hk).1)))
                  clear hC4 hF4 DR
                  go_wp2_with fail
                  go_roundw
                  case rel => exact ⟨m + 1, L, H, by omega, by omega, by go_num, rfl, hLn, hidIn ⟨C5.out, R2.out, H5.out, B5.out, R5.out⟩⟩
                  case measure => simp [intOf]; omega
          · have R1 := hidIn r1
            have R2 := hidIn r2
            have R3 := hidIn r3
            have R4 := hidIn r4
            have R5 := hidIn r5
            clear r1 r2 r3 r4 r5
            go_upto_region 13 with fail
            go_cut [50] (fun x wz => x = .bool false ∧ wz = wr)
            case first =>
              by_cases h1 : m < C.length
              · have h1' : (m : Int) < (C.length : Int) := by omega
                have h2' : ¬ (m : Int) < 100 := by omega
                go_wp2_with fail
                go_meet
                exact ⟨rfl, rfl⟩
              · have h1' : ¬ (m : Int) < (C.length : Int) := by omega
                go_wp2_with fail
                go_meet
                exact ⟨rfl, rfl⟩
            case rest =>
              obtain ⟨rfl, hwz⟩ := hcut
              rw [hwz]
              clear hwz hgo hmC hm100
              go_upto_if 85 with fail
              go_cut [10] (fun lv wz => ∃ (L2 : List (Tg Int)) (H2 : List Bool), lv = .int .i64 L2.length ∧ L2.length ≤ n ∧ Hid (I.Cal wz S c L2 n ∧ Qm n L2 H2 ∧ wz.heap[hb]? = some (.cells (hrC H2) 4) ∧ Below q w wz ∧ ∀ a ∈ L2, a.1.2 ≤ 18446744073709551615))
              case first =>
                cases odd
                · go_wp2_with fail
                  go_meet
                  exact ⟨L, H, rfl, hLn, hidIn ⟨R1.out, R2.out, R3.out, R4.out, R5.out⟩⟩
                · have SR := hidIn (I.sift_ok (kp := evenB) (lb := #[]) R1.out (by omega) (by omega) (fun x W => even_ok x W) enterE)
                  obtain ⟨L2, hL2⟩ : ∃ L2, (L.filter fun a => evenB a.1.1) = L2 := ⟨_, rfl⟩
                  have hrl : (I.refT L evenB).length + L2.length = L.length := by rw [← hL2]; exact ref_even L
                  obtain ⟨g0, hg0⟩ : ∃ g0, (I.refT L evenB).length = g0 := ⟨_, rfl⟩
                  rw [hL2, hg0] at SR
                  rw [hg0] at hrl
                  have HL2 := hidIn hL2
                  clear hL2 hg0 R1
                  go_wp2_with fail
                  refine SR.out.mono ?_
                  rintro e w5 ⟨rfl, hC5, hF5⟩
                  have C5 := hidIn hC5
                  have H5 := hidIn ((hF5.block hb (block_lt R3.out) (fun h => ((HS.out hb).1 h).2 rfl)).trans R3.out)
                  have hszr : q ≤ wr.heap.size := by have := R4.out.size; have := Hq.out; omega
                  have B5 := hidIn (R4.out.trans (hF5.below hszr (fun k hk => ((HS.out k).1 hk).1)))
                  have hs5 : q ≤ w5.heap.size := Nat.le_trans hszr hF5.size
                  clear hC5 hF5 SR R3 R4
                  go_wp2_with fail
                  go_loopw [10, 15, 16] (fun lv gv i wx => ∃ (m9 : Nat) (L9 : List (Tg Int)) (H9 : List Bool) (g9 : Nat), 2 * m9 ≤ n + 1 ∧ i = .int .i64 (2 * (m9 : Int) + 1) ∧ lv = .int .i64 L9.length ∧ gv = .int .i64 g9 ∧ g9 + L2.length = L9.length ∧ L9.length ≤ n ∧ Hid (L9 = oddL L ((2 * m9 + 1 : Nat) : Int) ∧ Qm n L9 H9 ∧ wx.heap[hb]? = some (.cells (hrC H9) 4) ∧ Fr (fun j => j = hb) w5 wx)) (fun _ _ i _ => n + 2 - (intOf i).toNat)
                  case atStart => exact ⟨0, L, H, g0, by omega, rfl, rfl, rfl, hrl, hLn, hidIn ⟨(oddL_one R2.out).symm, R2.out, H5.out, Fr.refl _ _⟩⟩
                  case round =>
                    obtain ⟨m9, L9, H9, g9, hm9, rfl, rfl, rfl, hg9, hl9, HR⟩ := hrel
                    obtain ⟨r1, r2, r3, r4⟩ := HR.out
                    clear HR
                    by_cases hlt9 : 2 * m9 + 1 < n
                    · have hi9 : 2 * (m9 : Int) + 1 < (n : Int) := by omega
                      have hst := oddL_step R2.out (m := m9)
                      rw [← r1] at hst
                      have hcs : (((2 * m9 + 1 + 1 : Nat) : Int)) = ((2 * m9 + 1 + 1 : Nat) : Int) := rfl
                      rcases r2.some hlt9 with hj | hj
                      · have y0 := hr_cell r3 hj
                        have f0 := frozen_new r3 (2 * m9 + 1)
                        have han := r2.any hlt9 hj
                        have QD := hidIn (r2.drop hlt9)
                        rw [← hst] at QD
                        have hl2 := han.2
                        rw [← hst] at hl2
                        have hset := hr_set r3 (2 * m9 + 1) false
                        obtain ⟨w7, hw7⟩ : ∃ w7, wr.setCell ⟨hb, 2 * m9 + 1, none⟩ (.bool false) = w7 := ⟨_, rfl⟩
                        rw [hw7] at hset
                        have hF7 : Fr (fun j => j = hb) wr w7 := by rw [← hw7]; exact (Fr.refl (fun j => j = hb) wr).set (p := ⟨hb, 2 * m9 + 1, none⟩) rfl _
                        have H7 := hidIn hset
                        have F7 := hidIn (r4.trans hF7)
                        have HW7 := hidIn hw7
                        obtain ⟨L7, hL7⟩ : ∃ L7, oddL L ((2 * m9 + 1 + 2 : Nat) : Int) = L7 := ⟨_, rfl⟩
                        rw [hL7] at QD hl2
                        have HL7 := hidIn hL7
                        have hge : L2.length ≤ L7.length := by rw [← HL2.out, ← HL7.out]; exact even_le L _
                        clear r1 r2 r3 r4 han hst hset hF7 hw7 hL7 hcs
                        go_wp2_with fail
                        try rw [HW7.out]
                        go_roundw
                        case rel => exact ⟨m9 + 1, L7, _, g9 - 1, by omega, by go_num, by first | rfl | (congr 1; omega), by first | rfl | (congr 1; omega), by omega, by omega, hidIn ⟨HL7.out.symm, QD.out, H7.out, F7.out⟩⟩
                        case measure => simp [intOf]; omega
                      · have y0 := hr_cell r3 hj
                        have hnn := (r2.nany (t := ((2 * m9 + 1 + 1 : Nat) : Int)) (fun i hi he => by
                          have : i = 2 * m9 + 1 := by omega
                          rw [this]; exact hj)).2
                        rw [hnn] at hst
                        have HST := hidIn hst
                        have RQ := hidIn r2
                        have RH := hidIn r3
                        have RF := hidIn r4
                        clear r1 r2 r3 r4 hnn hst hcs
                        go_wp2_with fail
                        go_roundw
                        case rel => exact ⟨m9 + 1, L9, _, g9, by omega, by go_num, rfl, rfl, hg9, hl9, hidIn ⟨HST.out.symm, RQ.out, RH.out, RF.out⟩⟩
                        case measure => simp [intOf]; omega
                    · have hi9 : ¬ 2 * (m9 : Int) + 1 < (n : Int) := by omega
                      have hend := oddL_end R2.out (i := ((2 * m9 + 1 : Nat) : Int)) (by omega)
                      rw [← r1, HL2.out] at hend
                      have hg0' : g9 = 0 := by rw [hend] at hg9; omega
                      subst hend
                      subst hg0'
                      have RQ := hidIn r2
                      have RH := hidIn r3
                      have RC := hidIn (C5.out.keep r4 (fun j h1 h2 => ((HS.out j).1 h1).2 h2))
                      have RB := hidIn (B5.out.trans (r4.below hs5 (fun j hj => by omega)))
                      have RM9 : Hid (∀ a ∈ L9, a.1.2 ≤ 18446744073709551615) := hidIn (fun a ha => R5.out a (by rw [← HL2.out] at ha; exact (List.mem_filter.1 ha).1))
                      clear r1 r2 r3 r4
                      go_wp2_with fail
                      go_meet
                      exact ⟨L9, H9, rfl, hl9, hidIn ⟨RC.out, RQ.out, RH.out, RB.out, RM9.out⟩⟩
              case rest =>
                obtain ⟨L2, H2, rfl, hl2, HR⟩ := hcut
                obtain ⟨r1, r2, r3, r4, r5⟩ := HR.out
                clear HR R1 R2 R3 R4 R5
                have LN := hidIn (I.len_ok r1)
                have hdue : dueT L2 18446744073709551615 = L2 ∧ restT L2 18446744073709551615 = [] := due_all (fun a ha => r5 a ha)
                have TK : Hid (Calls Try.prog 21 #[ptr c, .int .u64 18446744073709551615] wc fun e w' => (∃ u, e = .returned u ∧ w'.ownsRow wc.heap.size 3 1 u L2.length (fl ic (L2.map fun b => b.1.1))) ∧ I.Cal w' S c [] n ∧ Fr S wc w') := hidIn (by
                  have := I.take_ok (now := 18446744073709551615) r1 (by omega) (by omega)
                  rw [hdue.1, hdue.2] at this
                  exact this)
                have RQ := hidIn r2
                have RH := hidIn r3
                have RB := hidIn r4
                have hszc : q ≤ wc.heap.size := by have := r4.size; have := Hq.out; omega
                have hbc : hb < wc.heap.size := block_lt r3
                obtain ⟨ln, hln⟩ : ∃ ln, L2.length = ln := ⟨_, rfl⟩
                rw [hln] at LN TK hl2 ⊢
                have Hln := hidIn hln
                clear r1 r2 r3 r4 r5 hdue hln
                go_wp2_with fail
                refine LN.out.mono ?_
                rintro e w4 ⟨rfl, hw4⟩
                rw [hw4]
                clear hw4 w4 LN
                go_wp2_with fail
                refine TK.out.mono ?_
                rintro e w6 ⟨⟨u, rfl, hrow⟩, hC6, hF6⟩
                obtain ⟨ua, uc, rfl⟩ := row_shape hrow
                have C6 := hidIn hC6
                have H6 := hidIn ((hF6.block hb hbc (fun h => ((HS.out hb).1 h).2 rfl)).trans RH.out)
                have B6 := hidIn (RB.out.trans (hF6.below hszc (fun k hk => ((HS.out k).1 hk).1)))
                have hs6 : q ≤ w6.heap.size := Nat.le_trans hszc hF6.size
                have Row := hidIn hrow
                obtain ⟨_, _, e1, _, _, hWI⟩ := sl_i64 (slAt_of_row (cs := ic) (l := L2.map fun b => b.1.1) (fun _ => rfl) hrow (by rw [List.length_map]; exact Hln.out))
                rw [List.length_map, Hln.out] at e1 hWI
                simp only [Value.slice.injEq] at e1
                obtain ⟨rfl, _, rfl⟩ := e1
                have HWI := hidIn hWI
                clear hrow hC6 hF6 hWI TK RH RB
                go_wp2_with fail
                go_loopw [18] (fun i wx => ∃ (k9 : Nat) (H9 : List Bool), k9 ≤ ln ∧ i = .int .i64 k9 ∧ Hid (Qm n (L2.drop k9) H9 ∧ wx.heap[hb]? = some (.cells (hrC H9) 4) ∧ Fr (fun j => j = hb) w6 wx)) (fun i _ => ln - (intOf i).toNat)
                case atStart => exact ⟨0, H2, Nat.zero_le _, rfl, hidIn ⟨RQ.out, H6.out, Fr.refl _ _⟩⟩
                case round =>
                  obtain ⟨k9, H9, hk9, rfl, HR⟩ := hrel
                  obtain ⟨r1, r2, r3⟩ := HR.out
                  clear HR
                  by_cases hlt9 : k9 < ln
                  · have hki9 : (k9 : Int) < (ln : Int) := by omega
                    obtain ⟨bw, ow, rfl, hbw, hcw⟩ := HWI.out (by omega)
                    have hkl : k9 < L2.length := by rw [Hln.out]; exact hlt9
                    obtain ⟨a, ha⟩ : ∃ a, L2[k9]? = some a := ⟨L2[k9], List.getElem?_eq_getElem hkl⟩
                    have hdr : L2.drop k9 = a :: L2.drop (k9 + 1) := by
                      rw [List.drop_eq_getElem_cons hkl]
                      congr 1
                      exact (List.getElem?_eq_some_iff.1 ha).2
                    rw [hdr] at r1
                    obtain ⟨j, hjn, ha1, ha2⟩ := r1.s a List.mem_cons_self
                    have hHj : H9[j]? = some true := (r1.h j hjn).2 ⟨a, List.mem_cons_self, ha2⟩
                    have hth : (L2.map fun b => b.1.1)[k9]? = some (j : Int) := by rw [List.getElem?_map, ha]; simp [ha1]
                    have hbwb : bw ≠ hb := by have := (Row.out.lt bw rfl).1; omega
                    have x0 := (r3.cell9 (j := ow + k9) hbw hbwb).trans (hcw k9 _ hth)
                    have y0 := hr_cell r2 hHj
                    have f0 := frozen_new r2 j
                    have QD := hidIn (r1.drop hjn)
                    have hdh := I.dropT_head r1.o
                    rw [ha2] at hdh
                    rw [hdh] at QD
                    have hset := hr_set r2 j false
                    obtain ⟨w7, hw7⟩ : ∃ w7, wr.setCell ⟨hb, j, none⟩ (.bool false) = w7 := ⟨_, rfl⟩
                    rw [hw7] at hset
                    have hF7 : Fr (fun j => j = hb) wr w7 := by rw [← hw7]; exact (Fr.refl (fun j => j = hb) wr).set (p := ⟨hb, j, none⟩) rfl _
                    have H7 := hidIn hset
                    have F7 := hidIn (r3.trans hF7)
                    have HW7 := hidIn hw7
                    have hjn' : (j : Int) < (n : Int) := by omega
                    have hj0 : ¬ (j : Int) < 0 := by omega
                    have hjn2 : ¬ (n : Int) ≤ (j : Int) := by omega
                    clear r1 r2 r3 hcw hth hdr ha ha1 ha2 hHj hdh hset hF7 hw7
                    go_wp2_with fail
                    try rw [HW7.out]
                    go_roundw
                    case rel => exact ⟨k9 + 1, _, by omega, by go_num, hidIn ⟨QD.out, H7.out, F7.out⟩⟩
                    case measure => simp [intOf]; omega
                  · have hki9 : ¬ ((k9 : Int) < (ln : Int)) := by omega
                    have C7 := C6.out.keep r3 (fun j h1 h2 => ((HS.out j).1 h1).2 h2)
                    have B7 := hidIn (B6.out.trans (r3.below hs6 (fun j hj => by omega)))
                    have hs7 : q ≤ wr.heap.size := Nat.le_trans hs6 r3.size
                    have P7 : Hid (Calls Try.prog 17 #[ptr c, .int .u64 0, .int .i64 5] wr fun e w' => e = .returned (.int .i64 ((n : Int) + 1)) ∧ I.Cal w' (I.ext S wr w') c (insL [] ((5, 0), ((n + 1 : Nat) : Int))) (n + 1) ∧ Fr S wr w') := hidIn (I.put_ok 5 0 C7 (by omega) (by simp))
                    clear r1 r2 r3 C7
                    go_wp2_with fail
                    refine P7.out.mono ?_
                    rintro e w8 ⟨rfl, _, hF8⟩
                    have B8 := hidIn (B7.out.trans (hF8.below hs7 (fun k hk => ((HS.out k).1 hk).1)))
                    clear hF8 P7
                    go_wp2
                    go_returns
                    exact ⟨rfl, B8.out⟩
end Go.Proofs.Ytgblfpdhodfmbaa.Ca
