/- dandelionlaw05.HeapEmpties. -/
import Derived.Test.YtndiafbldgbplaaJI
namespace Go.Proofs.Ytndiafbldgbplaa
open Go.RowKit

/-- Numbers of 16 bits as an argument. -/
def I16At (w : World) (v : Value) (zs : List Int) : Prop := (∃ a cap, v = .slice a zs.length cap ∧ (0 < zs.length → ∃ bk o, a = some ⟨bk, o, none⟩ ∧ bk < w.heap.size ∧ ∀ j z, zs[j]? = some z → w.cell? ⟨bk, o + j, none⟩ = some (.int .i16 z))) ∧ (∀ z ∈ zs, -32768 ≤ z ∧ z ≤ 32767) ∧ zs.length ≤ 9223372036854775807
theorem row_shape5 {w : World} {base : Nat} {e : TypeId} {size k : Nat} {v : Value} {xs : List Value} (hr : w.ownsRow base e size v k xs) : ∃ a cap, v = .slice a k cap := by
  rcases hr.2 with ⟨rfl, rfl⟩ | ⟨g', cap', cur, rfl, _⟩
  · exact ⟨none, 0, rfl⟩
  · exact ⟨_, _, rfl⟩
theorem drewN_cell (V : World) (n : Nat) (a : Addr) : (V.drewN n).cell? a = V.cell? a := rfl
theorem Fr.drewN {S : Nat → Prop} {w V : World} (h : Fr S w V) (n : Nat) : Fr S w (V.drewN n) := ⟨h.os, h.tape, h.output, h.size, h.block⟩
theorem HpM.drewN {w : World} {base hp : Nat} {v : Value} {es : List (Th × Int)} {p : Int} (h : HpM w base hp v es p) (n : Nat) : HpM (w.drewN n) base hp v es p := ⟨h.blk, h.row, h.ne, h.hb⟩
theorem row_things {w : World} {base n cap : Nat} {a : Option Addr} {l : List Th} (hr : w.ownsRow base 26 2 (.slice a n cap) n (tcs l)) (h0 : 0 < n) :
    ∃ g, a = some ⟨g, 0, none⟩ ∧ ∀ j x, l[j]? = some x → w.cell? ⟨g, j * 2, none⟩ = some (.int .i64 x.1) ∧ w.cell? ⟨g, j * 2 + 1, none⟩ = some (.int .i64 x.2) := by
  rcases hr.2 with ⟨_, h1⟩ | ⟨g, cap', cur, h1, hb, hh, _⟩
  · omega
  · simp at h1
    obtain ⟨rfl, _⟩ := h1
    refine ⟨g, rfl, fun j x hx => ?_⟩
    have h1 := tcs_get l j x hx
    have h2 := hr.cells (g := g) rfl _ _ h1.1
    have h3 := hr.cells (g := g) rfl _ _ h1.2
    rw [Addr.add_mid, Nat.zero_add] at h2 h3
    exact ⟨h2, h3⟩
set_option maxRecDepth 100000 in
set_option maxHeartbeats 1000000 in
theorem empties_walk {zs : List Int} {v : Value} {w : World} (hv : I16At w v zs) :
    Calls Try.prog 5 #[v] w fun e w' => e = .returned (.bool true) ∧ Below w.heap.size w w' := by
  obtain ⟨⟨a, cap, rfl, ha⟩, hb, hlen⟩ := hv
  have Ha := hidIn ha
  have Hb := hidIn hb
  have HN := hidIn (new_ok w)
  have HM := hidIn (hpM_new w)
  clear ha hb
  go_enter Try.func5, Try.ntmps5
  go_wp2_with (go_at_call 8; refine HN.out.mono ?_; rintro e w1 ⟨rfl, hw1⟩; rw [hw1]; clear hw1 w1)
  go_loopw [4, 5] (fun x i wr => ∃ (k : Nat) (ua : Option Addr) (ucap : Nat), k ≤ zs.length ∧ k ≤ 150 ∧ i = .int .i64 k ∧ x = .slice ua k ucap ∧ Hid (∃ vt, HpM wr w.heap.size w.heap.size vt (fillL ltT (insF 0 (zs.take k))) k ∧ wr.ownsRow w.heap.size 26 2 (.slice ua k ucap) k (tcs (insF 0 (zs.take k))) ∧ (∀ j, (Value.slice ua k ucap).ownBlock = some j → ¬ own w.heap.size vt j) ∧ Below w.heap.size w wr)) (fun _ i _ => 150 - (intOf i).toNat)
  case atStart => exact ⟨0, none, 0, Nat.zero_le _, Nat.zero_le _, rfl, rfl, hidIn ⟨_, HM.out, World.ownsRow_nil _ _ _ _, fun j hj => by simp [Value.ownBlock] at hj, (Below.refl _ w).alloc (Nat.le_refl _) _⟩⟩
  case round =>
    obtain ⟨k, ua, ucap, hk, hk2, rfl, rfl, HR⟩ := hrel
    obtain ⟨vt, hM, hrow, hsep, hbel⟩ := HR.out
    clear HR
    by_cases hlt : k < zs.length ∧ k < 150
    · obtain ⟨hlt1, hlt2⟩ := hlt
      obtain ⟨bk, o, rfl, hbk, hc⟩ := Ha.out (by omega)
      obtain ⟨z, hz⟩ : ∃ z, zs[k]? = some z := ⟨zs[k], List.getElem?_eq_getElem hlt1⟩
      have hc0 := (hbel.cell (p := ⟨bk, o + k, none⟩) hbk).trans (hc k z hz)
      have hzb := Hb.out z (List.mem_of_getElem? hz)
      have hti := insF_next hz
      have htb := tmod16 z
      obtain ⟨t, ht⟩ : ∃ t, Int.tmod z 16 = t := ⟨_, rfl⟩
      rw [ht] at hti htb
      have hil : (insF 0 (zs.take k)).length = k := by rw [insF_length, List.length_take]; omega
      have hfl : fillL ltT (insF 0 (zs.take (k + 1))) = pushL ltT (fillL ltT (insF 0 (zs.take k))) (t, (k : Int)) (k : Int) := by
        rw [hti, fillL_snoc]
        unfold addL
        rw [fillL_length, hil]
      obtain ⟨g, cap6, w6, hrun, hown, hlie, hgrow⟩ := append_thing (hrow.alloc (.cells #[.int .i64 t, .int .i64 (k : Int)] 26)) (t, (k : Int)) (by omega) (Nat.le_trans hbel.size (by simp))
      rw [World.size_alloc] at hrun hlie
      have hM6 := (hM.below ((Below.refl _ wr).alloc (Nat.le_refl _) (.cells #[.int .i64 t, .int .i64 (k : Int)] 26)) (Nat.le_refl _)).grown hgrow hsep
      have hbx := hgrow.block wr.heap.size (by simp) (fun e => by have := (hrow.lt _ e.symm).2; omega)
      have hbx2 := hbx.trans (heap_alloc_new wr _)
      have d0 := cell_of_row w6 wr.heap.size 0 _ _ _ hbx2
      have d1 := cell_of_row w6 wr.heap.size 1 _ _ _ hbx2
      simp at d0 d1
      have HP := hidIn (push_ok (t, (k : Int)) hM6 (by rw [fillL_length, hil]; omega) (by omega) (by omega))
      have hb3 := (hbel.alloc hbel.size (.cells #[.int .i64 t, .int .i64 (k : Int)] 26)).grown hgrow (Nat.le_trans hbel.size (by simp)) (fun j hj => (hrow.lt j hj).1)
      have HRun := hidIn hrun
      have HB3 := hidIn hb3
      have HOwn := hidIn hown
      have HL := hidIn hlie
      have HI := hidIn hti
      have HF := hidIn hfl
      have HSep := hidIn hsep
      have HO : Hid (∀ j, own w.heap.size vt j → w.heap.size ≤ j ∧ j < wr.heap.size) := hidIn fun j hj => hM.own_ge hj
      clear hrun hb3 hown hlie hti hfl hM hM6 hrow hsep hbel hgrow hbx hbx2 hc hz hil
      have hki : (k : Int) < (zs.length : Int) := by omega
      have hki2 : (k : Int) < 150 := by omega
      go_wp2_with (first
        | (go_at_call 11; refine HP.out.mono ?_; rintro e w2 ⟨rfl, hM2, hF2⟩)
        | (refine l_append rfl _ _ 28 rfl HRun.out ?_))
      go_roundw
      case rel =>
        obtain ⟨v2, h2, h3⟩ := hM2
        have hg6 := (HOwn.out.lt g rfl).2
        have hns : ¬ own w.heap.size vt g := fun h => by
          rcases HL.out with h1 | h1
          · exact HSep.out g h1 h
          · have := (HO.out g h).2; omega
        refine ⟨k + 1, _, _, by omega, by omega, by go_num, rfl, hidIn ⟨v2, ?_, ?_, fun j hj h => ?_, HB3.out.trans (hF2.below HB3.out.size (fun j h => (HO.out j h).1))⟩⟩
        · rw [HF.out]; exact h2
        · rw [HI.out, tcs_snoc]
          exact row_fr HOwn.out hF2 (fun j hj => by simp [Value.ownBlock] at hj; subst hj; exact hns)
        · simp [Value.ownBlock] at hj
          subst hj
          rcases h3 with h3 | h3
          · exact hns ((own_eq h3).1 h)
          · rcases h with h | h
            · exact hns (.inl h)
            · have := h3 _ h; omega
      case measure => simp [intOf]; omega
    · have hil : (insF 0 (zs.take k)).length = k := by rw [insF_length, List.length_take]; omega
      have hmark := insF_mark (zs.take k)
      generalize insF 0 (zs.take k) = l at *
      have hT := thsAt_of_row hrow hil
      have hS := sort_ok hT (by omega)
      rw [hil] at hS
      have HS := hidIn hS
      have HM2 := hidIn hM
      have HRow := hidIn hrow
      have HSep := hidIn hsep
      have HB := hidIn hbel
      have HMk := hidIn hmark
      have HIl := hidIn hil
      have HE : Hid (¬ (k < zs.length ∧ k < 150)) := hidIn hlt
      clear hM hrow hsep hbel hmark hil hlt hT hS HN HM
      go_upto_region 6 with fail
      go_cut [25] (fun c wx => c = .bool false ∧ wx = wr)
      case first =>
        by_cases h1 : (k : Int) < (zs.length : Int)
        · have h2 : ¬ ((k : Int) < 150) := fun h => HE.out ⟨by omega, by omega⟩
          go_wp2_with fail
          go_meet
          exact ⟨rfl, rfl⟩
        · go_wp2_with fail
          go_meet
          exact ⟨rfl, rfl⟩
      case rest =>
        obtain ⟨rfl, hwc⟩ := hcut
        rw [hwc]
        clear hwc wc HE
        go_wp2_with (go_at_call 18; refine HS.out.mono ?_; rintro e w3 ⟨⟨sv, rfl, hrow3⟩, hb3⟩; obtain ⟨sa, scap, rfl⟩ := row_shape5 hrow3; have HR3 := hidIn hrow3; have HB3 := hidIn hb3; clear hrow3 hb3)
        generalize wr = wo at *
        have HM3 := hidIn (HM2.out.below HB3.out (Nat.le_refl _))
        have HRw := hidIn (row_fr (S := fun _ => False) HRow.out (Fr.of_below HB3.out) (fun _ _ h => h))
        have HSl := hidIn (sortL_length ltT l)
        have HW := hidIn (HB.out.trans (HB3.out.mono HB.out.size))
        have HO : Hid (∀ j, own w.heap.size vt j → w.heap.size ≤ j ∧ j < wo.heap.size) := hidIn fun j hj => HM2.out.own_ge hj
        go_loopw [8] (fun i wq => ∃ m : Nat, m ≤ k ∧ i = .int .i64 m ∧ Hid (∃ vt', HpM wq w.heap.size w.heap.size vt' (popN ltT m (fillL ltT l)) k ∧ vt'.ownBlock = vt.ownBlock ∧ Fr (own w.heap.size vt) w3 wq)) (fun i _ => k - (intOf i).toNat)
        case atStart => exact ⟨0, Nat.zero_le _, rfl, hidIn ⟨vt, HM3.out, rfl, Fr.refl _ _⟩⟩
        case round =>
          obtain ⟨m, hm, rfl, HR⟩ := hrel
          obtain ⟨v4, hM4, hv4, hF4⟩ := HR.out
          clear HR
          by_cases hlt : m < k
          · have hfl : (fillL ltT l).length = k := by rw [fillL_length, HIl.out]
            obtain ⟨a, ha⟩ := popN_head ltT (show m < (fillL ltT l).length by omega)
            obtain ⟨⟨q, hq1, hq2, hq3⟩, hprev⟩ := empties_at HMk.out ha
            have hso : (sortL ltT l)[m]? = some a.1 := by
              unfold sortL
              rw [outN_get ltT _ _ m (by rw [HIl.out]; omega) (by rw [hfl, HIl.out]; exact Nat.le_refl _), ha]
              rfl
            have hsp : ∀ m', m = m' + 1 → ∃ b : Th, (sortL ltT l)[m']? = some b ∧ (b.1 < a.1.1 ∨ (b.1 = a.1.1 ∧ b.2 < a.1.2)) := by
              intro m' e
              obtain ⟨b, hb⟩ := popN_head ltT (show m' < (fillL ltT l).length by omega)
              refine ⟨b.1, ?_, hprev b (by omega) (by rw [e]; exact hb)⟩
              unfold sortL
              rw [outN_get ltT _ _ m' (by rw [HIl.out]; omega) (by rw [hfl, HIl.out]; exact Nat.le_refl _), hb]
              rfl
            have HP := hidIn (peek_ok hM4 ha)
            have HPop : Hid (∀ T, Below wr.heap.size wr T → Calls Try.prog 12 #[.pointer (some ⟨w.heap.size, 0, none⟩)] T fun e w' => e = .returned (.tuple #[thV a.1, .bool true]) ∧ (∃ v', HpM w' w.heap.size w.heap.size v' (popN ltT (m + 1) (fillL ltT l)) k ∧ v'.ownBlock = vt.ownBlock) ∧ Fr (own w.heap.size vt) T w') := hidIn fun T hT => by
              have := pop_ok (hM4.below hT (Nat.le_refl _)) (by have := popN_length ltT (fillL ltT l) m; omega) ha
              refine this.mono ?_
              rintro e w' ⟨he, ⟨v', h1, h2⟩, h3⟩
              exact ⟨he, ⟨v', h1, h2.trans hv4⟩, h3.mono (fun j _ h => (own_eq hv4).1 h)⟩
            obtain ⟨ya, num⟩ := a
            obtain ⟨y, mk⟩ := ya
            simp only at hq2
            subst hq2
            have HF4 := hidIn hF4
            have HSo := hidIn hso
            have HSp := hidIn hsp
            have HQ := hidIn hq3
            have hsz := hF4.size
            clear hM4 hv4 hF4 ha hso hsp hq3 hprev hfl
            have hki : (m : Int) < (k : Int) := by omega
            have hkq : (q : Int) < (k : Int) := by have := HIl.out; omega
            go_wp2_with (first
              | (go_at_call 14; refine HP.out.mono ?_; rintro e w4 ⟨rfl, hb4⟩; have HB4 := hidIn hb4; clear hb4; have HPT := hidIn (HPop.out _ (HB4.out.alloc HB4.out.size (.cells #[.int .i64 y, .int .i64 (q : Int)] 26))))
              | (go_at_call 12; refine HPT.out.mono ?_; rintro e w5 ⟨rfl, hM5, hF5⟩; have HM5 := hidIn hM5; have HF5 := hidIn hF5; clear hM5 hF5))
            have hk0 : 0 < k := by omega
            have hno : ∀ j, wo.heap.size ≤ j → ¬ own w.heap.size vt j := fun j hj h => by have := (HO.out j h).2; omega
            have hs3 := HB3.out.size
            have hs4 := HB4.out.size
            have hs5 := HF5.out.size
            simp only [World.size_alloc] at hs5
            have htop := (HF5.out.block w4.heap.size (by simp) (hno _ (by omega))).trans (heap_alloc_new w4 _)
            have hFV : Fr (own w.heap.size vt) w3 (w5.alloc (.cells #[.int .i64 y, .int .i64 (q : Int)] 26)) := ((HF4.out.trans (Fr.of_below (HB4.out.alloc hs4 _))).trans HF5.out).trans (Fr.of_below ((Below.refl _ w5).alloc (Nat.le_refl _) _))
            have rS := row_fr HR3.out hFV (fun j hj => hno j (HR3.out.lt j hj).1)
            have rI := row_fr HRw.out hFV HSep.out
            obtain ⟨sg, rfl, hS1⟩ := row_things rS hk0
            obtain ⟨ig, rfl, hI1⟩ := row_things rI hk0
            have htopV := (Below.heap_alloc w5 (.cells #[.int .i64 y, .int .i64 (q : Int)] 26) w4.heap.size (by omega)).trans htop
            have hvV := heap_alloc_new w5 (.cells #[.int .i64 y, .int .i64 (q : Int)] 26)
            have HFV := hidIn hFV
            have HMV : Hid (∃ v', HpM (w5.alloc (.cells #[.int .i64 y, .int .i64 (q : Int)] 26)) w.heap.size w.heap.size v' (popN ltT (m + 1) (fillL ltT l)) k ∧ v'.ownBlock = vt.ownBlock) := hidIn (by
              obtain ⟨v', h1, h2⟩ := HM5.out
              exact ⟨v', h1.below ((Below.refl _ w5).alloc (Nat.le_refl _) _) (Nat.le_refl _), h2⟩)
            clear htop hFV rS rI HM5 HF5 HPT HPop HP
            generalize World.alloc w5 _ = V at htopV hvV hS1 hI1 HFV HMV ⊢
            have t0 := cell_of_row V w4.heap.size 0 _ _ _ htopV
            have t1 := cell_of_row V w4.heap.size 1 _ _ _ htopV
            have x0 := cell_of_row V w5.heap.size 0 _ _ _ hvV
            have x1 := cell_of_row V w5.heap.size 1 _ _ _ hvV
            simp at t0 t1 x0 x1
            obtain ⟨s0, s1⟩ := hS1 m _ HSo.out
            obtain ⟨i0, i1⟩ := hI1 q _ HQ.out
            simp only at s0 s1 i0 i1
            have he : ∀ w, (Op.equalIn 10000 26 (.agg #[.int .i64 y, .int .i64 (q : Int)]) (.agg #[.int .i64 y, .int .i64 (q : Int)])).run Try.prog w = Result.ok true w := fun w => by rw [eq_thing]; simp
            have HS1 := hidIn hS1
            clear hS1 hI1 htopV hvV hno
            have hbq : decide ((k : Int) ≤ (q : Int)) = false := decide_eq_false (by omega)
            have hbq2 : decide (k ≤ q) = false := decide_eq_false (by omega)
            have hbq3 : decide ((q : Int) < 0) = false := decide_eq_false (by omega)
            go_quiet (fail)
            go_wp2
            have HFV2 := hidIn (HFV.out.drewN nq)
            have HMV2 : Hid (∃ v', HpM (V.drewN nq) w.heap.size w.heap.size v' (popN ltT (m + 1) (fillL ltT l)) k ∧ v'.ownBlock = vt.ownBlock) := hidIn (by
              obtain ⟨v', h1, h2⟩ := HMV.out
              exact ⟨v', h1.drewN _, h2⟩)
            have x0' : (V.drewN nq).cell? ⟨w5.heap.size, 0, none⟩ = some (.int .i64 y) := by rw [drewN_cell]; exact x0
            have x1' : (V.drewN nq).cell? ⟨w5.heap.size, 1, none⟩ = some (.int .i64 (q : Int)) := by rw [drewN_cell]; exact x1
            have HS2 : Hid (∀ j x, (sortL ltT l)[j]? = some x → (V.drewN nq).cell? ⟨sg, j * 2, none⟩ = some (.int .i64 x.1) ∧ (V.drewN nq).cell? ⟨sg, j * 2 + 1, none⟩ = some (.int .i64 x.2)) := hidIn fun j x hx => by rw [drewN_cell, drewN_cell]; exact HS1.out j x hx
            clear x0 x1 s0 s1 i0 i1 t0 t1 he HFV HMV HS1 hbq hbq2 hbq3
            generalize World.drewN V nq = V2 at *
            cases m with
            | zero =>
              go_quiet (fail)
              go_wp2
              go_roundw
              case rel =>
                obtain ⟨v6, h61, h62⟩ := HMV2.out
                exact ⟨1, by omega, by go_num, hidIn ⟨v6, h61.drewN _, h62, HFV2.out.drewN _⟩⟩
              case measure => simp [intOf]; omega
            | succ m' =>
              obtain ⟨b, hb1, hb2⟩ := HSp.out m' rfl
              obtain ⟨p0, p1⟩ := HS2.out m' b hb1
              obtain ⟨y2, k2⟩ := b
              simp only at p0 p1 hb2
              have hm1 : (0 : Int) < (m' : Int) + 1 := by omega
              have hm2 : (m' : Int) < (k : Int) := by omega
              by_cases hy : y2 = y
              · subst hy
                have h7 : decide (y2 < y2) = false := by simp
                have h8 : decide ((q : Int) ≤ k2) = false := decide_eq_false (by omega)
                go_quiet (fail)
                go_wp2
                go_roundw
                case rel =>
                  obtain ⟨v6, h61, h62⟩ := HMV2.out
                  exact ⟨m' + 1 + 1, by omega, by go_num, hidIn ⟨v6, h61.drewN _, h62, HFV2.out.drewN _⟩⟩
                case measure => simp [intOf]; omega
              · have h7 : decide (y < y2) = false := decide_eq_false (by omega)
                have h8 : (y2 == y) = false := by simp [hy]
                go_quiet (fail)
                go_wp2
                go_roundw
                case rel =>
                  obtain ⟨v6, h61, h62⟩ := HMV2.out
                  exact ⟨m' + 1 + 1, by omega, by go_num, hidIn ⟨v6, h61.drewN _, h62, HFV2.out.drewN _⟩⟩
                case measure => simp [intOf]; omega
          · have hme : m = k := by omega
            have hemp : popN ltT m (fillL ltT l) = [] := by
              have := popN_length ltT (fillL ltT l) m
              rw [fillL_length, HIl.out] at this
              exact List.length_eq_zero_iff.1 (by omega)
            rw [hemp] at hM4
            have HP := hidIn (pop_none hM4)
            have HX := hidIn hM4
            have HBq := hidIn (HW.out.trans (hF4.below HW.out.size (fun j h => (HO.out j h).1)))
            have hnl : ¬ ((m : Int) < (k : Int)) := by omega
            clear hM4 hv4 hF4 hemp
            go_wp2_with (first
              | (go_at_call 12; refine HP.out.mono ?_; rintro e w5 ⟨rfl, hb5⟩; have HL5 := hidIn (len_ok ((HX.out.below hb5 (Nat.le_refl _)).below ((Below.refl _ w5).alloc (Nat.le_refl _) (.cells #[.int .i64 0, .int .i64 0] 26)) (Nat.le_refl _))))
              | (go_at_call 15; refine HL5.out.mono ?_; rintro e w6 ⟨rfl, hw6⟩; rw [hw6]; clear hw6 w6)
              | (go_at_call 16; refine (works_ok _).mono ?_; rintro e w7 ⟨rfl, hb7⟩))
            go_ret
            have hb6 := (HBq.out.trans (hb5.mono HBq.out.size)).alloc (Nat.le_trans HBq.out.size hb5.size) (.cells #[.int .i64 0, .int .i64 0] 26)
            exact ⟨rfl, hb6.trans (hb7.mono hb6.size)⟩
end Go.Proofs.Ytndiafbldgbplaa
