/- dandelionlaw05.HeapStrange. -/
import Derived.Test.YtndiafbldgbplaaJS0
import Derived.Test.YtndiafbldgbplaaJT
import Derived.Test.YtndiafbldgbplaaJL
namespace Go.Proofs.Ytndiafbldgbplaa
open Go.RowKit

theorem In.HpM.setOther {O : In.OrdS} {w : World} {base hp : Nat} {v : Value} {es : List (Int × Int)} {p : Int} (h : In.HpM O w base hp v es p) {b j : Nat} (hb : ¬ own hp v b) (hB : O.B ≤ b) (u : Value) : In.HpM O (w.setCell ⟨b, j, none⟩ u) base hp v es p := by
  refine ⟨?_, ownsRow_setCell_other h.row (fun e => hb (.inr e)) _, h.ne, h.hb, h.bB, O.keep _ _ h.inv ((Below.refl _ w).setCell (p := ⟨b, j, none⟩) hB _), h.dom⟩
  rw [Below.heap_setCell _ _ _ _ (fun e => hb (.inl e.symm))]
  exact h.blk
theorem cnt_perm {a b : List Int} (h : a.Perm b) (j : Nat) : cnt a j = cnt b j := by unfold cnt; rw [h.count_eq]
theorem out_cell {W W' w3 : World} {S : Nat → Prop} {base n cap m : Nat} {sa : Option Addr} {l : List Int} {x : Int} (hr : W.ownsRow base 3 1 (.slice sa n cap) n (l.map (Value.int .i64))) (h3 : w3.ownsRow base 3 1 (.slice sa n cap) n (l.map (Value.int .i64))) (hF : Fr S W W') (hS : ∀ j, (Value.slice sa n cap).ownBlock = some j → ¬ S j) (hx : l[m]? = some x) (h0 : 0 < n) :
    ∃ og, sa = some ⟨og, 0, none⟩ ∧ base ≤ og ∧ og < w3.heap.size ∧ W'.cell? ⟨og, m, none⟩ = some (.int .i64 x) := by
  have hr' := row_fr hr hF hS
  rcases hr'.2 with ⟨_, h1⟩ | ⟨g, cap', cur, h1, hb, hh, _⟩
  · omega
  · simp at h1
    obtain ⟨rfl, _⟩ := h1
    have h2 := hr'.cells (g := g) rfl m (.int .i64 x) (by rw [List.getElem?_map, hx]; rfl)
    rw [Addr.add_mid, Nat.zero_add] at h2
    exact ⟨g, rfl, hb, (h3.lt g rfl).2, h2⟩
/-- Bytes as an argument. -/
def BytesAt (w : World) (v : Value) (zs : List Nat) : Prop := (∃ a cap, v = .slice a zs.length cap ∧ (0 < zs.length → ∃ bk o, a = some ⟨bk, o, none⟩ ∧ bk < w.heap.size ∧ ∀ (j z : Nat), zs[j]? = some z → w.cell? ⟨bk, o + j, none⟩ = some (.int .u8 ((z : Nat) : Int)))) ∧ (∀ z ∈ zs, z ≤ 255) ∧ zs.length ≤ 9223372036854775807
def insB (zs : List Nat) : List Int := zs.map fun z => ((z : Nat) : Int)
theorem insB_next {zs : List Nat} {k z : Nat} (h : zs[k]? = some z) : insB (zs.take (k + 1)) = insB (zs.take k) ++ [(z : Int)] := by unfold insB; rw [take_next h, List.map_append]; rfl
set_option maxRecDepth 100000 in
set_option maxHeartbeats 1000000 in
theorem strange_walk {N : Nat} (hN : N < 2 ^ 64) {zs : List Nat} {v : Value} {w : World} (hv : BytesAt w v zs) :
    Calls Try.prog 6 #[.int .u64 (N : Int), v] w fun e w' => e = .returned (.bool true) ∧ Below w.heap.size w w' := by
  obtain ⟨⟨a, cap, rfl, ha⟩, hz, hlen⟩ := hv
  have Ha := hidIn ha
  have Hz := hidIn hz
  have hI0 : (OW N hN w.heap.size).I (w.alloc (.cells #[.int .u64 (N : Int)] 45)) := heap_alloc_new w _
  have hn := In.new_ok (OW N hN w.heap.size) (w.alloc (.cells #[.int .u64 (N : Int)] 45))
  have hm := In.hpM_new (O := OW N hN w.heap.size) (w.alloc (.cells #[.int .u64 (N : Int)] 45)) hI0 (by simp; exact Nat.le_refl _)
  rw [World.size_alloc] at hn hm
  have HN := hidIn hn
  have HM := hidIn hm
  clear ha hz hI0 hn hm
  have hmk := make_counts
  obtain ⟨O, hO⟩ : ∃ O, O = OW N hN w.heap.size := ⟨_, rfl⟩
  have HOd := hidIn hO
  have HfvE : Hid (O.fv = .func (.func 19) #[] #[.pointer (some ⟨w.heap.size, 0, none⟩)]) := hidIn (by rw [hO]; rfl)
  have HOB : Hid (O.B = w.heap.size + 1 ∧ (∀ a : Int, O.D a ↔ 0 ≤ a ∧ a ≤ 255)) := hidIn (by rw [hO]; exact ⟨rfl, fun a => Iff.rfl⟩)
  rw [← hO] at HN HM
  rw [HfvE.out] at HN
  clear hO
  go_enter Try.func6, Try.ntmps6
  go_wp2_with (go_at_call 21; refine HN.out.mono ?_; rintro e w1 ⟨rfl, hw1⟩; rw [hw1]; clear hw1 w1)
  have hsz : ((w.alloc (.cells #[.int .u64 (N : Int)] 45)).alloc (In.hpObj O)).heap.size = w.heap.size + 2 := by simp
  have HC0 := hidIn (hasC_made ((w.alloc (.cells #[.int .u64 (N : Int)] 45)).alloc (In.hpObj O)))
  rw [hsz] at HC0
  have HB0 := hidIn ((((Below.refl _ w).alloc (Nat.le_refl _) (.cells #[.int .u64 (N : Int)] 45)).alloc (by simp) (In.hpObj O)).alloc (by simp; omega) (.cells (madeCells #[.int .i64 0] 256) 3))
  have HM0 := hidIn (HM.out.below ((Below.refl _ ((w.alloc (.cells #[.int .u64 (N : Int)] 45)).alloc (In.hpObj O))).alloc (Nat.le_refl _) (.cells (madeCells #[.int .i64 0] 256) 3)) (Nat.le_refl _))
  clear hsz HM HN hmk
  go_loopw [8, 9] (fun x i wr => ∃ (k : Nat) (ua : Option Addr) (ucap : Nat), k ≤ zs.length ∧ k ≤ 60 ∧ i = .int .i64 k ∧ x = .slice ua k ucap ∧ Hid (∃ vt, In.HpM O wr (w.heap.size + 1) (w.heap.size + 1) vt (fillL O.lt (insB (zs.take k))) k ∧ wr.ownsRow (w.heap.size + 1) 3 1 (.slice ua k ucap) k ((insB (zs.take k)).map (Value.int .i64)) ∧ (∀ j, (Value.slice ua k ucap).ownBlock = some j → ¬ own (w.heap.size + 1) vt j ∧ j ≠ w.heap.size + 2) ∧ ¬ own (w.heap.size + 1) vt (w.heap.size + 2) ∧ HasC wr (w.heap.size + 2) (cnt (insB (zs.take k))) ∧ Below w.heap.size w wr)) (fun _ i _ => 60 - (intOf i).toNat)
  case atStart =>
    exact ⟨0, none, 0, Nat.zero_le _, Nat.zero_le _, rfl, rfl, hidIn ⟨_, HM0.out, World.ownsRow_nil _ _ _ _, fun j hj => by simp [Value.ownBlock] at hj, fun h => by rcases h with h | h <;> simp [Value.ownBlock] at h, HC0.out, HB0.out⟩⟩
  case round =>
    clear HC0 HB0 HM0
    obtain ⟨k, ua, ucap, hk, hk2, rfl, rfl, HR⟩ := hrel
    obtain ⟨vt, hM, hrow, hsep, hsc, hC, hbel⟩ := HR.out
    clear HR
    by_cases hlt : k < zs.length ∧ k < 60
    · obtain ⟨hlt1, hlt2⟩ := hlt
      obtain ⟨bk, o, rfl, hbk, hc⟩ := Ha.out (by omega)
      obtain ⟨z, hzk⟩ : ∃ z, zs[k]? = some z := ⟨zs[k], List.getElem?_eq_getElem hlt1⟩
      have hz255 := Hz.out z (List.mem_of_getElem? hzk)
      have hil : (insB (zs.take k)).length = k := by unfold insB; rw [List.length_map, List.length_take]; omega
      have hcb := cnt_le (insB (zs.take k)) z
      rw [hil] at hcb
      have hti := insB_next hzk
      have hfl : fillL O.lt (insB (zs.take (k + 1))) = pushL O.lt (fillL O.lt (insB (zs.take k))) (z : Int) (k : Int) := by
        rw [hti, fillL_snoc]
        unfold addL
        rw [fillL_length, hil]
      obtain ⟨g, cap6, w6, hrun, hown, hlie, hgrow⟩ := In.append_num hrow (z : Int) (by omega) (Nat.le_trans (by have := hM.lt; omega) (Nat.le_refl _))
      have hM6 := hM.grown hgrow (fun j hj => (hsep j hj).1) (fun j hj h => by have := (hrow.lt j hj).1; have := HOB.out.1; omega)
      have hC6 := hC.block (hgrow.block _ hC.lt (fun e => (hsep _ e.symm).2 rfl)) hgrow.size
      have hM7 := hM6.setOther (j := z) hsc (by have := HOB.out.1; omega) (.int .i64 (cnt (insB (zs.take k)) z + 1))
      have hC7 := hC6.set z (by omega) (cnt (insB (zs.take k)) z + 1)
      have HP := hidIn (In.push_ok (z : Int) hM7 (by rw [fillL_length, hil]; omega) (by omega) (by omega) ((HOB.out.2 _).2 (by omega)))
      have hb6 := hbel.grown hgrow hbel.size (fun j hj => by have := (hrow.lt j hj).1; omega)
      have hb7 := hb6.setCell (p := ⟨w.heap.size + 2, z, none⟩) (by show w.heap.size ≤ w.heap.size + 2; omega) (.int .i64 (cnt (insB (zs.take k)) z + 1))
      have q0 := (hbel.cell (p := ⟨bk, o + k, none⟩) hbk).trans (hc k z hzk)
      have q6 := (hb6.cell (p := ⟨bk, o + k, none⟩) hbk).trans (hc k z hzk)
      have q7 := (hb7.cell (p := ⟨bk, o + k, none⟩) hbk).trans (hc k z hzk)
      have cc := hC6.c z (by omega)
      have cf := hC6.f z
      have hcn : (fun j => if j = z then cnt (insB (zs.take k)) z + 1 else cnt (insB (zs.take k)) j) = cnt (insB (zs.take (k + 1))) := by
        funext j
        rw [hti, cnt_snoc]
      rw [hcn] at hC7
      have HRun := hidIn hrun
      have HOwn := hidIn hown
      have HLie := hidIn hlie
      have HI := hidIn hti
      have HF := hidIn hfl
      have HC7 := hidIn hC7
      have HM7 := hidIn hM7
      have HSep := hidIn hsep
      have HSc := hidIn hsc
      have HB7 := hidIn hb7
      have HOg : Hid (∀ j, own (w.heap.size + 1) vt j → w.heap.size + 1 ≤ j ∧ j < wr.heap.size) := hidIn fun j hj => hM.own_ge hj
      have hs6 := hgrow.size
      have hCl := hC.lt
      clear hrun hown hlie hti hfl hC7 hM7 hsep hsc hb7 hb6 hM hM6 hC hC6 hrow hbel hgrow hcn hc hzk
      generalize cnt (insB (zs.take k)) z = c at *
      have hki : (k : Int) < (zs.length : Int) := by omega
      have hki2 : (k : Int) < 60 := by omega
      have hz1 : (z : Int) < 256 := by omega
      go_wp2_with (first
        | (refine l_append rfl _ _ 51 rfl HRun.out ?_; clear HRun)
        | (go_at_call 22; refine HP.out.mono ?_; rintro e w8 ⟨rfl, hM8, hF8⟩))
      go_roundw
      case rel =>
        obtain ⟨v2, h2, h3⟩ := hM8
        have hg6 := (HOwn.out.lt g rfl).2
        have hns : ¬ own (w.heap.size + 1) vt g := fun h => by
          rcases HLie.out with h1 | h1
          · exact (HSep.out g h1).1 h
          · have := (HOg.out g h).2; omega
        have hgn : g ≠ w.heap.size + 2 := fun e => by
          rcases HLie.out with h1 | h1
          · exact (HSep.out g h1).2 e
          · omega
        have hown2 : ∀ j, j < w6.heap.size → ¬ own (w.heap.size + 1) vt j → ¬ own (w.heap.size + 1) v2 j := fun j hj hn h => by
          rcases h3 with h3 | h3
          · exact hn ((own_eq h3).1 h)
          · rcases h with h | h
            · exact hn (.inl h)
            · have := h3 j h; simp at this; omega
        refine ⟨k + 1, _, _, by omega, by omega, by go_num, rfl, hidIn ⟨v2, ?_, ?_, fun j hj => ?_, hown2 _ (by simpa using HC7.out.lt) HSc.out, HC7.out.block (hF8.block _ HC7.out.lt HSc.out) hF8.size, HB7.out.trans (hF8.below HB7.out.size (fun j h => by have := (HOg.out j h).1; omega))⟩⟩
        · rw [HF.out]; exact h2
        · rw [HI.out, List.map_append]
          exact row_fr (ownsRow_setCell_other HOwn.out (fun e => hgn (by simpa [Value.ownBlock] using e)) _) hF8 (fun j hj => by simp [Value.ownBlock] at hj; subst hj; exact hns)
        · simp [Value.ownBlock] at hj
          subst hj
          exact ⟨hown2 _ hg6 hns, hgn⟩
      case measure => simp [intOf]; omega
    · have hil : (insB (zs.take k)).length = k := by unfold insB; rw [List.length_map, List.length_take]; omega
      have hdom : ∀ x ∈ insB (zs.take k), O.D x := fun x hx => (HOB.out.2 x).2 (by
        unfold insB at hx
        obtain ⟨z, hz1, rfl⟩ := List.mem_map.1 hx
        have := Hz.out z (List.mem_of_mem_take hz1)
        omega)
      generalize insB (zs.take k) = l at *
      have hsB : O.B ≤ wr.heap.size := by have := HOB.out.1; have := hM.lt; omega
      have hS := In.sort_ok (O := O) (In.intsAt_of_row hrow hil) (by omega) hM.inv hsB hdom ((HOB.out.2 0).2 (by omega))
      rw [hil, HfvE.out] at hS
      have HS := hidIn hS
      have HM2 := hidIn hM
      have HRow := hidIn hrow
      have HSep := hidIn hsep
      have HSc := hidIn hsc
      have HC := hidIn hC
      have HB := hidIn hbel
      have HIl := hidIn hil
      have HDm := hidIn hdom
      have HE : Hid (¬ (k < zs.length ∧ k < 60)) := hidIn hlt
      have hmk := make_counts
      clear hM hrow hsep hsc hC hbel hil hdom hlt hS hsB
      go_upto_region 8 with fail
      go_cut [29] (fun c wx => c = .bool false ∧ wx = wr)
      case first =>
        by_cases h1 : (k : Int) < (zs.length : Int)
        · have h2 : ¬ ((k : Int) < 60) := fun h => HE.out ⟨by omega, by omega⟩
          go_wp2_with fail
          go_meet
          exact ⟨rfl, rfl⟩
        · go_wp2_with fail
          go_meet
          exact ⟨rfl, rfl⟩
      case rest =>
        obtain ⟨rfl, hwc⟩ := hcut
        rw [hwc]
        clear hwc wc HE
        go_wp2_with (first
          | (go_at_call 23; refine HS.out.mono ?_; rintro e w3 ⟨⟨sv, rfl, hrow3⟩, hb3⟩; obtain ⟨sa, scap, rfl⟩ := row_shape5 hrow3; have HR3 := hidIn hrow3; have HB3 := hidIn hb3; have hL3 := In.len_ok (HM2.out.below hb3 (Nat.le_refl _)); rw [fillL_length, HIl.out] at hL3; have HL3 := hidIn hL3; clear hrow3 hb3 hL3)
          | (go_at_call 24; refine HL3.out.mono ?_; rintro e w4 ⟨rfl, hw4⟩; rw [hw4]; clear hw4 w4))
        clear HL3 HS
        generalize wr = wo at *
        have hs3 := HB3.out.size
        have hls := HIl.out
        have hfl : (fillL O.lt l).length = k := by rw [fillL_length, hls]
        have HW := hidIn ((HB.out.trans (HB3.out.mono HB.out.size)).alloc (Nat.le_trans HB.out.size HB3.out.size) (.cells (madeCells #[.int .i64 0] 256) 3))
        have HM3 := hidIn ((HM2.out.below HB3.out (Nat.le_refl _)).below ((Below.refl _ w3).alloc (Nat.le_refl _) (.cells (madeCells #[.int .i64 0] 256) 3)) (Nat.le_refl _))
        have HCt := hidIn (hasC_made w3)
        have HCc := hidIn ((HC.out.block (HB3.out.block _ HC.out.lt) hs3).block (Below.heap_alloc w3 (.cells (madeCells #[.int .i64 0] 256) 3) _ (Nat.lt_of_lt_of_le HC.out.lt hs3)) (by simp))
        have HRo := hidIn (HR3.out.alloc (.cells (madeCells #[.int .i64 0] 256) 3))
        have hCl := HC.out.lt
        have HO : Hid (∀ j, own (w.heap.size + 1) vt j → w.heap.size + 1 ≤ j ∧ j < wo.heap.size) := hidIn fun j hj => HM2.out.own_ge hj
        have HNot : Hid (∀ j, (Value.slice sa k scap).ownBlock = some j → ¬ (own (w.heap.size + 1) vt j ∨ j = w3.heap.size)) := hidIn fun j hj h => by
          have h9 := HR3.out.lt j hj
          rcases h with h | h
          · have := (HO.out j h).2; omega
          · omega
        go_loopw [12] (fun i wq => ∃ m : Nat, m ≤ k ∧ i = .int .i64 m ∧ Hid (∃ v4, In.HpM O wq (w.heap.size + 1) (w.heap.size + 1) v4 (popN O.lt m (fillL O.lt l)) k ∧ v4.ownBlock = vt.ownBlock ∧ HasC wq w3.heap.size (fun j => 2 * cnt (outN O.lt (fillL O.lt l) m) j) ∧ Fr (fun j => own (w.heap.size + 1) vt j ∨ j = w3.heap.size) (w3.alloc (.cells (madeCells #[.int .i64 0] 256) 3)) wq)) (fun i _ => k - (intOf i).toNat)
        case atStart => exact ⟨0, Nat.zero_le _, rfl, hidIn ⟨vt, HM3.out, rfl, HCt.out, Fr.refl _ _⟩⟩
        case round =>
          obtain ⟨m, hm, rfl, HR⟩ := hrel
          obtain ⟨v4, hM4, hv4, hC4, hF4⟩ := HR.out
          clear HR
          by_cases hlt : m < k
          · obtain ⟨a, ha⟩ := popN_head O.lt (show m < (fillL O.lt l).length by omega)
            have hso : (sortL O.lt l)[m]? = some a.1 := by
              unfold sortL
              rw [outN_get O.lt _ _ m (by omega) (by rw [hfl, hls]; exact Nat.le_refl _), ha]
              rfl
            have haD := (HOB.out.2 a.1).1 (hM4.dom a (List.mem_of_getElem? ha))
            have hon := outN_next O.lt ha
            have hpl := popN_length O.lt (fillL O.lt l) m
            have HP := hidIn (In.pop_ok hM4 (by omega) ha ((HOB.out.2 0).2 (by omega)))
            obtain ⟨av, num⟩ := a
            obtain ⟨xn, hxn⟩ := Int.eq_ofNat_of_zero_le haD.1
            simp only at hxn haD hso hon HP
            rw [hxn] at haD hso hon HP
            have hcb := cnt_le (outN O.lt (fillL O.lt l) m) xn
            rw [outN_length O.lt _ m (by omega)] at hcb
            have HSo := hidIn hso
            have HOn := hidIn hon
            have HC4 := hidIn hC4
            have HF4 := hidIn hF4
            have Hv4 := hidIn hv4
            have hs4 := hF4.size
            simp only [World.size_alloc] at hs4
            clear hM4 hv4 hC4 hF4 ha hso hon hpl hxn
            have hki : (m : Int) < (k : Int) := by omega
            have hx0 : (0 : Int) ≤ (xn : Int) := by omega
            have hx1 : (xn : Int) < 256 := by omega
            have hx2 : ¬ (255 : Int) < (xn : Int) := by omega
            go_wp2_with fail
            refine HP.out.mono ?_
            rintro e w5 ⟨rfl, hM5, hF5⟩
            have HM5 := hidIn hM5
            have HF5 := hidIn hF5
            clear hM5 hF5
            have hF5' := Fr.trans HF4.out (HF5.out.mono (T := fun j => own (w.heap.size + 1) vt j ∨ j = w3.heap.size) (fun j _ h => .inl ((own_eq Hv4.out).1 h)))
            obtain ⟨og, rfl, ho1, ho2, hoc⟩ := out_cell HRo.out HR3.out hF5' HNot.out HSo.out (by omega)
            have hC5 := HC4.out.block (HF5.out.block w3.heap.size HC4.out.lt (fun h => by have := (HO.out _ ((own_eq Hv4.out).1 h)).2; omega)) HF5.out.size
            have HC5 := hidIn hC5
            have HF5' := hidIn hF5'
            have cc := hC5.c xn (by omega)
            have cf := hC5.f xn
            have hne : og ≠ w3.heap.size := by omega
            clear hC5 hF5'
            obtain ⟨c, hc⟩ : ∃ c, cnt (outN O.lt (fillL O.lt l) m) xn = c := ⟨_, rfl⟩
            rw [hc] at cc hcb
            have Hc := hidIn hc
            clear hc
            go_wp2
            go_roundw
            case rel =>
              obtain ⟨v6, h61, h62⟩ := HM5.out
              refine ⟨m + 1, by omega, by go_num, hidIn ⟨v6, ?_, h62.trans Hv4.out, ?_, ?_⟩⟩
              · have hno : ¬ own (w.heap.size + 1) v6 w3.heap.size := fun h => by have := (HO.out _ ((own_eq (h62.trans Hv4.out)).1 h)).2; omega
                have hOB : O.B ≤ w3.heap.size := by have := HOB.out.1; omega
                exact (h61.setOther hno hOB _).setOther hno hOB _
              · have h8 := (HC5.out.set xn (by omega) (2 * c + 1)).set xn (by omega) (2 * c + 1 + 1)
                have h9 : (fun j => if j = xn then 2 * c + 1 + 1 else if j = xn then 2 * c + 1 else 2 * cnt (outN O.lt (fillL O.lt l) m) j) = fun j => 2 * cnt (outN O.lt (fillL O.lt l) (m + 1)) j := by
                  funext j
                  rw [HOn.out, cnt_snoc]
                  by_cases e : j = xn
                  · rw [if_pos e, if_pos e, Hc.out]; omega
                  · rw [if_neg e, if_neg e, if_neg e]
                rw [h9] at h8
                exact h8
              · exact (HF5'.out.set (p := ⟨w3.heap.size, xn, none⟩) (.inr rfl) _).set (p := ⟨w3.heap.size, xn, none⟩) (.inr rfl) _
            case measure => simp [intOf]; omega
          · have hme : m = k := by omega
            have hki : ¬ ((m : Int) < (k : Int)) := by omega
            have hemp : (popN O.lt m (fillL O.lt l)).length = 0 := by rw [popN_length, hfl]; omega
            have hsp : outN O.lt (fillL O.lt l) m = sortL O.lt l := by unfold sortL; rw [hls, hme]
            rw [hsp] at hC4
            have hcp : (fun j => 2 * cnt (sortL O.lt l) j) = fun j => 2 * cnt l j := by funext j; rw [cnt_perm (sort_perm O.lt l) j]
            rw [hcp] at hC4
            have hcC := HCc.out.block (hF4.block _ HCc.out.lt (fun h => by
              rcases h with h | h
              · exact HSc.out h
              · omega)) hF4.size
            have HX := hidIn hM4
            have HCx := hidIn hC4
            have HCy := hidIn hcC
            have hEm := hidIn hemp
            have HBq := hidIn (HW.out.trans (hF4.below HW.out.size (fun j h => by
              rcases h with h | h
              · have := (HO.out j h).1; omega
              · omega)))
            clear hM4 hv4 hC4 hF4 hemp hsp hcp hcC HM3 HCt HCc HNot HRo
            generalize wr = w9 at *
            go_wp2_with fail
            go_loopw [15] (fun i wq => ∃ j : Nat, j ≤ 256 ∧ i = .int .i64 j ∧ Hid (Below w9.heap.size w9 wq)) (fun i _ => 256 - (intOf i).toNat)
            case atStart => exact ⟨0, Nat.zero_le _, rfl, hidIn (Below.refl _ _)⟩
            case round =>
              obtain ⟨j, hj, rfl, HBj⟩ := hrel
              by_cases hjl : j < 256
              · have d0 := (HBj.out.cell (p := ⟨w3.heap.size, j, none⟩) HCx.out.lt).trans (HCx.out.c j hjl)
                have d1 := (HBj.out.cell (p := ⟨w.heap.size + 2, j, none⟩) HCy.out.lt).trans (HCy.out.c j hjl)
                have hcb := cnt_le l j
                generalize cnt l j = c at *
                have hji : (j : Int) < 256 := by omega
                go_wp2
                go_quiet (fail)
                go_wp2
                go_roundw
                case rel => exact ⟨j + 1, by omega, by go_num, hidIn (below_drewN HBj.out _)⟩
                case measure => simp [intOf]; omega
              · have hji : ¬ ((j : Int) < 256) := by omega
                have hLq := In.len_ok (HX.out.below HBj.out (Nat.le_refl _))
                rw [hEm.out] at hLq
                have HLq := hidIn hLq
                clear hLq
                go_wp2_with (first
                  | (go_at_call 24; refine HLq.out.mono ?_; rintro e w6 ⟨rfl, hw6⟩; rw [hw6]; clear hw6 w6)
                  | (go_at_call 16; refine (works_ok _).mono ?_; rintro e w7 ⟨rfl, hb7⟩))
                go_ret
                have hbw := HBq.out.trans (HBj.out.mono HBq.out.size)
                exact ⟨rfl, hbw.trans (hb7.mono hbw.size)⟩
theorem cellsU8 : Try.prog.cellsOf 5 = 1 := by kernel_rfl
open Go.ChangeShapes Go.WideShapes Go.ChangeAt in
theorem strange_arg {H : Type} {enc : TypeId × Value → H} {W : World} {a : Option Addr} {len cap : Nat} {d : DataW H} {p : List MemPlace} (N : Int) (hN : (Lit.int .u64 N).wf = true) (h : DataW.Trod enc Try.prog W 0 (fun _ => true) true 46 (.slice a len cap) d p) :
    Calls Try.prog 6 #[.int .u64 N, .slice a len cap] W fun e w' => e = .returned (.bool true) ∧ Below W.heap.size W w' := by
  simp [Lit.wf, IntKind.min, IntKind.max, IntKind.bits, IntKind.signed] at hN
  obtain ⟨M, rfl⟩ := Int.eq_ofNat_of_zero_le hN.1
  have hM : M < 2 ^ 64 := by omega
  obtain ⟨fuel, hf⟩ := h
  rcases open_ints Try.underlying46 Try.underlying5 cellsU8 hf with ⟨hcs, _⟩ | ⟨ad, len', cap', zs, hcs, _, hl, hm, hz, _, hcell, hwf⟩
  · simp [Value.cells] at hcs
    obtain ⟨rfl, rfl, rfl⟩ := hcs
    exact strange_walk hM (zs := []) ⟨⟨none, 0, rfl, fun h => by simp at h⟩, fun z hz => by simp at hz, by simp⟩
  · simp [Value.cells] at hcs
    obtain ⟨rfl, rfl, rfl⟩ := hcs
    simp only [if_true] at hz
    have hb : ∀ z ∈ zs, 0 ≤ z ∧ z ≤ 255 := fun z hz' => by
      have := hwf z hz'
      simp [Lit.wf, IntKind.min, IntKind.max, IntKind.bits, IntKind.signed] at this
      omega
    have hlen : ((zs.take len).map Int.toNat).length = len := by rw [List.length_map, List.length_take]; omega
    have := strange_walk hM (zs := (zs.take len).map Int.toNat) (v := .slice (some ad) len cap) (w := W) ⟨⟨some ad, cap, by rw [hlen], fun h0 => by
      obtain ⟨bk, o, rfl, hc⟩ := ints_at hcell (by omega)
      refine ⟨bk, o, rfl, block_lt_of_cell (hc 0 (by omega)), fun j z hj => ?_⟩
      have hjl := (List.getElem?_eq_some_iff.1 hj).1
      rw [hlen] at hjl
      rw [hc j (by omega)]
      have hjz : j < zs.length := by omega
      rw [List.getElem?_map, List.getElem?_take_of_lt hjl, List.getElem?_eq_getElem hjz] at hj
      simp at hj
      have e1 : zs.getD j 0 = zs[j] := by simp [List.getD, List.getElem?_eq_getElem hjz]
      rw [e1, ← hj]
      have := hb zs[j] (List.getElem_mem _)
      congr 2
      omega⟩, fun z hz' => by
        obtain ⟨y, hy, rfl⟩ := List.mem_map.1 hz'
        have := hb y (List.mem_of_mem_take hy)
        omega, by rw [hlen]; unfold maxLen at hm; omega⟩
    exact this
end Go.Proofs.Ytndiafbldgbplaa
