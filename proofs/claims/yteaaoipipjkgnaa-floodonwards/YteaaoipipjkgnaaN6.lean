/- The stamps of a store. -/
import Derived.Test.YteaaoipipjkgnaaN5
namespace Go.Proofs.Yteaaoipipjkgnaa
open Go.RowKit Go.Maps

abbrev sc3 (x : Ed) : List Value := [.int .i64 x.1, .int .u32 x.2.1, .int .u32 x.2.2]
def stOf (r : Rc) : Ed := (r.origin, r.epoch, r.seq)
theorem infoSt : (Try.prog.info? 67).map (fun i => (i.zero, i.size, i.bytes)) = some (some (.agg #[.int .i64 0, .int .u32 0, .int .u32 0]), 3, 16) := by kernel_rfl
theorem append_st {W : World} {base k : Nat} {u : Value} {l : List Ed} (hr : W.ownsRow base 67 3 u k (fl sc3 l)) (x : Ed) (hk : (k + 1) * 16 ≤ 140737488355328) (hbase : base ≤ W.heap.size) :
    ∃ g cap w6, (Builtin.append_ #[112, 112] 112 #[u, .slice (some ⟨W.heap.size, 0, none⟩) 1 1]).run Try.prog (W.alloc (.cells (sc3 x).toArray 67)) = .ok (.slice (some ⟨g, 0, none⟩) (k + 1) cap) w6 ∧
      w6.ownsRow base 67 3 (.slice (some ⟨g, 0, none⟩) (k + 1) cap) (k + 1) (fl sc3 (l ++ [x])) ∧ (u.ownBlock = some g ∨ g = W.heap.size + 1) ∧ W.grownBy w6 u.ownBlock ∧ Below base W w6 :=
  append_one (P := Try.prog) (cs := sc3) (T := 112) (fun _ => rfl) (fun _ => by simp [Value.oneCell']) Try.underlying112 infoSt rfl (by decide) hr x hk (by unfold maxLen; omega) hbase
theorem allL_len (f : Sf) : ∀ i, (allL f i).length ≤ i
  | 0 => by simp [allL]
  | i + 1 => by
    rw [allL_succ, List.length_append]
    have := allL_len f i
    split <;> simp <;> omega
/-- What Stamps answers. -/
def StsAns (w w' : World) (l : List Ed) (e : Ending) : Prop := ∃ u, e = .returned u ∧ w'.ownsRow w.heap.size 67 3 u l.length (fl sc3 l)
set_option maxRecDepth 100000 in
set_option maxHeartbeats 2000000 in
theorem sstamps_any {S M n : Nat} {f : Sf} {w : World} (h : StAt w S M n f) :
    Calls Try.prog 55 #[ptr S] w fun e w' => StsAns w w' ((allL f 24).map stOf) e ∧ Below w.heap.size w w' := by
  have HA := hidIn (sall_any h)
  clear h
  go_enter Try.func55, Try.ntmps55
  go_wp2_with fail
  refine HA.out.mono ?_
  rintro e w2 ⟨⟨u, L, rfl, hrow, hrs, hfr⟩, hb2⟩
  have hL24 : L.length ≤ 24 := by
    have := allL_len f 24
    rw [← hrs, List.length_map] at this
    exact this
  obtain ⟨aa, cap, rfl, hl, _, hat⟩ := (slAt_of_row (cs := rcc) (fun _ => rfl) hrow rfl).recs
  have Hat := hidIn hat
  have Hrs := hidIn hrs
  have HB2 := hidIn hb2
  have Hfr := hidIn hfr
  obtain ⟨LL, hLL⟩ : ∃ LL, L.length = LL := ⟨_, rfl⟩
  rw [hLL] at Hat hL24 ⊢
  have HLL := hidIn hLL
  clear hat hrs hb2 hfr hrow hl HA hLL
  go_wp2_with fail
  go_loopw [3, 9] (fun u i wr => ∃ k : Nat, k ≤ LL ∧ i = .int .i64 k ∧ Hid (wr.ownsRow w2.heap.size 67 3 u k (fl sc3 (((rcs L).map stOf).take k)) ∧ Below w2.heap.size w2 wr)) (fun _ i _ => LL - (intOf i).toNat)
  case atStart => exact ⟨0, Nat.zero_le _, rfl, hidIn ⟨by rw [List.take_zero]; exact World.ownsRow_nil _ _ _ _, Below.refl _ _⟩⟩
  case round =>
    obtain ⟨k, hk, rfl, HR⟩ := hrel
    by_cases hlt : k < LL
    · have hki : (k : Int) < (LL : Int) := by omega
      obtain ⟨hrow, hbel⟩ := HR.out
      obtain ⟨x, hx⟩ : ∃ x, L[k]? = some x := ⟨L[k]'(by rw [HLL.out]; exact hlt), List.getElem?_eq_getElem _⟩
      obtain ⟨bk, o, rfl, hbk, hcell⟩ := Hat.out (by omega)
      obtain ⟨q0, q1, q2, q3, q4, q5⟩ := hcell k x hx
      obtain ⟨xa, xc, hxv, _⟩ := Hfr.out x (List.mem_of_getElem? hx)
      rw [hxv] at q5
      have p0 := (hbel.cell (p := ⟨bk, o + k * 6, none⟩) hbk).trans q0
      have p1 := (hbel.cell (p := ⟨bk, o + k * 6 + 1, none⟩) hbk).trans q1
      have p2 := (hbel.cell (p := ⟨bk, o + k * 6 + 2, none⟩) hbk).trans q2
      have p3 := (hbel.cell (p := ⟨bk, o + k * 6 + 3, none⟩) hbk).trans q3
      have p4 := (hbel.cell (p := ⟨bk, o + k * 6 + 4, none⟩) hbk).trans q4
      have p5 := (hbel.cell (p := ⟨bk, o + k * 6 + 5, none⟩) hbk).trans q5
      have HT : Hid (((rcs L).map stOf).take (k + 1) = ((rcs L).map stOf).take k ++ [stOf x.1]) := hidIn (by
        rw [List.take_add_one]
        congr 1
        rw [List.getElem?_map, List.getElem?_map, hx]
        rfl)
      generalize x.1 = r at p0 p1 p2 p3 p4 p5 HT
      obtain ⟨nl, hnl⟩ : ∃ nl, r.adjs.length = nl := ⟨_, rfl⟩
      rw [hnl] at p5
      obtain ⟨W4, hW4⟩ : ∃ W4, wr.alloc (.cells #[.int .i64 r.origin, .int .u32 r.epoch, .int .u32 r.seq, .int .i64 r.claim, .bool r.ing, .slice xa nl xc] 38) = W4 := ⟨_, rfl⟩
      have b4 : Below wr.heap.size wr W4 := by rw [← hW4]; exact (Below.refl _ wr).alloc (Nat.le_refl _) _
      have hX : W4.heap[wr.heap.size]? = some (.cells #[.int .i64 r.origin, .int .u32 r.epoch, .int .u32 r.seq, .int .i64 r.claim, .bool r.ing, .slice xa nl xc] 38) := by rw [← hW4]; exact heap_alloc_last wr _
      have x0 := cell_of_row _ _ 0 _ _ _ hX
      have x1 := cell_of_row _ _ 1 _ _ _ hX
      have x2 := cell_of_row _ _ 2 _ _ _ hX
      have x3 := cell_of_row _ _ 3 _ _ _ hX
      have x4 := cell_of_row _ _ 4 _ _ _ hX
      have x5 := cell_of_row _ _ 5 _ _ _ hX
      simp at x0 x1 x2 x3 x4 x5
      obtain ⟨va, vcap, rfl⟩ := row_shape hrow
      have HW := hidIn hW4
      have HB4 := hidIn (hbel.trans (b4.mono hbel.size))
      have HRow4 := hidIn (row_below hrow b4 (Nat.le_refl _))
      clear hcell hrow hbel HR hx hxv q0 q1 q2 q3 q4 q5 hnl b4 hX hW4 hbk
      go_upto_region 5 with fail
      rw [HW.out]
      clear HW p0 p1 p2 p3 p4 p5
      go_wp2_with fail
      refine (stamp_any r xa nl xc _).mono ?_
      rintro e w5 ⟨rfl, hb5⟩
      have HB5 := hidIn (HB4.out.trans (hb5.mono HB4.out.size))
      obtain ⟨g, gcap, w6, hrun, hown, _, _, hb6⟩ := append_st (row_below HRow4.out hb5 (Nat.le_refl _)) (stOf r) (by omega) HB5.out.size
      have HRun := hidIn hrun
      have HO : Hid (w6.ownsRow w2.heap.size 67 3 (.slice (some ⟨g, 0, none⟩) (k + 1) gcap) (k + 1) (fl sc3 (((rcs L).map stOf).take (k + 1))) ∧ Below w2.heap.size w2 w6) := hidIn ⟨by rw [HT.out]; exact hown, HB5.out.trans hb6⟩
      clear hrun hown hb6 hb5 HB4 HRow4 HT HB5 x0 x1 x2 x3 x4 x5
      simp only [stOf] at HRun
      go_wp2_with (refine l_append rfl _ _ 112 rfl HRun.out ?_)
      go_roundw
      case rel => exact ⟨k + 1, by omega, by go_num, HO⟩
      case measure => simp [intOf]; omega
    · have hki : ¬ ((k : Int) < (LL : Int)) := by omega
      have HO : Hid (∀ v, u3 = v → StsAns w wr ((allL f 24).map stOf) (.returned v) ∧ Below w.heap.size w wr) := hidIn fun v hv => by
        have h1 : ((allL f 24).map stOf).length = k := by rw [List.length_map, ← Hrs.out, List.length_map, HLL.out]; omega
        refine ⟨⟨v, rfl, ?_⟩, HB2.out.trans (HR.out.2.mono HB2.out.size)⟩
        have h2 := HR.out.1
        rw [List.take_of_length_le (by rw [Hrs.out, h1]; omega), Hrs.out] at h2
        rw [h1, ← hv]
        exact row_low h2 HB2.out.size
      clear HR
      go_wp2_with fail
      go_ret
      exact HO.out _ rfl
end Go.Proofs.Yteaaoipipjkgnaa
