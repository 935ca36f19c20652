/- dandelionlaw04.SetsSplits: the walk, where nothing is refused. -/
import Derived.Test.YtjcbbifjhoemaaaDoorSQ
namespace Go.Proofs.YtjcbbifjhoemaaaDoor
open Go.RowKit

theorem grown_setCells (b : Nat) : ∀ (vs : List Value) (o : Nat) (w : World), w.grownBy (w.setCells b o vs) (some b)
  | [], _, w => ⟨rfl, rfl, rfl, Nat.le_refl _, fun _ _ _ => rfl⟩
  | v :: r, o, w => by
    rw [World.setCells]
    have h1 : w.grownBy (w.setCell ⟨b, o, none⟩ v) (some b) := ⟨rfl, rfl, rfl, by simp, fun k _ hk => Below.heap_setCell w ⟨b, o, none⟩ v k (fun e => hk (by rw [e]))⟩
    have h2 := grown_setCells b r (o + 1) (w.setCell ⟨b, o, none⟩ v)
    exact ⟨h2.os.trans h1.os, h2.tape.trans h1.tape, h2.output.trans h1.output, Nat.le_trans h1.size h2.size, fun k hk hn => (h2.block k (Nat.lt_of_lt_of_le hk h1.size) hn).trans (h1.block k hk hn)⟩
set_option maxRecDepth 100000 in
set_option maxHeartbeats 2000000 in
theorem splits_good (zs : List Int) (a : Option Addr) (cap : Nat) (V : Nat) (w : World) (ht : Wid w) (hu : IntsArg w a cap zs) (hW : IsW V) (hall : allIds (zs.take 200)) :
    Calls Tryd.prog 3 #[.slice a zs.length cap, .int .i64 (V : Int)] w fun e w' => e = .returned (.bool true) ∧ Below w.heap.size w w' := by
  have hmin : min (zs.length : Int) 200 = ((min zs.length 200 : Nat) : Int) := by omega
  have hadd : Option.map (fun x => x.add 0) a = a := by
    cases a with
    | none => rfl
    | some x => simp [Addr.add]
  have hmc : min zs.length 200 ≤ cap := by have := hu.room; omega
  have hm200 : min zs.length 200 ≤ 200 := by omega
  have hml : min zs.length 200 ≤ zs.length := by omega
  have htk : zs.take 200 = zs.take (min zs.length 200) := by
    by_cases h : zs.length ≤ 200
    · rw [Nat.min_eq_left h, List.take_of_length_le h, List.take_of_length_le (Nat.le_refl _)]
    · rw [Nat.min_eq_right (by omega)]
  rw [htk] at hall
  clear htk
  generalize min zs.length 200 = m at hmin hmc hm200 hml hall
  obtain ⟨v1, w1, hrun1, hr1, hb1⟩ := hu.all hml (by omega)
  have hidsW := hu.ids hml
  have hs1 := hb1.size
  have hpos := wid_pos ht
  obtain ⟨g, gcap, w2, hrun2, hr2, _, hs2, _, hb2⟩ := append_int (B := w1.heap.size) (c := 0) hr1 (x := .int .i64 77) rfl (by omega) hs1 (fun g hg => .inl (hr1.lt g hg).2) (by omega)
  have hroom := row_room hr2
  have hmg : m ≤ gcap := by omega
  have hb12 := hb1.trans hb2
  have ht2 := ht.keep hb12
  have hids2 := hidsW.keep hb12
  have hin2 : IdsAt w2 (.slice (some ⟨g, 0, none⟩) m gcap) (zs.take m) := by
    have hl : (zs.take m).length = m := by rw [List.length_take]; omega
    refine .inr ⟨g, 0, gcap, by rw [hl], hroom.2, by omega, fun j hj => ?_⟩
    rw [Nat.zero_add]
    refine row_cell hr2 ?_
    rw [List.getElem?_append_left (by simpa using hj), List.getElem?_map, List.getElem?_eq_getElem hj]
    rfl
  have h77 : w2.cell? ⟨g, m, none⟩ = some (.int .i64 77) := row_cell hr2 (by
    have hl : ((zs.take m).map fun z => Value.int .i64 z).length = m := by rw [List.length_map, List.length_take]; omega
    rw [List.getElem?_append_right (by rw [hl]; exact Nat.le_refl _), hl, Nat.sub_self]
    rfl)
  have HR1 := hidIn hrun1
  have HR2 := hidIn hrun2
  obtain ⟨va, vcap, rfl⟩ := row_shape hr1
  have Hzs := hidIn (rfl : zs.take m = zs.take m)
  obtain ⟨ys, hys⟩ : ∃ ys, zs.take m = ys := ⟨_, rfl⟩
  rw [hys] at hids2 hin2 hall
  clear hrun1 hrun2 hr1 hr2 hidsW Hzs
  obtain ⟨ln, ec, xs, ps, n, hA⟩ := answers (v := .slice (some ⟨g, 0, none⟩) m gcap) (u := .slice a m cap) hW hall
  have HA := hidIn hA
  have hec2 : ¬ ec = 2 := by have := hA.hec; omega
  have hln := hA.hln
  clear hA hW hall hys
  go_enter Tryd.func3, Tryd.ntmps3
  go_wp2_with (first
    | (refine l_append rfl _ _ 22 rfl HR1.out ?_; clear HR1)
    | (refine l_append rfl _ _ 22 rfl HR2.out ?_)
    | (go_at_call 5; refine (HA.out.split _ hin2 ht2).mono ?_; rintro e w3 ⟨⟨pa, pcap, rfl, hr3⟩, hb3⟩; have hin3 := hin2.keep hb3; have hids3 := hids2.keep hb3)
    | (go_at_call 6; refine (HA.out.rsplit _ hids3).mono ?_; rintro e w4 ⟨⟨qa, qcap, rfl, hr4⟩, hb4⟩; have ht4 := (ht2.keep hb3).keep hb4)
    | (go_at_call 7; refine (HA.out.sets _ (hin3.keep hb4) ht4).mono ?_; rintro e w5 ⟨rfl, hb5⟩; have ht5 := ht4.keep hb5; have hr35 := row_below (row_below hr3 hb4 (Nat.le_refl _)) hb5 (Nat.le_refl _); have hr45 := row_below hr4 hb5 (Nat.le_refl _))
    | (go_at_call 9; refine (sameParts_yes (HA.out.parts _ _ _ hr35) (HA.out.parts _ _ _ hr45)).mono ?_; rintro e w6 ⟨rfl, hb6⟩))
  have s12 := hb12.size
  have s3 := hb3.size
  have s4 := hb4.size
  have s5 := hb5.size
  have s6 := hb6.size
  have hr46 := row_below hr45 hb6 (Nat.le_refl _)
  have hr36 := row_below hr35 hb6 (Nat.le_refl _)
  have hb26 : Below w2.heap.size w2 w6 := ((hb3.trans (hb4.mono (by omega))).trans (hb5.mono (by omega))).trans (hb6.mono (by omega))
  have Hl : Hid (0 < ln → ∃ gl, pa = some ⟨gl, 0, none⟩ ∧ w2.heap.size ≤ gl ∧ gl < w3.heap.size ∧ w6.there gl 0 (ln * 5)) := hidIn (fun h0 => by
    rcases hr36.2 with ⟨h, h1⟩ | ⟨gl, cap', cur, h, hb', hh, hle, _, hsz', _⟩
    · omega
    · cases h
      refine ⟨gl, rfl, hb', ?_, fun j hj => ⟨?_, ?_⟩⟩
      · have := (hr3.lt gl rfl).2; exact this
      · rw [Nat.zero_add, cell_of_row _ _ j _ _ _ hh, Array.getElem?_eq_getElem (by rw [hsz']; have := Nat.mul_le_mul_right 5 hle; omega)]; rfl
      · unfold World.frozen?
        simp only [hh]
        simp)
  clear hr3 hr4 hr35 hr45 hr36 HR2
  go_loopw [13] (fun i wr => ∃ k : Nat, k ≤ ln ∧ i = .int .i64 k ∧ wr.ownsRow w3.heap.size 37 5 (.slice qa ln qcap) ln xs ∧ Below w2.heap.size w2 wr ∧ w6.heap.size ≤ wr.heap.size ∧ (∀ gl, pa = some ⟨gl, 0, none⟩ → 0 < ln → wr.there gl 0 (ln * 5))) (fun i _ => ln - (intOf i).toNat)
  case atStart => exact ⟨0, Nat.zero_le _, rfl, hr46, hb26, Nat.le_refl _, fun gl e h0 => by obtain ⟨g', e', _, _, h⟩ := Hl.out h0; rw [e] at e'; cases e'; exact h⟩
  case round =>
    obtain ⟨k, hk, rfl, hrw, hbz, hsz, hth⟩ := hrel
    by_cases hlt : k < ln
    · obtain ⟨gl, rfl, hgl, hgl3, _⟩ := Hl.out (by omega)
      have ht' := hth gl rfl (by omega)
      have hki : (k : Int) < (ln : Int) := by omega
      obtain ⟨c0, e0⟩ := Option.isSome_iff_exists.1 (ht' (k * 5) (by omega)).1
      obtain ⟨c1, e1⟩ := Option.isSome_iff_exists.1 (ht' (k * 5 + 1) (by omega)).1
      obtain ⟨c2, e2⟩ := Option.isSome_iff_exists.1 (ht' (k * 5 + 2) (by omega)).1
      obtain ⟨c3, e3⟩ := Option.isSome_iff_exists.1 (ht' (k * 5 + 3) (by omega)).1
      obtain ⟨c4, e4⟩ := Option.isSome_iff_exists.1 (ht' (k * 5 + 4) (by omega)).1
      have f0 := (ht' (k * 5) (by omega)).2
      have f1 := (ht' (k * 5 + 1) (by omega)).2
      have f2 := (ht' (k * 5 + 2) (by omega)).2
      have f3 := (ht' (k * 5 + 3) (by omega)).2
      have f4 := (ht' (k * 5 + 4) (by omega)).2
      simp only [Nat.zero_add] at e0 e1 e2 e3 e4 f0 f1 f2 f3 f4
      go_wp2
      go_roundw
      case rel =>
        refine ⟨k + 1, by omega, by go_num, ?_, ?_, ?_, ?_⟩
        · exact hrw.kept (grown_setCells gl [.int .i64 0, .int .u64 0, .int .u64 0, .int .u64 0, .int .u64 0] (k * 5) wr) (.inr (fun e => by have := (hrw.lt gl e).1; omega))
        · exact hbz.trans (below_setCells gl [.int .i64 0, .int .u64 0, .int .u64 0, .int .u64 0, .int .u64 0] (k * 5) wr _ hgl)
        · show w6.heap.size ≤ (wr.setCells gl (k * 5) [.int .i64 0, .int .u64 0, .int .u64 0, .int .u64 0, .int .u64 0]).heap.size
          rw [size_setCells]; exact hsz
        · intro g' e _
          cases e
          intro j hj
          exact ⟨World.isSome_setCells gl [.int .i64 0, .int .u64 0, .int .u64 0, .int .u64 0, .int .u64 0] (k * 5) wr _ (ht' j hj).1, by
            show (wr.setCells gl (k * 5) [.int .i64 0, .int .u64 0, .int .u64 0, .int .u64 0, .int .u64 0]).frozen? _ = false
            rw [World.frozen?_setCells]; exact (ht' j hj).2⟩
      case measure => simp [intOf]; omega
    · have hle : ¬ ((k : Int) < (ln : Int)) := by omega
      have Hin7 := hidIn (hin2.keep hbz)
      have Hids7 := hidIn (hids2.keep hbz)
      have Ht7 := hidIn (ht2.keep hbz)
      have C7 := hidIn ((hbz.cell (p := ⟨g, m, none⟩) hroom.2).trans h77)
      have hgw : g < wr.heap.size := Nat.lt_of_lt_of_le hroom.2 hbz.size
      have hm1 : m + 1 ≤ gcap := hroom.1
      have Hrw := hidIn hrw
      have HB0 := hidIn (hb12.trans (hbz.mono (by omega)))
      clear hin2 hids2 ht2 hrw hbz hth hb12 hb3 hb4 hb5 hb6 hr46 hb26 Hl h77 hin3 hids3 ht4 ht5 hsz hroom hb1 hb2 hu ht s12 s3 s4 s5 s6 hs1 hs2 hpos
      go_wp2_with fail
      refine (HA.out.split _ Hin7.out Ht7.out).mono ?_
      rintro e w8 ⟨⟨ra, rcap, rfl, hr8⟩, hb8⟩
      have s8 := hb8.size
      have HP8 := hidIn (sameParts_yes (HA.out.parts _ _ _ hr8) (HA.out.parts _ _ _ (row_below Hrw.out hb8 (Nat.le_refl _))))
      have Hin8 := hidIn (Hin7.out.keep hb8)
      have Hids8 := hidIn (Hids7.out.keep hb8)
      have Ht8 := hidIn (Ht7.out.keep hb8)
      have C8 := hidIn ((hb8.cell (p := ⟨g, m, none⟩) hgw).trans C7.out)
      have HB8 := hidIn (HB0.out.trans (hb8.mono HB0.out.size))
      clear hr8 hb8 Hin7 Hids7 Ht7 C7 HB0 Hrw
      go_wp2_with fail
      refine HP8.out.mono ?_
      rintro e w9 ⟨rfl, hb9⟩
      have s9 := hb9.size
      have HI9 := hidIn (sameInts_yes (Hin8.out.keep hb9) (Hids8.out.keep hb9))
      have Ht9 := hidIn (Ht8.out.keep hb9)
      have C9 := hidIn ((hb9.cell (p := ⟨g, m, none⟩) (show g < w8.heap.size by omega)).trans C8.out)
      have HB9 := hidIn (HB8.out.trans (hb9.mono HB8.out.size))
      clear hb9 HP8 Hin8 Hids8 Ht8 C8 HB8
      go_wp2_with fail
      refine HI9.out.mono ?_
      rintro e w10 ⟨rfl, hb10⟩
      have c10 := (hb10.cell (p := ⟨g, m, none⟩) (show g < w9.heap.size by omega)).trans C9.out
      have HW10 := hidIn (works_any _ (Ht9.out.keep hb10))
      have HB10 := hidIn (HB9.out.trans (hb10.mono HB9.out.size))
      clear hb10 HI9 Ht9 C9 HB9 HA s8 s9
      have hm2 : (m : Int) + 1 ≤ (gcap : Int) := by omega
      have hm3 : (m : Int) < (m : Int) + 1 := by omega
      go_wp2_with (go_at_call 8; refine HW10.out.mono ?_; rintro e w11 ⟨rfl, hb11⟩)
      go_ret
      exact ⟨rfl, HB10.out.trans (hb11.mono HB10.out.size)⟩
theorem splits_walk (zs : List Int) (a : Option Addr) (cap : Nat) (W : Int) (w : World) (ht : Wid w) (hu : IntsArg w a cap zs) :
    Calls Tryd.prog 3 #[.slice a zs.length cap, .int .i64 W] w fun e w' => e = .returned (.bool true) ∧ Below w.heap.size w w' := by
  by_cases hbad : ¬ IsW W ∨ ¬ allIds (zs.take 200)
  · exact splits_bad zs a cap W w ht hu hbad
  · have hW : IsW W := Classical.byContradiction fun h => hbad (.inl h)
    have hall : allIds (zs.take 200) := Classical.byContradiction fun h => hbad (.inr h)
    obtain ⟨V, rfl⟩ := Int.eq_ofNat_of_zero_le (show 0 ≤ W by unfold IsW at hW; omega)
    exact splits_good zs a cap V w ht hu hW hall
end Go.Proofs.YtjcbbifjhoemaaaDoor
