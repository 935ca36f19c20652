/- record's isRouter, isCost, adjsMayBe, stampMayBe, Stamp, oneIf, Check. -/
import Derived.Test.YteaaoipipjkgnaaX0
import Derived.Test.YteaaoipipjkgnaaG7
namespace Go.Proofs.Yteaaoipipjkgnaa
open Go.RowKit

theorem risR_any (n : Int) (w : World) : Calls Try.prog 82 #[.int .i64 n] w fun e w' => e = .returned (.bool (isR n)) ∧ w' = w := by
  by_cases h1 : 1 ≤ n
  · by_cases h2 : n ≤ 24
    · go_enter Try.func82, Try.ntmps82
      go_wp2
      go_ret
      exact ⟨by simp [isR, h1, h2], rfl⟩
    · go_enter Try.func82, Try.ntmps82
      go_wp2
      go_ret
      exact ⟨by simp [isR, h1]; omega, rfl⟩
  · go_enter Try.func82, Try.ntmps82
    go_wp2
    go_ret
    exact ⟨by simp [isR]; omega, rfl⟩
theorem risC_any (n : Int) (w : World) : Calls Try.prog 83 #[.int .i64 n] w fun e w' => e = .returned (.bool (isC n)) ∧ w' = w := by
  by_cases h1 : 1 ≤ n
  · by_cases h2 : n ≤ 1000
    · go_enter Try.func83, Try.ntmps83
      go_wp2
      go_ret
      exact ⟨by simp [isC, h1, h2], rfl⟩
    · go_enter Try.func83, Try.ntmps83
      go_wp2
      go_ret
      exact ⟨by simp [isC, h1]; omega, rfl⟩
  · go_enter Try.func83, Try.ntmps83
    go_wp2
    go_ret
    exact ⟨by simp [isC]; omega, rfl⟩
set_option maxRecDepth 100000 in
set_option maxHeartbeats 1000000 in
theorem radjs_any {r : Rc} {va : Value} {w : World} (hv : SlAt ac 2 w va r.adjs) :
    Calls Try.prog 59 #[recV r va] w fun e w' => e = .returned (.bool (decide (r.adjs.length ≤ 16) && adjsOk r.origin 0 r.adjs)) ∧ Below w.heap.size w w' := by
  obtain ⟨orig, epo, sq, cl, ig, as'⟩ := r
  simp only at hv ⊢
  obtain ⟨a, cap, rfl, hl, _, hat⟩ := hv.ads
  have Ha := hidIn hat
  clear hat hv
  by_cases h16 : as'.length ≤ 16
  · have h16' : ¬ (16 : Int) < (as'.length : Int) := by omega
    have Hd : Hid ((decide (as'.length ≤ 16) && adjsOk orig 0 as') = adjsOk orig 0 as') := hidIn (by simp [h16])
    rw [Hd.out]
    clear Hd
    have hb0 := heap_alloc_last w (recO ⟨orig, epo, sq, cl, ig, as'⟩ (.slice a as'.length cap))
    have hbl0 : Below w.heap.size w (w.alloc (recO ⟨orig, epo, sq, cl, ig, as'⟩ (.slice a as'.length cap))) := (Below.refl _ w).alloc (Nat.le_refl _) _
    go_enter Try.func59, Try.ntmps59
    go_wp2
    go_loopw [3, 13] (fun x i wr => ∃ (k : Nat) (last : Int), k ≤ as'.length ∧ i = .int .i64 k ∧ x = .int .i64 last ∧ Hid (wr.cell? ⟨w.heap.size, 0, none⟩ = some (.int .i64 orig) ∧ w.heap.size < wr.heap.size ∧ Below w.heap.size w wr ∧ adjsOk orig 0 as' = adjsOk orig last (as'.drop k))) (fun _ i _ => as'.length - (intOf i).toNat)
    case atStart => exact ⟨0, 0, Nat.zero_le _, rfl, rfl, hidIn ⟨cell_of_row _ _ 0 _ _ _ hb0, by simp, hbl0, by rw [List.drop_zero]⟩⟩
    case round =>
      obtain ⟨k, last, hk, rfl, rfl, HR⟩ := hrel
      obtain ⟨ho, hlt0, hbel, hrest⟩ := HR.out
      clear HR hb0 hbl0
      by_cases hlt : k < as'.length
      · obtain ⟨bk, o, rfl, hbk, hcell⟩ := Ha.out (by omega)
        obtain ⟨⟨x, y⟩, hz⟩ : ∃ z, as'[k]? = some z := ⟨as'[k], List.getElem?_eq_getElem hlt⟩
        obtain ⟨q0, q1⟩ := hcell k _ hz
        have c0 := (hbel.cell (p := ⟨bk, o + k * 2, none⟩) hbk).trans q0
        have c1 := (hbel.cell (p := ⟨bk, o + k * 2 + 1, none⟩) hbk).trans q1
        simp only at c0 c1
        have HN : Hid (adjsOk orig 0 as' = (adjOk orig last (x, y) && adjsOk orig x (as'.drop (k + 1)))) := hidIn (by rw [hrest, drop_next hz, adjsOk])
        have HB := hidIn (hbel.alloc hbel.size (.cells #[.int .i64 x, .int .i64 y] 98))
        have HO := hidIn ho
        have hki : (k : Int) < (as'.length : Int) := by omega
        clear hcell q0 q1 hz hrest hbel
        go_wp2_with fail
        refine (risR_any x _).mono ?_
        rintro e' w2 ⟨rfl, hw2⟩
        rw [hw2]
        clear hw2 w2
        obtain ⟨b1, hb1⟩ : ∃ b1, isR x = b1 := ⟨_, rfl⟩
        have Hb1 := hidIn hb1
        rw [hb1]
        clear hb1
        cases b1
        · go_wp2_with fail
          go_returns
          exact ⟨by rw [HN.out]; simp [adjOk, Hb1.out], HB.out⟩
        by_cases hxo : x = orig
        · have hxo' : (x == orig) = true := by simpa using hxo
          have Hx := hidIn hxo
          clear hxo
          go_wp2_with fail
          go_returns
          exact ⟨by rw [HN.out]; simp [adjOk, Hx.out], HB.out⟩
        have hxo' : (x == orig) = false := by simpa using hxo
        by_cases hxl : x ≤ last
        · go_wp2_with fail
          go_returns
          exact ⟨by rw [HN.out]; simp [adjOk]; intro _ _ _; omega, HB.out⟩
        go_wp2_with fail
        refine (risC_any y _).mono ?_
        rintro e' w2 ⟨rfl, hw2⟩
        rw [hw2]
        clear hw2 w2
        obtain ⟨b1, hb1⟩ : ∃ b1, isC y = b1 := ⟨_, rfl⟩
        have Hb2 := hidIn hb1
        rw [hb1]
        clear hb1
        cases b1
        · go_wp2_with fail
          go_returns
          exact ⟨by rw [HN.out]; simp [adjOk, Hb2.out], HB.out⟩
        go_wp2_with fail
        go_roundw
        case rel =>
          refine ⟨k + 1, x, by omega, by go_num, rfl, hidIn ⟨?_, by simp; omega, HB.out, ?_⟩⟩
          · exact ((((Below.refl _ wr).alloc (Nat.le_refl _) _).cell (p := ⟨w.heap.size, 0, none⟩) hlt0)).trans HO.out
          · rw [HN.out]; simp [adjOk, Hb1.out, Hb2.out, hxo]; intro h; omega
        case measure => simp [intOf]; omega
      · have HB := hidIn hbel
        have hke : k = as'.length := by omega
        have HE : Hid (adjsOk orig 0 as' = true) := hidIn (by rw [hrest, hke, List.drop_length]; rfl)
        have hki : ¬ ((k : Int) < (as'.length : Int)) := by omega
        clear hbel hrest
        go_wp2_with fail
        go_returns
        exact ⟨by rw [HE.out]; rfl, HB.out⟩
  · have h16' : (16 : Int) < (as'.length : Int) := by omega
    go_enter Try.func59, Try.ntmps59
    go_wp2
    go_ret
    exact ⟨by simp [h16], by go_grown⟩
abbrev stV (o e s : Int) : Value := .agg #[.int .i64 o, .int .u32 e, .int .u32 s]
abbrev stO (o e s : Int) : Obj := .cells #[.int .i64 o, .int .u32 e, .int .u32 s] 67
set_option maxRecDepth 100000 in
set_option maxHeartbeats 1000000 in
theorem mayS_any (o e s : Int) (w : World) : Calls Try.prog 58 #[stV o e s] w fun r w' => r = .returned (.bool (mayS o e s)) ∧ Below w.heap.size w w' := by
  have hb0 : Below w.heap.size w (w.alloc (stO o e s)) := (Below.refl _ w).alloc (Nat.le_refl _) _
  go_enter Try.func58, Try.ntmps58
  go_wp2_with fail
  refine (risR_any o _).mono ?_
  rintro e' w2 ⟨rfl, hw2⟩
  rw [hw2]
  clear hw2 w2
  obtain ⟨b1, hb1⟩ : ∃ b1, isR o = b1 := ⟨_, rfl⟩
  have Hb1 := hidIn hb1
  rw [hb1]
  clear hb1
  cases b1
  · go_wp2_with fail
    go_ret
    exact ⟨by simp [mayS, Hb1.out], hb0⟩
  by_cases h1 : 0 < e
  · by_cases h2 : 0 < s
    · go_wp2_with fail
      go_ret
      exact ⟨by simp [mayS, Hb1.out, h1, h2], hb0⟩
    · go_wp2_with fail
      go_ret
      exact ⟨by simp [mayS, Hb1.out]; omega, hb0⟩
  · go_wp2_with fail
    go_ret
    exact ⟨by simp [mayS, Hb1.out]; omega, hb0⟩
set_option maxRecDepth 100000 in
set_option maxHeartbeats 1000000 in
theorem stamp_any (r : Rc) (a : Option Addr) (n cap : Nat) (w : World) : Calls Try.prog 23 #[recV r (.slice a n cap)] w fun e w' => e = .returned (stV r.origin r.epoch r.seq) ∧ Below w.heap.size w w' := by
  obtain ⟨orig, epo, sq, cl, ig, as'⟩ := r
  simp only
  go_enter Try.func23, Try.ntmps23
  go_wp2_with fail
  exact bodyPost_ret (v := stV orig epo sq) (by simp [results, Try.results23, asAddr, Result.andThen, go_sem]) rfl ⟨rfl, by go_grown⟩
theorem recOk_may (r : Rc) : recOk r = (mayS r.origin r.epoch r.seq && (decide (0 ≤ r.claim) && (decide (r.claim ≤ 1024) && (decide (r.adjs.length ≤ 16) && adjsOk r.origin 0 r.adjs)))) := by
  simp [recOk, mayS, Bool.and_assoc]
/-- What Check answers. -/
def ckN (r : Rc) : Int := if recOk r then 0 else 2
set_option maxRecDepth 100000 in
set_option maxHeartbeats 1000000 in
theorem rcheck_any {r : Rc} {va : Value} {w : World} (hv : SlAt ac 2 w va r.adjs) :
    Calls Try.prog 22 #[recV r va] w fun e w' => e = .returned (.int .i64 (ckN r)) ∧ Below w.heap.size w w' := by
  have HA := hidIn (fun w1 (hb : Below w.heap.size w w1) => radjs_any (r := r) (hv.keep hb (Nat.le_refl _)))
  obtain ⟨aa, acap, rfl, _⟩ := hv.ads
  clear hv
  have HS := hidIn (fun w1 => stamp_any r aa r.adjs.length acap w1)
  have HR := hidIn (recOk_may r)
  obtain ⟨b2, hb2⟩ : ∃ b2, (decide (r.adjs.length ≤ 16) && adjsOk r.origin 0 r.adjs) = b2 := ⟨_, rfl⟩
  rw [hb2] at HA HR
  have hb0 : Below w.heap.size w (w.alloc (recO r (.slice aa r.adjs.length acap))) := (Below.refl _ w).alloc (Nat.le_refl _) _
  have hB0 := heap_alloc_last w (recO r (.slice aa r.adjs.length acap))
  obtain ⟨W0, hW0⟩ : ∃ W0, w.alloc (recO r (.slice aa r.adjs.length acap)) = W0 := ⟨_, rfl⟩
  rw [hW0] at hb0 hB0
  obtain ⟨orig, epo, sq, cl, ig, as'⟩ := r
  simp only at HA HS HR hB0 hW0 ⊢
  obtain ⟨res, hres⟩ : ∃ res, ckN ⟨orig, epo, sq, cl, ig, as'⟩ = res := ⟨_, rfl⟩
  rw [hres]
  have Hres := hidIn hres
  have HW := hidIn hW0
  have HB0 := hidIn hB0
  clear hres hb2 hW0
  have c0 := cell_of_row _ _ 0 _ _ _ hB0
  have c1 := cell_of_row _ _ 1 _ _ _ hB0
  have c2 := cell_of_row _ _ 2 _ _ _ hB0
  have c3 := cell_of_row _ _ 3 _ _ _ hB0
  have c4 := cell_of_row _ _ 4 _ _ _ hB0
  have c5 := cell_of_row _ _ 5 _ _ _ hB0
  simp at c0 c1 c2 c3 c4 c5
  clear hB0
  go_enter Try.func22, Try.ntmps22
  go_upto_region 1 with fail
  rw [HW.out]
  clear HW
  go_wp2_with fail
  refine (HS.out _).mono ?_
  rintro e2 w2 ⟨rfl, hb2⟩
  have hB2 := (hb2.block _ (block_lt HB0.out)).trans HB0.out
  have b2' := hb0.trans (hb2.mono hb0.size)
  clear hb2 HS HB0 hb0 c0 c1 c2 c3 c4 c5
  go_wp2_with fail
  refine (mayS_any _ _ _ _).mono ?_
  rintro e3 w3 ⟨rfl, hb3⟩
  have hB3 := (hb3.block _ (block_lt hB2)).trans hB2
  have b3' := b2'.trans (hb3.mono b2'.size)
  have HA3 := hidIn (HA.out w3 b3')
  have HB3 := hidIn b3'
  clear hb3 hB2 b2' b3' HA
  have c0 := cell_of_row _ _ 0 _ _ _ hB3
  have c1 := cell_of_row _ _ 1 _ _ _ hB3
  have c2 := cell_of_row _ _ 2 _ _ _ hB3
  have c3 := cell_of_row _ _ 3 _ _ _ hB3
  have c4 := cell_of_row _ _ 4 _ _ _ hB3
  have c5 := cell_of_row _ _ 5 _ _ _ hB3
  simp at c0 c1 c2 c3 c4 c5
  clear hB3
  obtain ⟨b1, hb1⟩ : ∃ b1, mayS orig epo sq = b1 := ⟨_, rfl⟩
  rw [hb1] at HR ⊢
  clear hb1
  cases b1
  · go_wp2_with fail
    go_returns
    exact ⟨by rw [← Hres.out]; unfold ckN; rw [HR.out]; rfl, HB3.out⟩
  by_cases h3 : 0 ≤ cl
  · by_cases h4 : cl ≤ 1024
    · have h3' : ¬ cl < 0 := by omega
      have h4' : ¬ 1024 < cl := by omega
      go_wp2_with fail
      refine HA3.out.mono ?_
      rintro e4 w4 ⟨rfl, hb4⟩
      have HB4 := hidIn (HB3.out.trans (hb4.mono HB3.out.size))
      clear hb4 c0 c1 c2 c3 c4 c5 HA3
      cases b2
      · go_wp2_with fail
        go_returns
        exact ⟨by rw [← Hres.out]; unfold ckN; rw [HR.out]; simp, HB4.out⟩
      · go_wp2_with fail
        go_returns
        exact ⟨by rw [← Hres.out]; unfold ckN; rw [HR.out]; simp [h3, h4], HB4.out⟩
    · have h4' : 1024 < cl := by omega
      go_wp2_with fail
      go_returns
      exact ⟨by rw [← Hres.out]; unfold ckN; rw [HR.out]; simp; intro _ _; omega, HB3.out⟩
  · have h3' : cl < 0 := by omega
    go_wp2_with fail
    go_returns
    exact ⟨by rw [← Hres.out]; unfold ckN; rw [HR.out]; simp; intro _ _; omega, HB3.out⟩
end Go.Proofs.Yteaaoipipjkgnaa
