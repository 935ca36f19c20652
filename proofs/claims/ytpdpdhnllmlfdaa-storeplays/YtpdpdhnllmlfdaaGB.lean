/- Part. -/
import Derived.Test.YtpdpdhnllmlfdaaGA
namespace Go.Proofs.Ytpdpdhnllmlfdaa
open Go.RowKit

/-- What Part answers. -/
def PartAns (w : World) (ns : List Int) (es : List Ed) (n : Int) (e : Ending) (w' : World) : Prop :=
  ((graphOk ns es && hasN ns n) = true ∧ ∃ f u, IsPart es n f ∧ e = .returned (.tuple #[u, .int .i64 0]) ∧ w'.ownsRow w.heap.size 3 1 u (markedL f).length (fl ic (markedL f))) ∨
    ((graphOk ns es && hasN ns n) = false ∧ e = .returned (.tuple #[.slice none 0 0, .int .i64 2]))
set_option maxRecDepth 100000 in
set_option maxHeartbeats 1000000 in
theorem part_any {ns : List Int} {es : List Ed} {vn ve : Value} {w : World} (h : GrAt w vn ve ns es) (n : Int) :
    Calls Try.prog 41 #[grV vn ve, .int .i64 n] w fun e w' => PartAns w ns es n e w' ∧ Below w.heap.size w w' := by
  have HC := hidIn (fun w1 (hb : Below w.heap.size w w1) => check_any (h.keep hb (Nat.le_refl _)))
  have HI := hidIn (fun w1 (hb : Below w.heap.size w w1) => isNode_any (ve := ve) (h.n.keep hb (Nat.le_refl _)) n)
  have HE := hidIn h.e
  clear h
  have hb0 : Below w.heap.size w (w.alloc (.cells #[vn, ve] 49)) := (Below.refl _ w).alloc (Nat.le_refl _) _
  obtain ⟨b1, hb1⟩ : ∃ b1, graphOk ns es = b1 := ⟨_, rfl⟩
  have Hb1 := hidIn hb1
  rw [hb1] at HC
  clear hb1
  go_enter Try.func41, Try.ntmps41
  go_wp2_with fail
  refine (HC.out _ hb0).mono ?_
  rintro e w1 ⟨rfl, hb1⟩
  have hbw := hb0.trans (hb1.mono hb0.size)
  have hgB := (hb1.block w.heap.size (by simp)).trans (heap_alloc_last w (.cells #[vn, ve] 49))
  have g0 : w1.cell? ⟨w.heap.size, 0, none⟩ = some vn := cell_of_row _ _ 0 _ _ _ hgB
  have g1 : w1.cell? ⟨w.heap.size, 1, none⟩ = some ve := cell_of_row _ _ 1 _ _ _ hgB
  have hlt := block_lt hgB
  clear hb1 HC
  cases b1
  · simp only [Bool.false_eq_true, if_false]
    go_wp2_with fail
    go_ret2
    exact ⟨.inr ⟨by simp [Hb1.out], rfl⟩, hbw⟩
  · simp only [if_true]
    go_wp2_with fail
    refine (HI.out _ hbw).mono ?_
    rintro e w2 ⟨rfl, hb2⟩
    have hbw2 := hbw.trans (hb2.mono hbw.size)
    have hgB2 := (hb2.block w.heap.size hlt).trans hgB
    clear hb2 g0 g1 hgB hbw
    obtain ⟨b2, hb2⟩ : ∃ b2, hasN ns n = b2 := ⟨_, rfl⟩
    have Hb2 := hidIn hb2
    rw [hb2]
    clear hb2
    cases b2
    · go_wp2_with fail
      go_ret2
      exact ⟨.inr ⟨by simp [Hb2.out], rfl⟩, hbw2⟩
    · obtain ⟨hbd, hed, h384⟩ := graphOk_bd Hb1.out
      have hn := hasN_iff.1 Hb2.out
      obtain ⟨m, rfl⟩ : ∃ m : Nat, n = (m : Int) := ⟨n.toNat, by have := hbd n hn; omega⟩
      have hmb := hbd _ hn
      have hm : m < 25 := by omega
      have hmi : (m : Int) < 25 := by omega
      have hz := zeroM
      have HG2 := hidIn hgB2
      have HB2 := hidIn hbw2
      have HInv := hidIn (pInv_one hbd hed hn)
      have hlt2 := block_lt hgB2
      clear hgB2 hbw2 hlt
      have hA3 := arr_new w2 99 (mcl no1)
      have bA3 : Below w2.heap.size w2 (w2.alloc (.cells (mcl no1).toArray 99)) := (Below.refl _ w2).alloc (Nat.le_refl _) _
      have hs3 : (w2.alloc (.cells (mcl no1).toArray 99)).heap.size = w2.heap.size + 1 := by simp
      have HB3 := hidIn (HB2.out.trans (bA3.mono HB2.out.size))
      have HG3 := hidIn ((bA3.block _ hlt2).trans HG2.out)
      clear bA3
      go_upto_region 4 with fail
      generalize w2.alloc (.cells (mcl no1).toArray 99) = W3 at *
      have mc := hA3.cell m
      rw [mcl_get _ hm] at mc
      have mf := hA3.frozen m
      have hA4 : Arr (W3.setCell ⟨w2.heap.size, m, none⟩ (.bool true)) w2.heap.size 99 (mcl (mk1 no1 m)) := by rw [← mcl_set no1 hm]; exact hA3.set m _
      have hs4 : (W3.setCell ⟨w2.heap.size, m, none⟩ (.bool true)).heap.size = w2.heap.size + 1 := by simpa using hs3
      have hG4 : (W3.setCell ⟨w2.heap.size, m, none⟩ (.bool true)).heap[w.heap.size]? = some (.cells #[vn, ve] 49) := (Below.heap_setCell _ _ _ _ (by show w.heap.size ≠ w2.heap.size; omega)).trans HG3.out
      have hb4 : Below w.heap.size w (W3.setCell ⟨w2.heap.size, m, none⟩ (.bool true)) := HB3.out.setCell (p := ⟨w2.heap.size, m, none⟩) (show w.heap.size ≤ w2.heap.size by omega) _
      have Hs3 := hidIn hs3
      have Hs4 := hidIn hs4
      clear hs3 hs4 hA3
      go_upto_region 5 with fail
      generalize W3.setCell ⟨w2.heap.size, m, none⟩ (.bool true) = W4 at *
      clear mc mf HB3 HG3 HB2 HG2 Hs3
      generalize w2.heap.size = bm at *
      obtain ⟨W5, hW5⟩ : ∃ W5, ((W4.alloc (.cells #[.int .i64 (m : Int)] 3)).alloc (.cells #[.slice (some ⟨W4.heap.size, 0, none⟩) 1 1] 46)).alloc (.cells #[clo (W4.heap.size + 1) w.heap.size bm (W4.heap.size + 1 + 1)] 1) = W5 := ⟨_, rfl⟩
      have bA5 : Below W4.heap.size W4 W5 := by rw [← hW5]; go_grown
      have hX : Bxs w.heap.size (W4.heap.size + 1) w.heap.size bm (W4.heap.size + 1 + 1) := by
        rw [Hs4.out]
        exact ⟨by omega, by omega, by omega, by omega, by omega, by omega, by omega, by omega, by omega, by omega⟩
      have hM5 : PaM W5 w.heap.size (W4.heap.size + 1) w.heap.size bm (W4.heap.size + 1 + 1) (fun _ => False) vn ve (mk1 no1 m) [(m : Int)] W4.heap.size 0 1 := by
        have h1 : (W4.alloc (.cells #[.int .i64 (m : Int)] 3)).heap.size = W4.heap.size + 1 := by simp
        have h2 : ((W4.alloc (.cells #[.int .i64 (m : Int)] 3)).alloc (.cells #[.slice (some ⟨W4.heap.size, 0, none⟩) 1 1] 46)).heap.size = W4.heap.size + 1 + 1 := by simp
        have k1 := heap_alloc_last (W4.alloc (.cells #[.int .i64 (m : Int)] 3)) (.cells #[.slice (some ⟨W4.heap.size, 0, none⟩) 1 1] 46)
        have k2 := heap_alloc_last ((W4.alloc (.cells #[.int .i64 (m : Int)] 3)).alloc (.cells #[.slice (some ⟨W4.heap.size, 0, none⟩) 1 1] 46)) (.cells #[clo (W4.heap.size + 1) w.heap.size bm (W4.heap.size + 1 + 1)] 1)
        rw [h1] at k1
        rw [h2] at k2
        have hs := Hs4.out
        refine ⟨(bA5.block _ (by omega)).trans hG4, hA4.keep bA5 (by omega), by rw [← hW5]; exact k2, ?_, ⟨⟨#[.int .i64 (m : Int)], ?_, by simp, fun j z hz => ?_⟩, by simp, by omega, ?_⟩⟩
        · rw [← hW5, Below.heap_alloc _ _ _ (by rw [h2]; omega)]; exact k1
        · rw [← hW5, Below.heap_alloc _ _ _ (by rw [h2]; omega), Below.heap_alloc _ _ _ (by rw [h1]; omega)]; exact heap_alloc_last W4 _
        · have hj := (List.getElem?_eq_some_iff.1 hz).1
          simp at hj
          subst hj
          simp at hz
          subst hz
          rfl
        · rintro (e | e | e | e | e)
          · omega
          · omega
          · omega
          · omega
          · exact e
      have HW5 := hidIn hW5
      have HM5 := hidIn hM5
      have HB5 := hidIn (hb4.trans (bA5.mono hb4.size))
      have hum := unm_le (mk1 no1 m)
      have HG := hidIn (goOn_any (n := (m : Int)) hX HE.out hbd hed h384 100 (by omega) (mk1 no1 m) [(m : Int)] W4.heap.size 0 1 W5 (by simp; omega) (hb4.trans (bA5.mono hb4.size)) hM5 (by have := HInv.out; rwa [Int.toNat_natCast] at this))
      have fn0 : W5.cell? ⟨W4.heap.size + 1 + 1, 0, none⟩ = some (clo (W4.heap.size + 1) w.heap.size bm (W4.heap.size + 1 + 1)) := cell_of_row _ _ 0 _ _ _ hM5.fn
      clear hW5 hM5 bA5 hA4 hG4 hb4 hX
      go_upto_region 8 with fail
      rw [HW5.out]
      clear HW5
      go_wp2_with fail
      refine HG.out.mono ?_
      rintro e w6 ⟨⟨r, rfl⟩, ⟨f', g', off', cap', hM6, hI6⟩, hb6⟩
      have hm6 := hM6.m
      have HI6 := hidIn hI6
      have HB6 := hidIn hb6
      clear hM6 hI6 hb6 HG fn0 HM5 HB5
      go_wp2_with (refine l_loadM rfl _ rfl _ _ rfl hm6 ?_)
      refine (marked_any f' w6).mono ?_
      rintro e w7 ⟨⟨u, rfl, hu⟩, hb7⟩
      have HU := hidIn (row_low hu HB6.out.size)
      have HB7 := hidIn (HB6.out.trans (hb7.mono HB6.out.size))
      clear hu hb7 hm6
      go_wp2_with fail
      go_ret2
      exact ⟨.inl ⟨by simp [Hb1.out, Hb2.out], f', _, HI6.out.part hn hed, rfl, HU.out⟩, HB7.out⟩
end Go.Proofs.Ytpdpdhnllmlfdaa
