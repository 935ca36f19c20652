/- Both. -/
import Derived.Test.YtgeoghhajjlofaaGreatDoorG7
namespace Go.Proofs.YtgeoghhajjlofaaGreatDoor
open Go.RowKit

/-- Records handed in. -/
structure RecsAt (w : World) (v : Value) (l : List (Rc × Value)) : Prop where
  r : SlAt rcc 6 w v l
  a : ∀ x ∈ l, SlAt ac 2 w x.2 x.1.adjs
theorem RecsAt.keep {w w' : World} {v : Value} {l : List (Rc × Value)} {B : Nat} (h : RecsAt w v l) (hb : Below B w w') (hB : w.heap.size ≤ B) : RecsAt w' v l := ⟨h.r.keep hb hB, fun x hx => (h.a x hx).keep hb hB⟩
abbrev rcs (l : List (Rc × Value)) : List Rc := l.map (·.1)
theorem SlAt.recs {w : World} {v : Value} {l : List (Rc × Value)} (h : SlAt rcc 6 w v l) : ∃ a cap, v = .slice a l.length cap ∧ l.length ≤ 9223372036854775807 ∧ l.length ≤ cap ∧ (0 < l.length → ∃ bk o, a = some ⟨bk, o, none⟩ ∧ bk < w.heap.size ∧ ∀ j x, l[j]? = some x → w.cell? ⟨bk, o + j * 6, none⟩ = some (.int .i64 x.1.origin) ∧ w.cell? ⟨bk, o + j * 6 + 1, none⟩ = some (.int .u32 x.1.epoch) ∧ w.cell? ⟨bk, o + j * 6 + 2, none⟩ = some (.int .u32 x.1.seq) ∧ w.cell? ⟨bk, o + j * 6 + 3, none⟩ = some (.int .i64 x.1.claim) ∧ w.cell? ⟨bk, o + j * 6 + 4, none⟩ = some (.bool x.1.ing) ∧ w.cell? ⟨bk, o + j * 6 + 5, none⟩ = some x.2) := by
  obtain ⟨a, cap, rfl, h0, h1, h2⟩ := h
  refine ⟨a, cap, rfl, h0, h1, fun hp => ?_⟩
  obtain ⟨bk, o, rfl, h3, h4⟩ := h2 hp
  exact ⟨bk, o, rfl, h3, fun j z hz => ⟨h4 j z hz 0 _ rfl, h4 j z hz 1 _ rfl, h4 j z hz 2 _ rfl, h4 j z hz 3 _ rfl, h4 j z hz 4 _ rfl, h4 j z hz 5 _ rfl⟩⟩
abbrev nilG : Obj := .cells #[.slice none 0 0, .slice none 0 0] 53
/-- Both's blocks: the answer's, marks, costs. -/
structure BoM (w wr : World) (f : Nat → Bool) (c : Nat → Nat → Int) : Prop where
  g : wr.heap[w.heap.size]? = some nilG
  m : Arr wr (w.heap.size + 1) 85 (mcl f)
  k : Arr wr (w.heap.size + 2) 88 (ccl c)
  b : Below w.heap.size w wr
theorem BoM.keep {w wr w' : World} {f : Nat → Bool} {c : Nat → Nat → Int} {B : Nat} (h : BoM w wr f c) (hb : Below B wr w') (hB : wr.heap.size ≤ B) : BoM w w' f c := by
  have h1 := block_lt h.g
  have h2 := h.m.lt
  have h3 := h.k.lt
  exact ⟨(hb.block _ (by omega)).trans h.g, h.m.keep hb (by omega), h.k.keep hb (by omega), h.b.trans (hb.mono (by omega))⟩
theorem BoM.mark {w wr : World} {f : Nat → Bool} {c : Nat → Nat → Int} (h : BoM w wr f c) {n : Nat} (hn : n < 25) : BoM w (wr.setCell ⟨w.heap.size + 1, n, none⟩ (.bool true)) (mk1 f n) c :=
  ⟨(Below.heap_setCell _ _ _ _ (by show w.heap.size ≠ w.heap.size + 1; omega)).trans h.g, by rw [← mcl_set f hn]; exact h.m.set n _, h.k.other (by show w.heap.size + 2 ≠ w.heap.size + 1; omega) _, h.b.setCell (p := ⟨w.heap.size + 1, n, none⟩) (Nat.le_succ _) _⟩
theorem BoM.put {w wr : World} {f : Nat → Bool} {c : Nat → Nat → Int} (h : BoM w wr f c) {a b : Nat} (ha : a < 25) (hb : b < 25) (v : Int) : BoM w (wr.setCell ⟨w.heap.size + 2, a * 25 + b, none⟩ (.int .i64 v)) f (put2 c a b v) :=
  ⟨(Below.heap_setCell _ _ _ _ (by show w.heap.size ≠ w.heap.size + 2; omega)).trans h.g, h.m.other (by show w.heap.size + 1 ≠ w.heap.size + 2; omega) _, by rw [← ccl_set c ha hb v]; exact h.k.set _ _, h.b.setCell (p := ⟨w.heap.size + 2, a * 25 + b, none⟩) (by show w.heap.size ≤ w.heap.size + 2; omega) _⟩
theorem BoM.drew {w wr : World} {f : Nat → Bool} {c : Nat → Nat → Int} (h : BoM w wr f c) : BoM w wr.drew f c := ⟨h.g, h.m, h.k, ⟨h.b.os, h.b.tape, h.b.output, h.b.size, h.b.block⟩⟩
theorem putAdjs_snoc (c : Nat → Nat → Int) (o : Nat) (l : List (Int × Int)) (x : Int × Int) : putAdjs c o (l ++ [x]) = put2 (putAdjs c o l) o x.1.toNat x.2 := by simp [putAdjs, List.foldl_append]
theorem costL_snoc (c : Nat → Nat → Int) (rs : List Rc) (r : Rc) : costL c (rs ++ [r]) = putAdjs (costL c rs) r.origin.toNat r.adjs := by simp [costL, List.foldl_append]
theorem thereL_snoc (f : Nat → Bool) (rs : List Rc) (r : Rc) : thereL f (rs ++ [r]) = mk1 (thereL f rs) r.origin.toNat := by simp [thereL, List.foldl_append]
/-- What Both answers. -/
def BothAns (w : World) (l : List (Rc × Value)) (e : Ending) (w' : World) : Prop :=
  (bothOk no1 (rcs l) = true ∧ ∃ u v, e = .returned (.tuple #[grV u v, .int .i64 0]) ∧ w'.ownsRow w.heap.size 3 1 u (bothN (rcs l)).length (fl ic (bothN (rcs l))) ∧ w'.ownsRow w.heap.size 97 3 v (bothE (rcs l)).length (fl ec (bothE (rcs l)))) ∨
    (bothOk no1 (rcs l) = false ∧ e = .returned (.tuple #[grV (.slice none 0 0) (.slice none 0 0), .int .i64 2]))

set_option maxRecDepth 100000 in
set_option maxHeartbeats 2000000 in
theorem both_any {l : List (Rc × Value)} {v : Value} {w : World} (h : RecsAt w v l) :
    Calls Tryz.prog 14 #[v] w fun e w' => BothAns w l e w' ∧ Below w.heap.size w w' := by
  obtain ⟨a, cap, rfl, hl, _, hat⟩ := h.r.recs
  have Ha := hidIn hat
  have HA := hidIn h.a
  clear hat h
  have hz := zeroK
  have hzm := zeroM
  obtain ⟨W0, hW0⟩ : ∃ W0, ((w.alloc nilG).alloc (.cells (mcl no1).toArray 85)).alloc (.cells (ccl no2).toArray 88) = W0 := ⟨_, rfl⟩
  have HM0 : Hid (BoM w W0 no1 no2) := hidIn (by
    rw [← hW0]
    refine ⟨?_, ?_, ?_, by go_grown⟩
    · rw [Below.heap_alloc _ _ _ (by simp; omega), Below.heap_alloc _ _ _ (by simp)]
      exact heap_alloc_last w _
    · unfold Arr
      rw [Below.heap_alloc _ _ _ (by simp)]
      have := heap_alloc_last (w.alloc nilG) (.cells (mcl no1).toArray 85)
      rw [World.size_alloc] at this
      exact this
    · unfold Arr
      have := heap_alloc_last ((w.alloc nilG).alloc (.cells (mcl no1).toArray 85)) (.cells (ccl no2).toArray 88)
      rw [World.size_alloc, World.size_alloc] at this
      exact this)
  have HW := hidIn hW0
  clear hW0
  go_enter Tryz.func14, Tryz.ntmps14
  go_upto_region 3 with fail
  rw [HW.out]
  clear HW hz hzm
  go_wp2_with fail
  go_loopw [12] (fun i wr => ∃ (k : Nat), k ≤ l.length ∧ i = .int .i64 k ∧ Hid (BoM w wr (thereL no1 (rcs (l.take k))) (costL no2 (rcs (l.take k))) ∧ bothOk no1 (rcs l) = bothOk (thereL no1 (rcs (l.take k))) (rcs (l.drop k)))) (fun i _ => l.length - (intOf i).toNat)
  case atStart => exact ⟨0, Nat.zero_le _, rfl, hidIn ⟨HM0.out, by rw [List.drop_zero]; rfl⟩⟩
  case round =>
    obtain ⟨k, hk, rfl, HR⟩ := hrel
    clear HM0
    by_cases hlt : k < l.length
    · obtain ⟨bk, o, rfl, hbk, hcell⟩ := Ha.out (by omega)
      obtain ⟨⟨⟨orig, epo, sq, cl, ig, as'⟩, va⟩, hz⟩ : ∃ z, l[k]? = some z := ⟨l[k], List.getElem?_eq_getElem hlt⟩
      obtain ⟨hM, hrest⟩ := HR.out
      clear HR
      obtain ⟨q0, q1, q2, q3, q4, q5⟩ := hcell k _ hz
      have hbel := hM.b
      have hw3 := hM.k.lt
      have c0 := (hbel.cell (p := ⟨bk, o + k * 6, none⟩) hbk).trans q0
      have c1 := (hbel.cell (p := ⟨bk, o + k * 6 + 1, none⟩) hbk).trans q1
      have c2 := (hbel.cell (p := ⟨bk, o + k * 6 + 2, none⟩) hbk).trans q2
      have c3 := (hbel.cell (p := ⟨bk, o + k * 6 + 3, none⟩) hbk).trans q3
      have c4 := (hbel.cell (p := ⟨bk, o + k * 6 + 4, none⟩) hbk).trans q4
      have c5 := (hbel.cell (p := ⟨bk, o + k * 6 + 5, none⟩) hbk).trans q5
      simp only at c0 c1 c2 c3 c4 c5
      have hva := HA.out (⟨orig, epo, sq, cl, ig, as'⟩, va) (List.mem_of_getElem? hz)
      simp only at hva
      obtain ⟨aa, acap, rfl, hal, _, haat⟩ := hva.ads
      have HV := hidIn haat
      clear haat
      have HN : Hid (bothOk no1 (rcs l) = (recOk ⟨orig, epo, sq, cl, ig, as'⟩ && (!thereL no1 (rcs (l.take k)) orig.toNat && bothOk (mk1 (thereL no1 (rcs (l.take k))) orig.toNat) (rcs (l.drop (k + 1)))))) := hidIn (by
        rw [hrest, drop_next hz]
        show bothOk _ (⟨orig, epo, sq, cl, ig, as'⟩ :: rcs (l.drop (k + 1))) = _
        rw [bothOk])
      have HT : Hid (thereL no1 (rcs (l.take (k + 1))) = mk1 (thereL no1 (rcs (l.take k))) orig.toNat) := hidIn (by rw [take_snoc hz, rcs, List.map_append]; exact thereL_snoc _ _ _)
      have HK : Hid (costL no2 (rcs (l.take (k + 1))) = putAdjs (costL no2 (rcs (l.take k))) orig.toNat as') := hidIn (by rw [take_snoc hz, rcs, List.map_append]; exact costL_snoc _ _ _)
      generalize thereL no1 (rcs (l.take k)) = F at *
      generalize costL no2 (rcs (l.take k)) = C at *
      obtain ⟨W1, hW1⟩ : ∃ W1, wr.alloc (recO ⟨orig, epo, sq, cl, ig, as'⟩ (.slice aa as'.length acap)) = W1 := ⟨_, rfl⟩
      have hb1 : Below wr.heap.size wr W1 := by rw [← hW1]; exact (Below.refl _ wr).alloc (Nat.le_refl _) _
      have hbx : W1.heap[wr.heap.size]? = some (recO ⟨orig, epo, sq, cl, ig, as'⟩ (.slice aa as'.length acap)) := by rw [← hW1]; exact heap_alloc_last wr _
      have hM1 := hM.keep hb1 (Nat.le_refl _)
      have b0 := cell_of_row _ _ 0 _ _ _ hbx
      have b1 := cell_of_row _ _ 1 _ _ _ hbx
      have b2 := cell_of_row _ _ 2 _ _ _ hbx
      have b3 := cell_of_row _ _ 3 _ _ _ hbx
      have b4 := cell_of_row _ _ 4 _ _ _ hbx
      have b5 := cell_of_row _ _ 5 _ _ _ hbx
      simp at b0 b1 b2 b3 b4 b5
      have HW := hidIn hW1
      have HM1 := hidIn hM1
      have HBX := hidIn hbx
      have hki : (k : Int) < (l.length : Int) := by omega
      have HC := hidIn (record_any (r := ⟨orig, epo, sq, cl, ig, as'⟩) (hva.keep hM1.b (Nat.le_refl _)))
      have hltx := block_lt hbx
      clear hcell q0 q1 q2 q3 q4 q5 hz hrest hbel hM hva hb1 hW1 hM1 hbx
      go_upto_region 6 with fail
      rw [HW.out]
      clear HW c0 c1 c2 c3 c4 c5
      go_wp2_with fail
      refine HC.out.mono ?_
      rintro e' w2 ⟨rfl, hb2⟩
      have hM2 := HM1.out.keep hb2 (Nat.le_refl _)
      have hbx2 := (hb2.block _ hltx).trans HBX.out
      have hltx2 := block_lt hbx2
      clear b0 b1 b2 b3 b4 b5 HM1 HBX HC hb2 hltx
      obtain ⟨b1, hb1⟩ : ∃ b1, recOk ⟨orig, epo, sq, cl, ig, as'⟩ = b1 := ⟨_, rfl⟩
      have Hb1 := hidIn hb1
      rw [hb1]
      clear hb1
      have g0 := cell_of_row _ _ 0 _ _ _ hM2.g
      have g1 := cell_of_row _ _ 1 _ _ _ hM2.g
      have gf0 := frozen_new hM2.g 0
      have gf1 := frozen_new hM2.g 1
      simp at g0 g1
      have hbd := hM2.b
      have HM2 := hidIn hM2
      cases b1
      · clear hbx2 hM2
        have HB := hidIn hbd
        clear hbd
        go_wp2_with fail
        have e0 : ((w2.setCell ⟨w.heap.size, 0, none⟩ (.slice none 0 0)).setCell ⟨w.heap.size, 1, none⟩ (.slice none 0 0)).cell? ⟨w.heap.size, 0, none⟩ = some (.slice none 0 0) := by simp [go_sem, g0]
        have e1 : ((w2.setCell ⟨w.heap.size, 0, none⟩ (.slice none 0 0)).setCell ⟨w.heap.size, 1, none⟩ (.slice none 0 0)).cell? ⟨w.heap.size, 1, none⟩ = some (.slice none 0 0) := by simp [go_sem, g1]
        have HB3 : Hid (Below w.heap.size w ((w2.setCell ⟨w.heap.size, 0, none⟩ (.slice none 0 0)).setCell ⟨w.heap.size, 1, none⟩ (.slice none 0 0))) := hidIn ((HB.out.setCell (p := ⟨w.heap.size, 0, none⟩) (Nat.le_refl _) _).setCell (p := ⟨w.heap.size, 1, none⟩) (Nat.le_refl _) _)
        generalize (w2.setCell ⟨w.heap.size, 0, none⟩ (.slice none 0 0)).setCell ⟨w.heap.size, 1, none⟩ (.slice none 0 0) = V at *
        refine bodyPost_ret (v := .tuple #[grV (.slice none 0 0) (.slice none 0 0), .int .i64 2]) (by simp [results, Tryz.results14, asAddr, Result.andThen, go_sem, e0, e1]) rfl ⟨.inr ⟨?_, rfl⟩, HB3.out⟩
        rw [HN.out]; simp [Hb1.out]
      · have hp := recOk_parts Hb1.out
        simp only at hp
        obtain ⟨⟨ho1, ho2⟩, hlen16, hadj⟩ := hp
        obtain ⟨n, rfl⟩ : ∃ n : Nat, orig = (n : Int) := ⟨orig.toNat, by omega⟩
        have hn : n < 25 := by omega
        have hni : (n : Int) < 25 := by omega
        rw [Int.toNat_natCast] at HN HT HK
        have mc := hM2.m.cell n
        rw [mcl_get _ hn] at mc
        have mf := hM2.m.frozen n
        have x0 := cell_of_row _ _ 0 _ _ _ hbx2
        have x5 := cell_of_row _ _ 5 _ _ _ hbx2
        simp at x0 x5
        have HB := hidIn hbd
        have hkl := hM2.k.lt
        obtain ⟨b2, hb2⟩ : ∃ b2, F n = b2 := ⟨_, rfl⟩
        have Hb2 := hidIn hb2
        rw [hb2] at mc
        clear hb2 hbd
        cases b2
        · have hM3 := hM2.mark hn
          generalize wr.heap.size = br at *
          have y0 : (w2.setCell ⟨w.heap.size + 1, n, none⟩ (.bool true)).cell? ⟨br, 0, none⟩ = some (.int .i64 (n : Int)) := by rw [World.cell?_setCell_other _ _ _ _ (by intro h; have := congrArg Addr.block h; simp at this; omega)]; exact x0
          have y5 : (w2.setCell ⟨w.heap.size + 1, n, none⟩ (.bool true)).cell? ⟨br, 5, none⟩ = some (.slice aa as'.length acap) := by rw [World.cell?_setCell_other _ _ _ _ (by intro h; have := congrArg Addr.block h; simp at this; omega)]; exact x5
          have HM3 := hidIn hM3
          have hlt3 : br < (w2.setCell ⟨w.heap.size + 1, n, none⟩ (.bool true)).heap.size := by simpa using hltx2
          clear hM2 hbx2 hM3
          go_upto_region 9 with fail
          generalize w2.setCell ⟨w.heap.size + 1, n, none⟩ (.bool true) = W3 at *
          clear mc mf x0 x5 g0 g1 gf0 gf1 HB HM2
          go_wp2_with fail
          go_loopw [32] (fun i wz => ∃ (j : Nat), j ≤ as'.length ∧ i = .int .i64 j ∧ Hid (BoM w wz (mk1 F n) (putAdjs C n (as'.take j)) ∧ wz.cell? ⟨br, 0, none⟩ = some (.int .i64 (n : Int)) ∧ br < wz.heap.size)) (fun i _ => as'.length - (intOf i).toNat)
          case atStart => exact ⟨0, Nat.zero_le _, rfl, hidIn ⟨HM3.out, y0, hlt3⟩⟩
          case round =>
            obtain ⟨j, hj, rfl, HR⟩ := hrel
            obtain ⟨hMj, hz0, hzl⟩ := HR.out
            clear HR HM3 y0 y5 hlt3
            by_cases hltj : j < as'.length
            · obtain ⟨bk2, o2, rfl, hbk2, hcell2⟩ := HV.out (by omega)
              obtain ⟨⟨x, y⟩, hzj⟩ : ∃ z, as'[j]? = some z := ⟨as'[j], List.getElem?_eq_getElem hltj⟩
              obtain ⟨q0, q1⟩ := hcell2 j _ hzj
              have hxb := adjsOk_all _ _ _ hadj (x, y) (List.mem_of_getElem? hzj)
              simp only at hxb
              obtain ⟨t, rfl⟩ : ∃ t : Nat, x = (t : Int) := ⟨x.toNat, by omega⟩
              have ht : t < 25 := by omega
              have hti : (t : Int) < 25 := by omega
              have d0 := (hMj.b.cell (p := ⟨bk2, o2 + j * 2, none⟩) hbk2).trans q0
              have d1 := (hMj.b.cell (p := ⟨bk2, o2 + j * 2 + 1, none⟩) hbk2).trans q1
              simp only at d0 d1
              have HP : Hid (putAdjs C n (as'.take (j + 1)) = put2 (putAdjs C n (as'.take j)) n t y) := hidIn (by rw [take_snoc hzj, putAdjs_snoc]; simp)
              generalize putAdjs C n (as'.take j) = C2 at *
              have bA : Below wr.heap.size wr (wr.alloc (.cells #[.int .i64 (t : Int), .int .i64 y] 75)) := (Below.refl _ wr).alloc (Nat.le_refl _) _
              have hMA := hMj.keep bA (Nat.le_refl _)
              have kc := hMA.k.cell (n * 25 + t)
              rw [ccl_get _ (by omega)] at kc
              have kf := hMA.k.frozen (n * 25 + t)
              have hr0 := (bA.cell (p := ⟨br, 0, none⟩) hzl).trans hz0
              have hji : (j : Int) < (as'.length : Int) := by omega
              have HMA := hidIn hMA
              have hzl2 : br < (wr.alloc (.cells #[.int .i64 (t : Int), .int .i64 y] 75)).heap.size := by simp; omega
              have hA := heap_alloc_last wr (.cells #[.int .i64 (t : Int), .int .i64 y] 75)
              have a0 : (wr.alloc (.cells #[.int .i64 (t : Int), .int .i64 y] 75)).cell? ⟨wr.heap.size, 0, none⟩ = some (.int .i64 (t : Int)) := cell_of_row _ _ 0 _ _ _ hA
              have a1 : (wr.alloc (.cells #[.int .i64 (t : Int), .int .i64 y] 75)).cell? ⟨wr.heap.size, 1, none⟩ = some (.int .i64 y) := cell_of_row _ _ 1 _ _ _ hA
              clear hcell2 q0 q1 hzj hxb hMj bA hMA hA
              go_upto_region 12 with fail
              generalize wr.alloc (.cells #[.int .i64 (t : Int), .int .i64 y] 75) = W5 at *
              clear d0 d1
              go_region
              have HV5 : Hid (BoM w _ (mk1 F n) (put2 C2 n t y)) := hidIn (HMA.out.put hn ht y).drew
              have HC5 : Hid (World.cell? (World.drew (W5.setCell ⟨w.heap.size + 2, n * 25 + t, none⟩ (.int .i64 y))) ⟨br, 0, none⟩ = some (.int .i64 (n : Int))) := hidIn (by
                show (W5.setCell ⟨w.heap.size + 2, n * 25 + t, none⟩ (.int .i64 y)).cell? _ = _
                rw [World.cell?_setCell_other _ _ _ _ (by intro h; have := congrArg Addr.block h; simp at this; omega)]; exact hr0)
              have HL5 : Hid (br < (World.drew (W5.setCell ⟨w.heap.size + 2, n * 25 + t, none⟩ (.int .i64 y))).heap.size) := hidIn (by simpa using hzl2)
              clear kc kf hr0 a0 a1 hzl2 hz0 HMA
              generalize World.drew _ = V at HV5 HC5 HL5 ⊢
              go_wp2_with fail
              go_roundw
              case rel => exact ⟨j + 1, by omega, by go_num, hidIn ⟨by rw [HP.out]; exact HV5.out, HC5.out, HL5.out⟩⟩
              case measure => simp [intOf]; omega
            · have hje : j = as'.length := by omega
              rw [hje, List.take_length] at hMj
              have HMj := hidIn hMj
              have hji : ¬ ((j : Int) < (as'.length : Int)) := by omega
              clear hMj hz0 hzl
              go_wp2_with fail
              go_roundw
              case rel =>
                refine ⟨k + 1, by omega, by go_num, hidIn ⟨by rw [HT.out, HK.out]; exact HMj.out, ?_⟩⟩
                rw [HN.out, HT.out, Hb1.out, Hb2.out]
                simp
              case measure => simp [intOf]; omega
        · clear hM2 hbx2
          go_wp2_with fail
          have e0 : ((w2.setCell ⟨w.heap.size, 0, none⟩ (.slice none 0 0)).setCell ⟨w.heap.size, 1, none⟩ (.slice none 0 0)).cell? ⟨w.heap.size, 0, none⟩ = some (.slice none 0 0) := by simp [go_sem, g0]
          have e1 : ((w2.setCell ⟨w.heap.size, 0, none⟩ (.slice none 0 0)).setCell ⟨w.heap.size, 1, none⟩ (.slice none 0 0)).cell? ⟨w.heap.size, 1, none⟩ = some (.slice none 0 0) := by simp [go_sem, g1]
          have HB3 : Hid (Below w.heap.size w ((w2.setCell ⟨w.heap.size, 0, none⟩ (.slice none 0 0)).setCell ⟨w.heap.size, 1, none⟩ (.slice none 0 0))) := hidIn ((HB.out.setCell (p := ⟨w.heap.size, 0, none⟩) (Nat.le_refl _) _).setCell (p := ⟨w.heap.size, 1, none⟩) (Nat.le_refl _) _)
          generalize (w2.setCell ⟨w.heap.size, 0, none⟩ (.slice none 0 0)).setCell ⟨w.heap.size, 1, none⟩ (.slice none 0 0) = V at *
          refine bodyPost_ret (v := .tuple #[grV (.slice none 0 0) (.slice none 0 0), .int .i64 2]) (by simp [results, Tryz.results14, asAddr, Result.andThen, go_sem, e0, e1]) rfl ⟨.inr ⟨?_, rfl⟩, HB3.out⟩
          rw [HN.out]; simp [Hb2.out]
    · have hke : k = l.length := by omega
      obtain ⟨hM, hrest⟩ := HR.out
      rw [hke, List.take_length] at hM hrest
      rw [List.drop_length] at hrest
      have HOk : Hid (bothOk no1 (rcs l) = true) := hidIn (by rw [hrest]; rfl)
      have hki : ¬ ((k : Int) < (l.length : Int)) := by omega
      have hm := hM.m
      have hk2 := hM.k
      have HM := hidIn hM
      clear HR hM hrest
      go_wp2_with (first
        | (refine l_loadM rfl _ rfl _ _ rfl hm ?_)
        | (refine l_loadK rfl _ rfl _ _ rfl hk2 ?_))
      refine (laid_any _ _ _).mono ?_
      rintro e' w2 ⟨⟨u, v, rfl, hu, hv⟩, hb2⟩
      have hg2 := (hb2.block _ (block_lt HM.out.g)).trans HM.out.g
      obtain ⟨ua, ucap, rfl⟩ := row_shape hu
      obtain ⟨va, vcap, rfl⟩ := row_shape hv
      have g0 : w2.cell? ⟨w.heap.size, 0, none⟩ = some (.slice none 0 0) := cell_of_row _ _ 0 _ _ _ hg2
      have g1 : w2.cell? ⟨w.heap.size, 1, none⟩ = some (.slice none 0 0) := cell_of_row _ _ 1 _ _ _ hg2
      have gf0 := frozen_new hg2 0
      have gf1 := frozen_new hg2 1
      have hbt := block_lt HM.out.g
      have HU := hidIn hu
      have HV := hidIn hv
      have HB := hidIn (HM.out.b.trans (hb2.mono (Nat.le_of_lt hbt)))
      clear hm hk2 hg2 hu hv hb2
      obtain ⟨un, hun⟩ : ∃ un, (markedL (thereL no1 (rcs l))).length = un := ⟨_, rfl⟩
      obtain ⟨vn, hvn⟩ : ∃ vn, (laidE (costL no2 (rcs l))).length = vn := ⟨_, rfl⟩
      have HUn := hidIn hun
      have HVn := hidIn hvn
      rw [hun] at HU ⊢
      rw [hvn] at HV ⊢
      clear hun hvn
      go_wp2_with fail
      have e0 : ((w2.setCell ⟨w.heap.size, 0, none⟩ (.slice ua un ucap)).setCell ⟨w.heap.size, 1, none⟩ (.slice va vn vcap)).cell? ⟨w.heap.size, 0, none⟩ = some (.slice ua un ucap) := by simp [go_sem, g0]
      have e1 : ((w2.setCell ⟨w.heap.size, 0, none⟩ (.slice ua un ucap)).setCell ⟨w.heap.size, 1, none⟩ (.slice va vn vcap)).cell? ⟨w.heap.size, 1, none⟩ = some (.slice va vn vcap) := by simp [go_sem, g1]
      have HF : Hid (Fr (fun k => k = w.heap.size) w2 ((w2.setCell ⟨w.heap.size, 0, none⟩ (.slice ua un ucap)).setCell ⟨w.heap.size, 1, none⟩ (.slice va vn vcap))) := hidIn (((Fr.refl (fun k => k = w.heap.size) w2).set (p := ⟨w.heap.size, 0, none⟩) rfl _).set (p := ⟨w.heap.size, 1, none⟩) rfl _)
      generalize (w2.setCell ⟨w.heap.size, 0, none⟩ (.slice ua un ucap)).setCell ⟨w.heap.size, 1, none⟩ (.slice va vn vcap) = V at *
      refine bodyPost_ret (v := .tuple #[grV (.slice ua un ucap) (.slice va vn vcap), .int .i64 0]) (by simp [results, Tryz.results14, asAddr, Result.andThen, go_sem, e0, e1]) rfl ⟨.inl ⟨HOk.out, _, _, rfl, ?_, ?_⟩, ?_⟩
      · rw [show (bothN (rcs l)).length = un from HUn.out]
        exact row_low (row_fr HU.out HF.out (fun j hj e => by have := (HU.out.lt j hj).1; omega)) (Nat.le_of_lt hbt)
      · rw [show (bothE (rcs l)).length = vn from HVn.out]
        exact row_low (row_fr HV.out HF.out (fun j hj e => by have := (HV.out.lt j hj).1; omega)) (Nat.le_of_lt hbt)
      · exact HB.out.trans (HF.out.below HB.out.size (fun k hk => by omega))
end Go.Proofs.YtgeoghhajjlofaaGreatDoor
