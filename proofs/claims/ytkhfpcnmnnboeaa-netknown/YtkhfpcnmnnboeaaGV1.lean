/- Of. -/
import Derived.Test.YtkhfpcnmnnboeaaGV0
namespace Go.Proofs.Ytkhfpcnmnnboeaa
open Go.RowKit

/-- Of's blocks ahead of its costs: the answer's, marks. -/
structure OfM (w wr : World) (f : Nat → Bool) : Prop where
  g : wr.heap[w.heap.size]? = some nilG
  m : Arr wr (w.heap.size + 1) 118 (mcl f)
  s : wr.heap.size = w.heap.size + 2
  b : Below w.heap.size w wr
theorem OfM.mark {w wr : World} {f : Nat → Bool} (h : OfM w wr f) {n : Nat} (hn : n < 25) : OfM w (wr.setCell ⟨w.heap.size + 1, n, none⟩ (.bool true)) (mk1 f n) :=
  ⟨(Below.heap_setCell _ _ _ _ (by show w.heap.size ≠ w.heap.size + 1; omega)).trans h.g, by rw [← mcl_set f hn]; exact h.m.set n _, by simpa using h.s, h.b.setCell (p := ⟨w.heap.size + 1, n, none⟩) (Nat.le_succ _) _⟩
theorem OfM.costs {w wr : World} {f : Nat → Bool} (h : OfM w wr f) : BoM w (wr.alloc (.cells (ccl no2).toArray 120)) f no2 := by
  have h1 := h.s
  refine ⟨(Below.heap_alloc _ _ _ (by omega)).trans h.g, (Below.heap_alloc _ _ _ (by omega)).trans h.m, ?_, h.b.alloc h.b.size _⟩
  have := arr_new wr 120 (ccl no2)
  rw [h1] at this
  exact this
/-- What Of answers. -/
def OfAns (w : World) (ns : List Int) (ls : List Ed) (e : Ending) (w' : World) : Prop :=
  ∃ ua ucap va vcap, e = .returned (.tuple #[grV (.slice ua (ofN ns ls).length ucap) (.slice va (ofE ns ls).length vcap), .int .i64 (ofC ns ls)]) ∧
    w'.ownsRow w.heap.size 3 1 (.slice ua (ofN ns ls).length ucap) (ofN ns ls).length (fl ic (ofN ns ls)) ∧ w'.ownsRow w.heap.size 64 3 (.slice va (ofE ns ls).length vcap) (ofE ns ls).length (fl ec (ofE ns ls))
theorem ofAns_no {w w' : World} {ns : List Int} {ls : List Ed} {c : Int} (h : ofC ns ls = c) (h0 : c ≠ 0) : OfAns w ns ls (.returned (.tuple #[grV (.slice none 0 0) (.slice none 0 0), .int .i64 c])) w' := by
  unfold OfAns ofN ofE
  rw [h, if_neg h0, if_neg h0]
  exact ⟨none, 0, none, 0, rfl, World.ownsRow_nil _ _ _ _, World.ownsRow_nil _ _ _ _⟩
theorem put2_swap (c : Nat → Nat → Int) (p q : Nat) (v : Int) : put2 (put2 c q p v) p q v = put2 (put2 c p q v) q p v := by
  funext i j
  unfold put2
  by_cases h1 : i = p ∧ j = q <;> by_cases h2 : i = q ∧ j = p <;> simp [h1, h2]
theorem BoM.drewN {w wr : World} {f : Nat → Bool} {c : Nat → Nat → Int} (h : BoM w wr f c) (n : Nat) : BoM w (wr.drewN n) f c := ⟨h.g, h.m, h.k, ⟨h.b.os, h.b.tape, h.b.output, h.b.size, h.b.block⟩⟩
theorem rOk_drop {ns : List Int} {k : Nat} {z : Int} (h : ns[k]? = some z) (f : Nat → Bool) : rOk f (ns.drop k) = (isR z && (!f z.toNat && rOk (mk1 f z.toNat) (ns.drop (k + 1)))) := by
  rw [drop_next h, rOk]

set_option maxRecDepth 100000 in
set_option maxHeartbeats 4000000 in
theorem of_any {ns : List Int} {ls : List Ed} {v u : Value} {w : World} (hv : SlAt ic 1 w v ns) (hu : SlAt ec 3 w u ls) :
    Calls Try.prog 35 #[v, u] w fun e w' => OfAns w ns ls e w' ∧ Below w.heap.size w w' := by
  obtain ⟨a, cap, rfl, hl, hcap, hat⟩ := hv.ints
  obtain ⟨a2, cap2, rfl, hl2, hcap2, hat2⟩ := hu.eds
  have Ha := hidIn hat
  have Ha2 := hidIn hat2
  clear hat hat2 hv hu
  have hz := zeroK
  have hzm := zeroM
  obtain ⟨W0, hW0⟩ : ∃ W0, (w.alloc nilG).alloc (.cells (mcl no1).toArray 118) = W0 := ⟨_, rfl⟩
  have HM0 : Hid (OfM w W0 no1) := hidIn (by
    rw [← hW0]
    refine ⟨?_, ?_, by simp, by go_grown⟩
    · rw [Below.heap_alloc _ _ _ (by simp)]
      exact heap_alloc_last w _
    · have := arr_new (w.alloc nilG) 118 (mcl no1)
      rw [World.size_alloc] at this
      exact this)
  have HW := hidIn hW0
  clear hW0
  go_enter Try.func35, Try.ntmps35
  go_upto_region 2 with fail
  rw [HW.out]
  clear HW hzm
  go_wp2_with fail
  go_loopw [14] (fun i wr => ∃ (k : Nat), k ≤ ns.length ∧ i = .int .i64 k ∧ Hid (OfM w wr (rF no1 (ns.take k)) ∧ rOk no1 ns = rOk (rF no1 (ns.take k)) (ns.drop k))) (fun i _ => ns.length - (intOf i).toNat)
  case atStart => exact ⟨0, Nat.zero_le _, rfl, hidIn ⟨HM0.out, by rw [List.drop_zero]; rfl⟩⟩
  case round =>
    clear HM0
    obtain ⟨k, hk, rfl, HR⟩ := hrel
    obtain ⟨hM, hrest⟩ := HR.out
    clear HR
    by_cases hlt : k < ns.length
    · obtain ⟨bk, o, rfl, hbk, hcell⟩ := Ha.out (by omega)
      obtain ⟨z, hx⟩ : ∃ z, ns[k]? = some z := ⟨ns[k], List.getElem?_eq_getElem hlt⟩
      have c0 := (hM.b.cell (p := ⟨bk, o + k, none⟩) hbk).trans (hcell k z hx)
      have HN : Hid (rOk no1 ns = (isR z && (!rF no1 (ns.take k) z.toNat && rOk (mk1 (rF no1 (ns.take k)) z.toNat) (ns.drop (k + 1))))) := hidIn (by rw [hrest, rOk_drop hx])
      have HT : Hid (rF no1 (ns.take (k + 1)) = mk1 (rF no1 (ns.take k)) z.toNat) := hidIn (by rw [take_snoc hx, rF_snoc])
      generalize rF no1 (ns.take k) = F at *
      have hki : (k : Int) < (ns.length : Int) := by omega
      have g0 : wr.cell? ⟨w.heap.size, 0, none⟩ = some (.slice none 0 0) := cell_of_row _ _ 0 _ _ _ hM.g
      have g1 : wr.cell? ⟨w.heap.size, 1, none⟩ = some (.slice none 0 0) := cell_of_row _ _ 1 _ _ _ hM.g
      have gf0 := frozen_new hM.g 0
      have gf1 := frozen_new hM.g 1
      have hm := hM.m
      have HB := hidIn hM.b
      have HM := hidIn hM
      have hz' := hz
      clear hcell hx hrest hM
      go_wp2_with fail
      refine (isR_any z _).mono ?_
      rintro e' w2 ⟨rfl, hw2⟩
      rw [hw2]
      clear hw2 w2
      obtain ⟨b1, hb1⟩ : ∃ b1, isR z = b1 := ⟨_, rfl⟩
      have Hb1 := hidIn hb1
      rw [hb1]
      clear hb1
      cases b1
      · go_wp2_with fail
        have e0 : ((wr.setCell ⟨w.heap.size, 0, none⟩ (.slice none 0 0)).setCell ⟨w.heap.size, 1, none⟩ (.slice none 0 0)).cell? ⟨w.heap.size, 0, none⟩ = some (.slice none 0 0) := by simp [go_sem, g0]
        have e1 : ((wr.setCell ⟨w.heap.size, 0, none⟩ (.slice none 0 0)).setCell ⟨w.heap.size, 1, none⟩ (.slice none 0 0)).cell? ⟨w.heap.size, 1, none⟩ = some (.slice none 0 0) := by simp [go_sem, g1]
        have HB3 : Hid (Below w.heap.size w ((wr.setCell ⟨w.heap.size, 0, none⟩ (.slice none 0 0)).setCell ⟨w.heap.size, 1, none⟩ (.slice none 0 0))) := hidIn ((HB.out.setCell (p := ⟨w.heap.size, 0, none⟩) (Nat.le_refl _) _).setCell (p := ⟨w.heap.size, 1, none⟩) (Nat.le_refl _) _)
        generalize (wr.setCell ⟨w.heap.size, 0, none⟩ (.slice none 0 0)).setCell ⟨w.heap.size, 1, none⟩ (.slice none 0 0) = V at *
        exact bodyPost_ret (v := .tuple #[grV (.slice none 0 0) (.slice none 0 0), .int .i64 2]) (by simp [results, Try.results35, asAddr, Result.andThen, go_sem, e0, e1]) rfl ⟨ofAns_no (by unfold ofC; rw [HN.out, Hb1.out]; rfl) (by decide), HB3.out⟩
      obtain ⟨n, rfl⟩ : ∃ n : Nat, z = (n : Int) := ⟨z.toNat, by have := isR_iff.1 Hb1.out; omega⟩
      have hn : n < 25 := by have := isR_iff.1 Hb1.out; omega
      have hni : (n : Int) < 25 := by omega
      rw [Int.toNat_natCast] at HN HT
      have mc := hm.cell n
      rw [mcl_get _ hn] at mc
      have mf := hm.frozen n
      obtain ⟨b2, hb2⟩ : ∃ b2, F n = b2 := ⟨_, rfl⟩
      have Hb2 := hidIn hb2
      rw [hb2] at mc
      clear hb2 hm
      cases b2
      · have HM3 := hidIn (HM.out.mark hn)
        clear HM
        go_wp2_with fail
        go_roundw
        case rel => exact ⟨k + 1, by omega, by go_num, hidIn ⟨by rw [HT.out]; exact HM3.out, by rw [HN.out, HT.out, Hb1.out, Hb2.out]; simp⟩⟩
        case measure => simp [intOf]; omega
      · go_wp2_with fail
        have e0 : ((wr.setCell ⟨w.heap.size, 0, none⟩ (.slice none 0 0)).setCell ⟨w.heap.size, 1, none⟩ (.slice none 0 0)).cell? ⟨w.heap.size, 0, none⟩ = some (.slice none 0 0) := by simp [go_sem, g0]
        have e1 : ((wr.setCell ⟨w.heap.size, 0, none⟩ (.slice none 0 0)).setCell ⟨w.heap.size, 1, none⟩ (.slice none 0 0)).cell? ⟨w.heap.size, 1, none⟩ = some (.slice none 0 0) := by simp [go_sem, g1]
        have HB3 : Hid (Below w.heap.size w ((wr.setCell ⟨w.heap.size, 0, none⟩ (.slice none 0 0)).setCell ⟨w.heap.size, 1, none⟩ (.slice none 0 0))) := hidIn ((HB.out.setCell (p := ⟨w.heap.size, 0, none⟩) (Nat.le_refl _) _).setCell (p := ⟨w.heap.size, 1, none⟩) (Nat.le_refl _) _)
        generalize (wr.setCell ⟨w.heap.size, 0, none⟩ (.slice none 0 0)).setCell ⟨w.heap.size, 1, none⟩ (.slice none 0 0) = V at *
        exact bodyPost_ret (v := .tuple #[grV (.slice none 0 0) (.slice none 0 0), .int .i64 2]) (by simp [results, Try.results35, asAddr, Result.andThen, go_sem, e0, e1]) rfl ⟨ofAns_no (by unfold ofC; rw [HN.out, Hb1.out, Hb2.out]; rfl) (by decide), HB3.out⟩
    · have hki : ¬ ((k : Int) < (ns.length : Int)) := by omega
      rw [List.take_of_length_le (by omega)] at hM hrest
      rw [List.drop_eq_nil_of_le (by omega)] at hrest
      have HOk : Hid (rOk no1 ns = true) := hidIn (by rw [hrest]; rfl)
      clear hrest
      by_cases h48 : ls.length ≤ 48
      case neg =>
        have h48i : (48 : Int) < (ls.length : Int) := by omega
        have g0 : wr.cell? ⟨w.heap.size, 0, none⟩ = some (.slice none 0 0) := cell_of_row _ _ 0 _ _ _ hM.g
        have g1 : wr.cell? ⟨w.heap.size, 1, none⟩ = some (.slice none 0 0) := cell_of_row _ _ 1 _ _ _ hM.g
        have gf0 := frozen_new hM.g 0
        have gf1 := frozen_new hM.g 1
        have HB := hidIn hM.b
        have H48 := hidIn h48
        clear hM h48
        go_wp2_with fail
        have e0 : ((wr.setCell ⟨w.heap.size, 0, none⟩ (.slice none 0 0)).setCell ⟨w.heap.size, 1, none⟩ (.slice none 0 0)).cell? ⟨w.heap.size, 0, none⟩ = some (.slice none 0 0) := by simp [go_sem, g0]
        have e1 : ((wr.setCell ⟨w.heap.size, 0, none⟩ (.slice none 0 0)).setCell ⟨w.heap.size, 1, none⟩ (.slice none 0 0)).cell? ⟨w.heap.size, 1, none⟩ = some (.slice none 0 0) := by simp [go_sem, g1]
        have HB3 : Hid (Below w.heap.size w ((wr.setCell ⟨w.heap.size, 0, none⟩ (.slice none 0 0)).setCell ⟨w.heap.size, 1, none⟩ (.slice none 0 0))) := hidIn ((HB.out.setCell (p := ⟨w.heap.size, 0, none⟩) (Nat.le_refl _) _).setCell (p := ⟨w.heap.size, 1, none⟩) (Nat.le_refl _) _)
        generalize (wr.setCell ⟨w.heap.size, 0, none⟩ (.slice none 0 0)).setCell ⟨w.heap.size, 1, none⟩ (.slice none 0 0) = V at *
        exact bodyPost_ret (v := .tuple #[grV (.slice none 0 0) (.slice none 0 0), .int .i64 3]) (by simp [results, Try.results35, asAddr, Result.andThen, go_sem, e0, e1]) rfl ⟨ofAns_no (by unfold ofC; rw [HOk.out, if_pos rfl, if_neg H48.out]) (by decide), HB3.out⟩
      have h48i : (ls.length : Int) ≤ 48 := by omega
      obtain ⟨W3, hW3⟩ : ∃ W3, wr.alloc (.cells (ccl no2).toArray 120) = W3 := ⟨_, rfl⟩
      have HM3 : Hid (BoM w W3 (rF no1 ns) no2) := hidIn (by rw [← hW3]; exact hM.costs)
      have HC : Hid (ofC ns ls = lkC (rF no1 ns) no2 ls) := hidIn (by unfold ofC; rw [HOk.out, if_pos rfl, if_pos h48])
      have Hs := hidIn hM.s
      have hws := hM.s
      obtain ⟨F, hFd⟩ : ∃ F, F = rF no1 ns := ⟨_, rfl⟩
      rw [← hFd] at HM3 HC
      have HFd := hidIn hFd
      clear hFd
      have HW := hidIn hW3
      clear hW3 hM
      go_upto_region 12 with fail
      rw [HW.out]
      clear HW hz hws Hs
      clear hlt hki
      go_wp2_with fail
      go_loopw [36] (fun i wr => ∃ (k : Nat), k ≤ ls.length ∧ i = .int .i64 k ∧ Hid (BoM w wr F (lkF no2 (ls.take k)) ∧ ofC ns ls = lkC F (lkF no2 (ls.take k)) (ls.drop k))) (fun i _ => ls.length - (intOf i).toNat)
      case atStart => exact ⟨0, Nat.zero_le _, rfl, hidIn ⟨HM3.out, by rw [List.drop_zero]; exact HC.out⟩⟩
      case round =>
        clear HM3
        obtain ⟨i, hi, rfl, HR⟩ := hrel
        obtain ⟨hM, hrest⟩ := HR.out
        clear HR
        by_cases hlt : i < ls.length
        · obtain ⟨bk, o, rfl, hbk, hcell⟩ := Ha2.out (by omega)
          obtain ⟨⟨x, y, cc⟩, hx⟩ : ∃ z, ls[i]? = some z := ⟨ls[i], List.getElem?_eq_getElem hlt⟩
          obtain ⟨q0, q1, q2⟩ := hcell i _ hx
          have c0 := (hM.b.cell (p := ⟨bk, o + i * 3, none⟩) hbk).trans q0
          have c1 := (hM.b.cell (p := ⟨bk, o + i * 3 + 1, none⟩) hbk).trans q1
          have c2 := (hM.b.cell (p := ⟨bk, o + i * 3 + 2, none⟩) hbk).trans q2
          simp only at c0 c1 c2
          have HN : Hid (ofC ns ls = lkC F (lkF no2 (ls.take i)) ((x, y, cc) :: ls.drop (i + 1))) := hidIn (by rw [hrest, drop_next hx])
          have HT : Hid (lkF no2 (ls.take (i + 1)) = put4 (lkF no2 (ls.take i)) (x, y, cc)) := hidIn (by rw [take_snoc hx, lkF_snoc])
          generalize lkF no2 (ls.take i) = C at *
          have hii : (i : Int) < (ls.length : Int) := by omega
          obtain ⟨W1, hW1⟩ : ∃ W1, wr.alloc (.cells #[.int .i64 x, .int .i64 y, .int .i64 cc] 52) = W1 := ⟨_, rfl⟩
          have bA : Below wr.heap.size wr W1 := by rw [← hW1]; exact (Below.refl _ wr).alloc (Nat.le_refl _) _
          have hXB : W1.heap[wr.heap.size]? = some (.cells #[.int .i64 x, .int .i64 y, .int .i64 cc] 52) := by rw [← hW1]; exact heap_alloc_last wr _
          have l0 := cell_of_row _ _ 0 _ _ _ hXB
          have l1 := cell_of_row _ _ 1 _ _ _ hXB
          have l2 := cell_of_row _ _ 2 _ _ _ hXB
          simp at l0 l1 l2
          have hltx := block_lt hXB
          have hM1 := hM.keep bA (Nat.le_refl _)
          have hm1 := hM1.m
          have HXB := hidIn hXB
          have HM1 := hidIn hM1
          have hkx : w.heap.size + 2 < wr.heap.size := hM.k.lt
          have HW := hidIn hW1
          clear hcell hx hrest q0 q1 q2 hM bA hXB hW1 hM1
          go_upto_region 15 with fail
          rw [HW.out]
          clear HW c0 c1 c2
          generalize wr.heap.size = bx at *
          go_wp2_with (refine l_loadM rfl _ rfl _ _ rfl hm1 ?_)
          refine (link_any F x y cc _).mono ?_
          rintro e' w2 ⟨rfl, hb2⟩
          have hM2 := HM1.out.keep hb2 (Nat.le_refl _)
          have hX2 := (hb2.block _ hltx).trans HXB.out
          clear hb2 l0 l1 l2 hm1 HM1 HXB hltx
          obtain ⟨b1, hb1⟩ : ∃ b1, lkOk F (x, y, cc) = b1 := ⟨_, rfl⟩
          have Hb1 := hidIn hb1
          rw [hb1]
          clear hb1
          cases b1
          · have g0 : w2.cell? ⟨w.heap.size, 0, none⟩ = some (.slice none 0 0) := cell_of_row _ _ 0 _ _ _ hM2.g
            have g1 : w2.cell? ⟨w.heap.size, 1, none⟩ = some (.slice none 0 0) := cell_of_row _ _ 1 _ _ _ hM2.g
            have gf0 := frozen_new hM2.g 0
            have gf1 := frozen_new hM2.g 1
            have HB := hidIn hM2.b
            clear hM2 hX2
            go_wp2_with fail
            have e0 : ((w2.setCell ⟨w.heap.size, 0, none⟩ (.slice none 0 0)).setCell ⟨w.heap.size, 1, none⟩ (.slice none 0 0)).cell? ⟨w.heap.size, 0, none⟩ = some (.slice none 0 0) := by simp [go_sem, g0]
            have e1 : ((w2.setCell ⟨w.heap.size, 0, none⟩ (.slice none 0 0)).setCell ⟨w.heap.size, 1, none⟩ (.slice none 0 0)).cell? ⟨w.heap.size, 1, none⟩ = some (.slice none 0 0) := by simp [go_sem, g1]
            have HB3 : Hid (Below w.heap.size w ((w2.setCell ⟨w.heap.size, 0, none⟩ (.slice none 0 0)).setCell ⟨w.heap.size, 1, none⟩ (.slice none 0 0))) := hidIn ((HB.out.setCell (p := ⟨w.heap.size, 0, none⟩) (Nat.le_refl _) _).setCell (p := ⟨w.heap.size, 1, none⟩) (Nat.le_refl _) _)
            generalize (w2.setCell ⟨w.heap.size, 0, none⟩ (.slice none 0 0)).setCell ⟨w.heap.size, 1, none⟩ (.slice none 0 0) = V at *
            exact bodyPost_ret (v := .tuple #[grV (.slice none 0 0) (.slice none 0 0), .int .i64 2]) (by simp [results, Try.results35, asAddr, Result.andThen, go_sem, e0, e1]) rfl ⟨ofAns_no (by rw [HN.out, lkC_bad Hb1.out]) (by decide), HB3.out⟩
          obtain ⟨⟨hx1, hx2⟩, ⟨hy1, hy2⟩, _⟩ := lkOk_parts Hb1.out
          simp only at hx1 hx2 hy1 hy2
          obtain ⟨p, rfl⟩ : ∃ p : Nat, x = (p : Int) := ⟨x.toNat, by omega⟩
          obtain ⟨q, rfl⟩ : ∃ q : Nat, y = (q : Int) := ⟨y.toNat, by omega⟩
          have hp : p < 25 := by omega
          have hq : q < 25 := by omega
          have hpi : (p : Int) < 25 := by omega
          have hqi : (q : Int) < 25 := by omega
          have kc := hM2.k.cell (p * 25 + q)
          rw [ccl_get _ (by omega), show (p * 25 + q) / 25 = p from by omega, show (p * 25 + q) % 25 = q from by omega] at kc
          have x0 := cell_of_row _ _ 0 _ _ _ hX2
          have x1 := cell_of_row _ _ 1 _ _ _ hX2
          simp at x0 x1
          have HX2 := hidIn hX2
          have HM2 := hidIn hM2
          obtain ⟨cv, hcv⟩ : ∃ cv, C p q = cv := ⟨_, rfl⟩
          rw [hcv] at kc
          have Hcv := hidIn hcv
          clear hcv hM2 hX2 hx1 hx2 hy1 hy2
          by_cases hc0 : cv = 0
          · subst hc0
            go_upto_region 17 with fail
            go_quiet (fail)
            clear kc x0 x1
            generalize hV : World.drewN w2 _ = V
            have hM3 : BoM w V F C := by rw [← hV]; exact HM2.out.drewN _
            have hX3 : V.heap[bx]? = some (.cells #[.int .i64 (p : Int), .int .i64 (q : Int), .int .i64 cc] 52) := by rw [← hV]; exact HX2.out
            have x0 := cell_of_row _ _ 0 _ _ _ hX3
            have x1 := cell_of_row _ _ 1 _ _ _ hX3
            have x2 := cell_of_row _ _ 2 _ _ _ hX3
            simp at x0 x1 x2
            have k0 := hM3.k.cell (p * 25 + q)
            have k1 := hM3.k.cell (q * 25 + p)
            rw [ccl_get _ (by omega)] at k0 k1
            have kf0 := hM3.k.frozen (p * 25 + q)
            have kf1 := hM3.k.frozen (q * 25 + p)
            have HM3 := hidIn hM3
            have HP : Hid (lkF no2 (ls.take (i + 1)) = put2 (put2 C p q cc) q p cc) := hidIn (by rw [HT.out]; simp [put4])
            have HX3 := hidIn hX3
            clear hV hM3 hX3 HX2 HM2
            go_upto_region 19 with fail
            have hSV : V.drew.heap[bx]? = some (.cells #[.int .i64 (p : Int), .int .i64 (q : Int), .int .i64 cc] 52) := HX3.out
            refine wp_region_held_drew (S := fun wx => wx.heap[bx]? = some (.cells #[.int .i64 (p : Int), .int .i64 (q : Int), .int .i64 cc] 52)) (by kernel_rfl) hSV (fun hHeld => ?_)
            clear x0 x1 x2
            refine wpAnyH_take (i := 0) (v := ?_) rfl (by kernel_rfl) (by kernel_rfl) (by kernel_rfl) (fun _ _ _ h => h) (Or.inl ⟨by rfl, ?_⟩) (by assumption) ?_
            rotate_left
            · intro wq hSw
              clear hSw
              go_simp
              try (with_reducible rfl)
            refine wpAnyH_take (i := 1) (v := ?_) rfl (by kernel_rfl) (by kernel_rfl) (by kernel_rfl) (fun _ _ _ h => h) (Or.inl ⟨by rfl, ?_⟩) (by assumption) ?_
            rotate_left
            · intro wq hSw
              have z0 := cell_of_row _ _ 0 _ _ _ hSw
              have z1 := cell_of_row _ _ 1 _ _ _ hSw
              have z2 := cell_of_row _ _ 2 _ _ _ hSw
              simp at z0 z1 z2
              clear hSw
              go_simp
              try (with_reducible rfl)
            refine wpAnyH_take (i := 2) (v := ?_) rfl (by kernel_rfl) (by kernel_rfl) (by kernel_rfl) (fun _ _ _ h => h) (Or.inl ⟨by rfl, ?_⟩) (by assumption) ?_
            rotate_left
            · intro wq hSw
              clear hSw
              go_simp
              try (with_reducible rfl)
            refine wpAnyH_take (i := 3) (v := ?_) rfl (by kernel_rfl) (by kernel_rfl) (by kernel_rfl) (fun _ _ _ h => h) (Or.inl ⟨by rfl, ?_⟩) (by assumption) ?_
            rotate_left
            · intro wq hSw
              have z0 := cell_of_row _ _ 0 _ _ _ hSw
              have z1 := cell_of_row _ _ 1 _ _ _ hSw
              have z2 := cell_of_row _ _ 2 _ _ _ hSw
              simp at z0 z1 z2
              clear hSw
              go_simp
              try (with_reducible rfl)
            refine wpAnyH_take (i := 4) (v := ?_) rfl (by kernel_rfl) (by kernel_rfl) (by kernel_rfl) (fun _ _ _ h => h) (Or.inl ⟨by rfl, ?_⟩) (by assumption) ?_
            rotate_left
            · intro wq hSw
              clear hSw
              go_simp
              try (with_reducible rfl)
            refine wpAnyH_take (i := 5) (v := ?_) rfl (by kernel_rfl) (by kernel_rfl) (by kernel_rfl) (fun _ _ _ h => h) (Or.inl ⟨by rfl, ?_⟩) (by assumption) ?_
            rotate_left
            · intro wq hSw
              have z0 := cell_of_row _ _ 0 _ _ _ hSw
              have z1 := cell_of_row _ _ 1 _ _ _ hSw
              have z2 := cell_of_row _ _ 2 _ _ _ hSw
              simp at z0 z1 z2
              clear hSw
              go_simp
              try (with_reducible rfl)
            refine wpAnyH_take (i := 6) (v := ?_) rfl (by kernel_rfl) (by kernel_rfl) (by kernel_rfl) (fun _ _ _ h => h) (Or.inl ⟨by rfl, ?_⟩) (by assumption) ?_
            rotate_left
            · intro wq hSw
              clear hSw
              go_simp
              try (with_reducible rfl)
            refine wpAnyH_take (i := 7) (v := ?_) rfl (by kernel_rfl) (by kernel_rfl) (by kernel_rfl) (fun _ _ _ h => h) (Or.inl ⟨by rfl, ?_⟩) (by assumption) ?_
            rotate_left
            · intro wq hSw
              have z0 := cell_of_row _ _ 0 _ _ _ hSw
              have z1 := cell_of_row _ _ 1 _ _ _ hSw
              have z2 := cell_of_row _ _ 2 _ _ _ hSw
              simp at z0 z1 z2
              clear hSw
              go_simp
              try (with_reducible rfl)
            refine wpAnyH_take (i := 8) (v := ?_) rfl (by kernel_rfl) (by kernel_rfl) (by kernel_rfl) (fun _ _ _ h => h) (Or.inl ⟨by rfl, ?_⟩) (by assumption) ?_
            rotate_left
            · intro wq hSw
              clear hSw
              go_simp
              try (with_reducible rfl)
            refine wpAnyH_take (i := 9) (v := ?_) rfl (by kernel_rfl) (by kernel_rfl) (by kernel_rfl) (fun _ _ _ h => h) (Or.inl ⟨by rfl, ?_⟩) (by assumption) ?_
            rotate_left
            · intro wq hSw
              have z0 := cell_of_row _ _ 0 _ _ _ hSw
              have z1 := cell_of_row _ _ 1 _ _ _ hSw
              have z2 := cell_of_row _ _ 2 _ _ _ hSw
              simp at z0 z1 z2
              clear hSw
              go_simp
              try (with_reducible rfl)
            refine wpAnyH_take (i := 10) (v := ?_) rfl (by kernel_rfl) (by kernel_rfl) (by kernel_rfl) (fun _ _ _ h => h) (Or.inl ⟨by rfl, ?_⟩) (by assumption) ?_
            rotate_left
            · intro wq hSw
              clear hSw
              go_simp
              try (with_reducible rfl)
            refine wpAnyH_take (i := 11) (v := ?_) rfl (by kernel_rfl) (by kernel_rfl) (by kernel_rfl) (fun _ _ _ h => h) (Or.inl ⟨by rfl, ?_⟩) (by assumption) ?_
            rotate_left
            · intro wq hSw
              have z0 := cell_of_row _ _ 0 _ _ _ hSw
              have z1 := cell_of_row _ _ 1 _ _ _ hSw
              have z2 := cell_of_row _ _ 2 _ _ _ hSw
              simp at z0 z1 z2
              clear hSw
              go_simp
              try (with_reducible rfl)
            refine wpAnyH_take (i := 12) (v := ?_) rfl (by kernel_rfl) (by kernel_rfl) (by kernel_rfl) (fun _ _ _ h => h) (Or.inl ⟨by rfl, ?_⟩) (by assumption) ?_
            rotate_left
            · intro wq hSw
              clear hSw
              go_simp
              try (with_reducible rfl)
            refine wpAnyH_take (i := 13) (v := ?_) rfl (by kernel_rfl) (by kernel_rfl) (by kernel_rfl) (fun _ _ _ h => h) (Or.inl ⟨by rfl, ?_⟩) (by assumption) ?_
            rotate_left
            · intro wq hSw
              clear hSw
              go_simp
              try (with_reducible rfl)
            refine wpAnyH_take (i := 15) (v := ?_) rfl (by kernel_rfl) (by kernel_rfl) (by kernel_rfl) (fun _ _ _ h => h) (Or.inl ⟨by rfl, ?_⟩) (by assumption) ?_
            rotate_left
            · intro wq hSw
              clear hSw
              go_simp
              try (with_reducible rfl)
            refine wpAnyH_ready (rs := [14]) (by kernel_rfl) (by simp) ?_
            refine AllReadyH.cons rfl (fun K hK => ?_) AllReadyH.nil
            go_simp
            obtain ⟨V4, hV4⟩ : ∃ V4, (V.setCell ⟨w.heap.size + 2, p * 25 + q, none⟩ (.int .i64 cc)).drew = V4 := ⟨_, rfl⟩
            have hS4 : V4.heap[bx]? = some (.cells #[.int .i64 (p : Int), .int .i64 (q : Int), .int .i64 cc] 52) := by rw [← hV4]; exact (Below.heap_setCell _ _ _ _ (by show bx ≠ w.heap.size + 2; omega)).trans HX3.out
            have hM4 : BoM w V4 F (put2 C p q cc) := by rw [← hV4]; exact (HM3.out.put hp hq cc).drew
            rw [hV4]
            refine hK.out _ _ hS4 (fun _ => ?_)
            clear hK K hV4 k0 k1 kf0 kf1
            have k1 := hM4.k.cell (q * 25 + p)
            rw [ccl_get _ (by omega)] at k1
            have kf1 := hM4.k.frozen (q * 25 + p)
            refine wpAnyH_take (i := 16) (v := ?_) rfl (by kernel_rfl) (by kernel_rfl) (by kernel_rfl) (fun _ _ _ h => h) (Or.inl ⟨by rfl, ?_⟩) (by assumption) ?_
            rotate_left
            · intro wq hSw
              clear hSw
              go_simp
              try (with_reducible rfl)
            refine wpAnyH_ready (rs := [17]) (by kernel_rfl) (by simp) ?_
            refine AllReadyH.cons rfl (fun K hK => ?_) AllReadyH.nil
            go_simp
            obtain ⟨V5, hV5⟩ : ∃ V5, V4.setCell ⟨w.heap.size + 2, q * 25 + p, none⟩ (.int .i64 cc) = V5 := ⟨_, rfl⟩
            have hS5 : V5.heap[bx]? = some (.cells #[.int .i64 (p : Int), .int .i64 (q : Int), .int .i64 cc] 52) := by rw [← hV5]; exact (Below.heap_setCell _ _ _ _ (by show bx ≠ w.heap.size + 2; omega)).trans hS4
            have HV5 : Hid (BoM w V5 F (put2 (put2 C p q cc) q p cc)) := hidIn (by rw [← hV5]; exact hM4.put hq hp cc)
            rw [hV5]
            refine hK.out _ _ hS5 (fun _ => ?_)
            clear hK K hV5 k1 kf1 hM4 hS4 hS5 hHeld HM3
            refine wpAnyH_done (by kernel_rfl) ?_ _
            go_wp2_with fail
            go_roundw
            case rel => exact ⟨i + 1, by omega, by go_num, hidIn ⟨by rw [HP.out]; exact HV5.out, by rw [HN.out, lkC_on Hb1.out (by simpa using Hcv.out), HT.out]⟩⟩
            case measure => simp [intOf]; omega
          · have hcb : (cv == 0) = false := by simpa using hc0
            have Hc0 := hidIn hc0
            clear hc0
            go_upto_region 17 with fail
            go_quiet (fail)
            clear kc x0 x1
            generalize hV : World.drewN w2 _ = V0
            have hM3 : BoM w V0 F C := by rw [← hV]; exact HM2.out.drewN _
            have g0 : V0.cell? ⟨w.heap.size, 0, none⟩ = some (.slice none 0 0) := cell_of_row _ _ 0 _ _ _ hM3.g
            have g1 : V0.cell? ⟨w.heap.size, 1, none⟩ = some (.slice none 0 0) := cell_of_row _ _ 1 _ _ _ hM3.g
            have gf0 := frozen_new hM3.g 0
            have gf1 := frozen_new hM3.g 1
            have HB := hidIn hM3.b
            clear hM3 hV HX2 HM2
            go_wp2_with fail
            have e0 : ((V0.setCell ⟨w.heap.size, 0, none⟩ (.slice none 0 0)).setCell ⟨w.heap.size, 1, none⟩ (.slice none 0 0)).cell? ⟨w.heap.size, 0, none⟩ = some (.slice none 0 0) := by simp [go_sem, g0]
            have e1 : ((V0.setCell ⟨w.heap.size, 0, none⟩ (.slice none 0 0)).setCell ⟨w.heap.size, 1, none⟩ (.slice none 0 0)).cell? ⟨w.heap.size, 1, none⟩ = some (.slice none 0 0) := by simp [go_sem, g1]
            have HB3 : Hid (Below w.heap.size w ((V0.setCell ⟨w.heap.size, 0, none⟩ (.slice none 0 0)).setCell ⟨w.heap.size, 1, none⟩ (.slice none 0 0))) := hidIn ((HB.out.setCell (p := ⟨w.heap.size, 0, none⟩) (Nat.le_refl _) _).setCell (p := ⟨w.heap.size, 1, none⟩) (Nat.le_refl _) _)
            generalize (V0.setCell ⟨w.heap.size, 0, none⟩ (.slice none 0 0)).setCell ⟨w.heap.size, 1, none⟩ (.slice none 0 0) = V at *
            exact bodyPost_ret (v := .tuple #[grV (.slice none 0 0) (.slice none 0 0), .int .i64 7]) (by simp [results, Try.results35, asAddr, Result.andThen, go_sem, e0, e1]) rfl ⟨ofAns_no (by rw [HN.out, lkC_busy Hb1.out (by rw [show C ((p : Int), (q : Int), cc).1.toNat ((p : Int), (q : Int), cc).2.1.toNat = cv from by simpa using Hcv.out]; exact Hc0.out)]) (by decide), HB3.out⟩
        · have hii : ¬ ((i : Int) < (ls.length : Int)) := by omega
          rw [List.take_of_length_le (by omega)] at hM hrest
          rw [List.drop_eq_nil_of_le (by omega)] at hrest
          have HO : Hid (ofC ns ls = 0) := hidIn (by rw [hrest]; rfl)
          have HF0 : Hid (F = rF no1 ns) := HFd
          have hm := hM.m
          have hk2 := hM.k
          have HM := hidIn hM
          clear hM hrest
          go_wp2_with (first
            | (refine l_loadM rfl _ rfl _ _ rfl hm ?_)
            | (refine l_loadK rfl _ rfl _ _ rfl hk2 ?_))
          refine (laid_any _ _ _).mono ?_
          rintro e' w2 ⟨⟨u, v, rfl, hu, hv⟩, hb2⟩
          have hg2 := (hb2.block _ (block_lt HM.out.g)).trans HM.out.g
          obtain ⟨ua, ucap, rfl⟩ := row_shape hu
          obtain ⟨va, vcap, rfl⟩ := row_shape hv
          have g0 : w2.cell? ⟨w.heap.size, 0, none⟩ = some (.slice none 0 0) := cell_of_row _ _ 0 _ _ _ hg2
          have g1 : w2.cell? ⟨w.heap.size, 1, none⟩ = some (.slice none 0 0) := cell_of_row _ _ 1 _ _ _ hg2
          have gf0 := frozen_new hg2 0
          have gf1 := frozen_new hg2 1
          have hbt := block_lt HM.out.g
          have HU := hidIn hu
          have HV := hidIn hv
          have HB := hidIn (HM.out.b.trans (hb2.mono (Nat.le_of_lt hbt)))
          clear hm hk2 hg2 hu hv hb2
          obtain ⟨un, hun⟩ : ∃ un, (markedL F).length = un := ⟨_, rfl⟩
          obtain ⟨vn, hvn⟩ : ∃ vn, (laidE (lkF no2 ls)).length = vn := ⟨_, rfl⟩
          have HUn := hidIn hun
          have HVn := hidIn hvn
          rw [hun] at HU ⊢
          rw [hvn] at HV ⊢
          clear hun hvn
          go_wp2_with fail
          have e0 : ((w2.setCell ⟨w.heap.size, 0, none⟩ (.slice ua un ucap)).setCell ⟨w.heap.size, 1, none⟩ (.slice va vn vcap)).cell? ⟨w.heap.size, 0, none⟩ = some (.slice ua un ucap) := by simp [go_sem, g0]
          have e1 : ((w2.setCell ⟨w.heap.size, 0, none⟩ (.slice ua un ucap)).setCell ⟨w.heap.size, 1, none⟩ (.slice va vn vcap)).cell? ⟨w.heap.size, 1, none⟩ = some (.slice va vn vcap) := by simp [go_sem, g1]
          have HF : Hid (Fr (fun k => k = w.heap.size) w2 ((w2.setCell ⟨w.heap.size, 0, none⟩ (.slice ua un ucap)).setCell ⟨w.heap.size, 1, none⟩ (.slice va vn vcap))) := hidIn (((Fr.refl (fun k => k = w.heap.size) w2).set (p := ⟨w.heap.size, 0, none⟩) rfl _).set (p := ⟨w.heap.size, 1, none⟩) rfl _)
          generalize (w2.setCell ⟨w.heap.size, 0, none⟩ (.slice ua un ucap)).setCell ⟨w.heap.size, 1, none⟩ (.slice va vn vcap) = V at *
          refine bodyPost_ret (v := .tuple #[grV (.slice ua un ucap) (.slice va vn vcap), .int .i64 0]) (by simp [results, Try.results35, asAddr, Result.andThen, go_sem, e0, e1]) rfl ⟨?_, ?_⟩
          · unfold OfAns ofN ofE
            rw [HO.out, if_pos rfl, if_pos rfl, ← HF0.out, HUn.out, HVn.out]
            exact ⟨ua, ucap, va, vcap, rfl, row_low (row_fr HU.out HF.out (fun j hj e => by have := (HU.out.lt j hj).1; omega)) (Nat.le_of_lt hbt), row_low (row_fr HV.out HF.out (fun j hj e => by have := (HV.out.lt j hj).1; omega)) (Nat.le_of_lt hbt)⟩
          · exact HB.out.trans (HF.out.below HB.out.size (fun k hk => by omega))
end Go.Proofs.Ytkhfpcnmnnboeaa
