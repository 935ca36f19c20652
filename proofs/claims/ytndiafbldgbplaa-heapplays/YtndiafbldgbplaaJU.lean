/- dandelionlaw05.HeapSorts. -/
import Derived.Test.YtndiafbldgbplaaJT
import Derived.Test.YtndiafbldgbplaaJL
import Derived.Deep.SlicePairs
namespace Go.Proofs.Ytndiafbldgbplaa
open Go.RowKit

/-- A list of things as an argument. -/
structure ThArg (w : World) (a : Option Addr) (cap : Nat) (l : List Th) : Prop where
  room : l.length ≤ cap
  nul : a = none → cap = 0
  at' : ∀ ad, a = some ad → ∀ j x, l[j]? = some x → w.cell? (ad.add (j * 2)) = some (.int .i64 x.1) ∧ w.cell? (ad.add (j * 2 + 1)) = some (.int .i64 x.2)
  plain : 0 < l.length → ∃ bk o, a = some ⟨bk, o, none⟩ ∧ bk < w.heap.size
  big : l.length ≤ 9223372036854775807
theorem ThArg.all {w : World} {a : Option Addr} {cap m : Nat} {l : List Th} (h : ThArg w a cap l) (hm : m ≤ l.length) (h2 : m ≤ 100000) :
    ∃ v w', (Builtin.append_ #[28, 28] 28 #[.slice none 0 0, .slice a m cap]).run Try.prog w = .ok v w' ∧ w'.ownsRow w.heap.size 26 2 v m (tcs (l.take m)) ∧ Below w.heap.size w w' := by
  have hlt : (l.take m).length = m := by rw [List.length_take]; omega
  cases a with
  | none =>
    have hc := h.nul rfl
    have hr := h.room
    obtain rfl : m = 0 := by omega
    subst hc
    refine ⟨.slice none 0 0, w, ?_, by simpa [tcs] using World.ownsRow_nil w w.heap.size 26 2, Below.refl _ _⟩
    simp [Builtin.append_, go_sem, run_underlying Try.underlying28 w]
  | some ad =>
    obtain ⟨i0, hi, hz0, hz1, hz2⟩ := info_parts infoTh
    have hat := h.at' ad rfl
    obtain ⟨v', w', hrun, r1, r2, _⟩ := run_append_own (P := Try.prog) w w.heap.size 28 28 26 i0 _ 2 16 Try.underlying28 hi hz0 hz1 hz2 rfl (by decide) (.slice none 0 0) 0 [] (World.ownsRow_nil _ _ _ _) ad m cap (tcs (l.take m)) (by rw [tcs_length, hlt]) (fun j v hj => by
      obtain ⟨i, x, h1, h2⟩ := tcs_inv (l.take m) j v hj
      have h3 := (List.getElem?_eq_some_iff.1 h1).1
      rw [hlt] at h3
      rw [List.getElem?_take_of_lt h3] at h1
      rcases h2 with ⟨rfl, rfl⟩ | ⟨rfl, rfl⟩
      · exact (hat i x h1).1
      · exact (hat i x h1).2) (fun v hv => by
      obtain ⟨j, hj, rfl⟩ := List.getElem_of_mem hv
      obtain ⟨i, x, h1, h2⟩ := tcs_inv (l.take m) j _ (List.getElem?_eq_getElem hj)
      rcases h2 with ⟨_, h⟩ | ⟨_, h⟩ <;> rw [h] <;> rfl) (by unfold maxLen; omega) (by omega) (Nat.le_refl _)
    refine ⟨v', w', hrun, by simpa using r1, ?_⟩
    exact (Below.refl _ w).grown r2 (Nat.le_refl _) (fun k e => by simp [Value.ownBlock] at e)
theorem row_things_f {w : World} {base n cap : Nat} {a : Option Addr} {l : List Th} (hr : w.ownsRow base 26 2 (.slice a n cap) n (tcs l)) (h0 : 0 < n) :
    ∃ g, a = some ⟨g, 0, none⟩ ∧ base ≤ g ∧ g < w.heap.size ∧ (∀ j x, l[j]? = some x → w.cell? ⟨g, j * 2, none⟩ = some (.int .i64 x.1) ∧ w.cell? ⟨g, j * 2 + 1, none⟩ = some (.int .i64 x.2)) ∧ ∀ j, w.frozen? ⟨g, j, none⟩ = false := by
  obtain ⟨g, rfl, h1⟩ := row_things hr h0
  have h2 := hr.lt g rfl
  refine ⟨g, rfl, h2.1, h2.2, h1, fun j => ?_⟩
  rcases hr.2 with ⟨_, h3⟩ | ⟨g', cap', cur, h3, _, hh, _⟩
  · omega
  · simp at h3
    obtain ⟨rfl, _⟩ := h3
    exact frozen_new hh j
set_option maxRecDepth 100000 in
set_option maxHeartbeats 1000000 in
theorem sorts_walk {l : List Th} {a : Option Addr} {cap : Nat} {w : World} (hu : ThArg w a cap l) :
    Calls Try.prog 4 #[.slice a l.length cap] w fun e w' => e = .returned (.bool true) ∧ Below w.heap.size w w' := by
  have hmin : (if (200 : Int) < (l.length : Int) then (200 : Int) else (l.length : Int)) = ((min l.length 200 : Nat) : Int) := by split <;> omega
  have hadd : Option.map (fun x => x.add 0) a = a := by
    cases a with
    | none => rfl
    | some x => simp [Addr.add]
  have hmc : min l.length 200 ≤ cap := by have := hu.room; omega
  have hm200 : min l.length 200 ≤ 200 := by omega
  have hml : min l.length 200 ≤ l.length := by omega
  generalize min l.length 200 = m at hmin hmc hm200 hml
  obtain ⟨v1, w1, hrun1, hr1, hb1⟩ := hu.all hml (by omega)
  have hlt : (l.take m).length = m := by rw [List.length_take]; omega
  obtain ⟨ls, hls⟩ : ∃ ls, l.take m = ls := ⟨_, rfl⟩
  have HGet : Hid (∀ j x, ls[j]? = some x → l[j]? = some x) := hidIn fun j x hj => by
    have h3 := (List.getElem?_eq_some_iff.1 hj).1
    rw [← hls, hlt] at h3
    rw [← hls, List.getElem?_take_of_lt h3] at hj
    exact hj
  rw [hls] at hr1 hlt
  obtain ⟨ia, icap, rfl⟩ := row_shape5 hr1
  have hrs := rsort_ok (l := ls) (v := .slice ia m icap) (w := w1) (by rw [hlt]; exact hr1) (by omega)
  rw [hlt] at hrs
  have HRS := hidIn hrs
  have HR1 := hidIn hrun1
  have Hr1 := hidIn hr1
  have HB1 := hidIn hb1
  have HU := hidIn hu
  have HLs := hidIn hlt
  clear hrs hrun1 hr1 hb1 hu hlt hls
  have hbig := HU.out.big
  go_enter Try.func4, Try.ntmps4
  go_wp2_with (refine l_append rfl _ _ 28 rfl HR1.out ?_; clear HR1)
  refine HRS.out.mono ?_
  rintro e w2 ⟨⟨wv, rfl, hwr⟩, hb2⟩
  obtain ⟨wa, wcap, rfl⟩ := row_shape5 hwr
  have hr2 := row_fr (S := fun _ => False) Hr1.out (Fr.of_below hb2) (fun _ _ h => h)
  have hso := sort_ok (thsAt_of_row hr2 HLs.out) (by rw [HLs.out]; omega)
  rw [HLs.out] at hso
  have HSO := hidIn hso
  have HWr := hidIn hwr
  have HB2 := hidIn hb2
  have Hr2 := hidIn hr2
  clear hso hwr hb2 hr2 HRS
  go_wp2_with fail
  refine HSO.out.mono ?_
  rintro e w3 ⟨⟨ov, rfl, hor⟩, hb3⟩
  obtain ⟨oa, ocap, rfl⟩ := row_shape5 hor
  have HOr := hidIn hor
  have HB3 := hidIn hb3
  clear hor hb3 HSO
  have Hin3 := hidIn (row_fr (S := fun _ => False) Hr2.out (Fr.of_below HB3.out) (fun _ _ h => h))
  have Hw3 := hidIn (row_fr (S := fun _ => False) HWr.out (Fr.of_below HB3.out) (fun _ _ h => h))
  have HBB := hidIn ((HB1.out.trans (HB2.out.mono HB1.out.size)).trans (HB3.out.mono (Nat.le_trans HB1.out.size HB2.out.size)))
  have HSo := hidIn (sortL_length ltT ls)
  have hs1 := HB1.out.size
  have hs2 := HB2.out.size
  have hs3 := HB3.out.size
  go_wp2_with fail
  go_loopw [6] (fun i wr => ∃ k : Nat, k ≤ m ∧ i = .int .i64 k ∧ Hid (Fr (fun j => (Value.slice oa m ocap).ownBlock = some j) w3 wr ∧ ∀ og, oa = some ⟨og, 0, none⟩ → (∀ j x, k ≤ j → (sortL ltT ls)[j]? = some x → wr.cell? ⟨og, j * 2, none⟩ = some (.int .i64 x.1) ∧ wr.cell? ⟨og, j * 2 + 1, none⟩ = some (.int .i64 x.2)) ∧ ∀ j, wr.frozen? ⟨og, j, none⟩ = false)) (fun i _ => m - (intOf i).toNat)
  case atStart =>
    refine ⟨0, Nat.zero_le _, rfl, hidIn ⟨Fr.refl _ _, fun og ho => ?_⟩⟩
    by_cases h0 : 0 < m
    · obtain ⟨g, h1, _, _, h2, h3⟩ := row_things_f HOr.out h0
      rw [ho] at h1
      cases h1
      exact ⟨fun j x _ hx => h2 j x hx, h3⟩
    · have := HOr.out.2
      rcases this with ⟨h1, _⟩ | ⟨g, c, cur, h1, _, hh, _⟩
      · simp [ho] at h1
      · simp [ho] at h1
        obtain ⟨rfl, _⟩ := h1
        refine ⟨fun j x _ hx => ?_, fun j => frozen_new hh j⟩
        have := (List.getElem?_eq_some_iff.1 hx).1
        have := HSo.out
        have := HLs.out
        omega
  case round =>
    obtain ⟨k, hk, rfl, HR⟩ := hrel
    obtain ⟨hF, hO⟩ := HR.out
    clear HR
    by_cases hlt : k < m
    · obtain ⟨og, rfl, hog, hog2, _, _⟩ := row_things_f HOr.out (by omega)
      obtain ⟨hoc, hof⟩ := hO og rfl
      have hnot : ∀ j, j < w2.heap.size → ¬ ((Value.slice (some ⟨og, 0, none⟩) m ocap).ownBlock = some j) := fun j hj e => by simp [Value.ownBlock] at e; omega
      have rI := row_fr Hin3.out hF (fun j hj => hnot j ((Hr2.out.lt j hj).2))
      have rW := row_fr Hw3.out hF (fun j hj => hnot j ((HWr.out.lt j hj).2))
      obtain ⟨ig, rfl, hic⟩ := row_things rI (by omega)
      obtain ⟨wg, rfl, hwc⟩ := row_things rW (by omega)
      obtain ⟨x, hx⟩ : ∃ x, (sortL ltT ls)[k]? = some x := ⟨(sortL ltT ls)[k]'(by rw [HSo.out, HLs.out]; exact hlt), List.getElem?_eq_getElem _⟩
      obtain ⟨z, hz⟩ : ∃ z, ls[k]? = some z := ⟨ls[k]'(by rw [HLs.out]; exact hlt), List.getElem?_eq_getElem _⟩
      obtain ⟨bk, o, rfl, hbk⟩ := HU.out.plain (by omega)
      obtain ⟨o0, o1⟩ := hoc k x (Nat.le_refl _) hx
      obtain ⟨e0, e1⟩ := hwc k x hx
      obtain ⟨i0, i1⟩ := hic k z hz
      obtain ⟨l0, l1⟩ := HU.out.at' _ rfl k z (HGet.out k z hz)
      rw [Addr.add_mid] at l0 l1
      have hbw := HBB.out.trans (hF.below HBB.out.size (fun j hj => by simp [Value.ownBlock] at hj; omega))
      have q0 := (hbw.cell (p := ⟨bk, o + k * 2, none⟩) hbk).trans l0
      have q1 := (hbw.cell (p := ⟨bk, o + (k * 2 + 1), none⟩) hbk).trans l1
      rw [← Nat.add_assoc] at q1
      have f1 := hof (k * 2 + 1)
      have he : ∀ w, (Op.equalIn 10000 26 (.agg #[.int .i64 x.1, .int .i64 x.2]) (.agg #[.int .i64 x.1, .int .i64 x.2])).run Try.prog w = Result.ok true w := eq_same x
      have he2 : ∀ w, (Op.equalIn 10000 26 (.agg #[.int .i64 z.1, .int .i64 z.2]) (.agg #[.int .i64 z.1, .int .i64 z.2])).run Try.prog w = Result.ok true w := eq_same z
      have HF := hidIn hF
      have HOC := hidIn hoc
      have HOF := hidIn hof
      clear hF hO hoc hof rI rW hic hwc l0 l1 hbw hnot hx hz
      have hki : (k : Int) < (m : Int) := by omega
      have hkl : (k : Int) < (l.length : Int) := by omega
      go_wp2
      go_quiet (fail)
      go_wp2
      go_roundw
      case rel =>
        refine ⟨k + 1, by omega, by go_num, hidIn ⟨(HF.out.drewN _).set (p := ⟨og, k * 2 + 1, none⟩) rfl _, fun og' ho => ?_⟩⟩
        cases ho
        refine ⟨fun j y hj hy => ?_, fun j => by rw [World.frozen?_setCell]; exact HOF.out j⟩
        obtain ⟨c0, c1⟩ := HOC.out j y (by omega) hy
        rw [World.cell?_setCell_other _ _ _ _ (by intro h; have := congrArg Addr.off h; simp at this; omega), World.cell?_setCell_other _ _ _ _ (by intro h; have := congrArg Addr.off h; simp at this; omega)]
        exact ⟨c0, c1⟩
      case measure => simp [intOf]; omega
    · have hke : k = m := by omega
      have hki : ¬ ((k : Int) < (m : Int)) := by omega
      have hnot : ∀ j, (Value.slice oa m ocap).ownBlock = some j → w2.heap.size ≤ j := fun j hj => (HOr.out.lt j hj).1
      have HrI := hidIn (row_fr Hin3.out hF (fun j hj e => by have := hnot j e; have := (Hr2.out.lt j hj).2; omega))
      have HBw := hidIn (HBB.out.trans (hF.below HBB.out.size (fun j hj => by have := hnot j hj; omega)))
      clear hF hO hnot Hin3 Hw3
      generalize wr = wo at *
      go_wp2_with fail
      go_loopw [7] (fun i wq => ∃ k : Nat, k ≤ m ∧ i = .int .i64 k ∧ Hid (Below wo.heap.size wo wq)) (fun i _ => m - (intOf i).toNat)
      case atStart => exact ⟨0, Nat.zero_le _, rfl, hidIn (Below.refl _ _)⟩
      case round =>
        obtain ⟨k2, hk2, rfl, HB4⟩ := hrel
        by_cases hlt : k2 < m
        · have rI := row_fr (S := fun _ => False) HrI.out (Fr.of_below HB4.out) (fun _ _ h => h)
          obtain ⟨ig, rfl, hic⟩ := row_things rI (by omega)
          obtain ⟨z, hz⟩ : ∃ z, ls[k2]? = some z := ⟨ls[k2]'(by rw [HLs.out]; exact hlt), List.getElem?_eq_getElem _⟩
          obtain ⟨bk, o, rfl, hbk⟩ := HU.out.plain (by omega)
          obtain ⟨i0, i1⟩ := hic k2 z hz
          obtain ⟨l0, l1⟩ := HU.out.at' _ rfl k2 z (HGet.out k2 z hz)
          rw [Addr.add_mid] at l0 l1
          have hbw := HBw.out.trans (HB4.out.mono HBw.out.size)
          have q0 := (hbw.cell (p := ⟨bk, o + k2 * 2, none⟩) hbk).trans l0
          have q1 := (hbw.cell (p := ⟨bk, o + (k2 * 2 + 1), none⟩) hbk).trans l1
          rw [← Nat.add_assoc] at q1
          have he2 : ∀ w, (Op.equalIn 10000 26 (.agg #[.int .i64 z.1, .int .i64 z.2]) (.agg #[.int .i64 z.1, .int .i64 z.2])).run Try.prog w = Result.ok true w := eq_same z
          clear rI hic l0 l1 hbw hz
          have hk2i : (k2 : Int) < (m : Int) := by omega
          have hkl : (k2 : Int) < (l.length : Int) := by omega
          go_wp2
          go_quiet (fail)
          go_wp2
          go_roundw
          case rel => exact ⟨k2 + 1, by omega, by go_num, hidIn (below_drewN HB4.out _)⟩
          case measure => simp [intOf]; omega
        · have hk2i : ¬ ((k2 : Int) < (m : Int)) := by omega
          go_wp2_with (go_at_call 16; refine (works_ok _).mono ?_; rintro e w7 ⟨rfl, hb7⟩)
          go_ret
          have hbw := HBw.out.trans (HB4.out.mono HBw.out.size)
          exact ⟨rfl, hbw.trans (hb7.mono hbw.size)⟩
theorem tfields_eq : Try.prog.underlying 26 = some (.struct #[(Try.prog.fieldsOf 26)[0]!, (Try.prog.fieldsOf 26)[1]!]) := by kernel_rfl
theorem tf0 : ((Try.prog.fieldsOf 26)[0]!).type = 3 := by kernel_rfl
theorem tf1 : ((Try.prog.fieldsOf 26)[1]!).type = 3 := by kernel_rfl
open Go.ChangeShapes Go.WideShapes Go.ChangeAt in
theorem sorts_arg {H : Type} {enc : TypeId × Value → H} {W : World} {a : Option Addr} {len cap : Nat} {d : DataW H} {p : List MemPlace} (h : DataW.Trod enc Try.prog W 0 (fun _ => true) true 28 (.slice a len cap) d p) :
    Calls Try.prog 4 #[.slice a len cap] W fun e w' => e = .returned (.bool true) ∧ Below W.heap.size W w' := by
  obtain ⟨fuel, hf⟩ := h
  rcases Deep.open_slice_pairs Try.underlying28 tfields_eq (by kernel_rfl) (by kernel_rfl) (by kernel_rfl) (by kernel_rfl) (by kernel_rfl) hf with ⟨hcs, _⟩ | ⟨ad, len', cap', m, n, V0, V1, D0, D1, P0, P1, hcs, _, hl, hm, hmm, _, hx⟩
  · simp [Value.cells] at hcs
    obtain ⟨rfl, rfl, rfl⟩ := hcs
    exact sorts_walk (l := []) ⟨by simp, fun _ => rfl, (fun ad h => by cases h), (fun h => by simp at h), by simp⟩
  · simp [Value.cells] at hcs
    obtain ⟨rfl, rfl, rfl⟩ := hcs
    simp only [if_true] at hmm
    subst hmm
    have hv : ∀ i, i < m → ∃ x : Th, V0 i = .int .i64 x.1 ∧ V1 i = .int .i64 x.2 := by
      intro i hi
      obtain ⟨_, _, h3, h4⟩ := hx i hi
      rw [tf0] at h3
      rw [tf1] at h4
      obtain ⟨y, hy, _⟩ := DataW.trod_int Try.underlying3 h3
      obtain ⟨z, hz, _⟩ := DataW.trod_int Try.underlying3 h4
      simp at hy hz
      exact ⟨(y, z), hy, hz⟩
    obtain ⟨X, hX⟩ : ∃ X : Nat → Th, ∀ i, i < m → V0 i = .int .i64 (X i).1 ∧ V1 i = .int .i64 (X i).2 := ⟨fun i => if hi : i < m then Classical.choose (hv i hi) else (0, 0), fun i hi => by simp only [hi, dif_pos]; exact Classical.choose_spec (hv i hi)⟩
    have hlen : ((List.range len).map X).length = len := by simp
    have hget : ∀ j x, ((List.range len).map X)[j]? = some x → j < len ∧ x = X j := fun j x hj => by
      have hjl := (List.getElem?_eq_some_iff.1 hj).1
      rw [hlen] at hjl
      rw [List.getElem?_map, List.getElem?_range hjl] at hj
      simp at hj
      exact ⟨hjl, hj.symm⟩
    have := sorts_walk (l := (List.range len).map X) (a := some ad) (cap := m) (w := W) ⟨by rw [hlen]; exact hl, (fun h => by cases h), fun ad' h j x hj => by
      cases h
      obtain ⟨h1, rfl⟩ := hget j x hj
      obtain ⟨h3, h4, _⟩ := hx j (by omega)
      rw [h3, h4, (hX j (by omega)).1, (hX j (by omega)).2]
      exact ⟨rfl, rfl⟩, fun h0 => by
      rw [hlen] at h0
      obtain ⟨h3, _⟩ := hx 0 (by omega)
      obtain ⟨b, off, spot⟩ := ad
      have hspot : spot = none := by simpa [Addr.add] using World.cell?_spot h3
      subst hspot
      exact ⟨b, off, rfl, block_lt_of_cell (a := ⟨b, off, none⟩) (by simpa [Addr.add] using h3)⟩, by rw [hlen]; unfold maxLen at hm; omega⟩
    rw [hlen] at this
    exact this
end Go.Proofs.Ytndiafbldgbplaa
