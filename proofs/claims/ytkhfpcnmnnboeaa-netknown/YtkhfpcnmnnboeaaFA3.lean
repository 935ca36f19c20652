/- fate.gather. -/
import Derived.Test.YtkhfpcnmnnboeaaFA2
namespace Go.Proofs.Ytkhfpcnmnnboeaa.Fa
open Go.RowKit

theorem SlAt_rus {w : World} {v : Value} {l : List Ru} (h : SlAt ruC 5 w v l) : ∃ a cap, v = .slice a l.length cap ∧ l.length ≤ 9223372036854775807 ∧ (0 < l.length → ∃ bk o, a = some ⟨bk, o, none⟩ ∧ bk < w.heap.size ∧ ∀ j e, l[j]? = some e → w.cell? ⟨bk, o + j * 5, none⟩ = some (.int .i64 e.1) ∧ w.cell? ⟨bk, o + j * 5 + 1, none⟩ = some (.int .i64 e.2.1) ∧ w.cell? ⟨bk, o + j * 5 + 2, none⟩ = some (.int .i64 e.2.2.1) ∧ w.cell? ⟨bk, o + j * 5 + 3, none⟩ = some (.int .i64 e.2.2.2.1) ∧ w.cell? ⟨bk, o + j * 5 + 4, none⟩ = some (.int .i64 e.2.2.2.2)) := by
  obtain ⟨a, cap, rfl, h0, h1, h2⟩ := h
  refine ⟨a, cap, rfl, h0, fun hp => ?_⟩
  obtain ⟨bk, o, rfl, h3, h4⟩ := h2 hp
  exact ⟨bk, o, rfl, h3, fun j z hz => ⟨h4 j z hz 0 _ rfl, h4 j z hz 1 _ rfl, h4 j z hz 2 _ rfl, h4 j z hz 3 _ rfl, h4 j z hz 4 _ rfl⟩⟩
theorem drop_alloc {w w' : World} {b : Nat} (h : Below b w w') (hb : b ≤ w'.heap.size) (o : Obj) : Below b w (w'.alloc o) := h.alloc hb o
/-- A box of five cells. -/
structure BxR (w : World) (b : Nat) (r : Ru) : Prop where
  c0 : w.cell? ⟨b, 0, none⟩ = some (.int .i64 r.1)
  c1 : w.cell? ⟨b, 1, none⟩ = some (.int .i64 r.2.1)
  c2 : w.cell? ⟨b, 2, none⟩ = some (.int .i64 r.2.2.1)
  c3 : w.cell? ⟨b, 3, none⟩ = some (.int .i64 r.2.2.2.1)
  c4 : w.cell? ⟨b, 4, none⟩ = some (.int .i64 r.2.2.2.2)
  lt : b < w.heap.size
theorem BxR.keep {w w' : World} {b B : Nat} {r : Ru} (h : BxR w b r) (k : Below B w w') (hB : w.heap.size ≤ B) : BxR w' b r := by
  have hl := h.lt
  have hs := k.size
  exact ⟨(k.cell (p := ⟨b, 0, none⟩) (by show b < B; omega)).trans h.c0, (k.cell (p := ⟨b, 1, none⟩) (by show b < B; omega)).trans h.c1, (k.cell (p := ⟨b, 2, none⟩) (by show b < B; omega)).trans h.c2, (k.cell (p := ⟨b, 3, none⟩) (by show b < B; omega)).trans h.c3, (k.cell (p := ⟨b, 4, none⟩) (by show b < B; omega)).trans h.c4, by omega⟩
theorem BxR.new (w : World) (r : Ru) (t : TypeId) : BxR (w.alloc (.cells #[.int .i64 r.1, .int .i64 r.2.1, .int .i64 r.2.2.1, .int .i64 r.2.2.2.1, .int .i64 r.2.2.2.2] t)) w.heap.size r := by
  have hh := heap_alloc_last w (.cells #[.int .i64 r.1, .int .i64 r.2.1, .int .i64 r.2.2.1, .int .i64 r.2.2.2.1, .int .i64 r.2.2.2.2] t)
  exact ⟨cell_of_row _ _ 0 _ _ _ hh, cell_of_row _ _ 1 _ _ _ hh, cell_of_row _ _ 2 _ _ _ hh, cell_of_row _ _ 3 _ _ _ hh, cell_of_row _ _ 4 _ _ _ hh, by simp⟩
/-- A box of a message. -/
structure BxK (w : World) (b : Nat) (r : Ky) : Prop where
  c0 : w.cell? ⟨b, 0, none⟩ = some (.int .i64 r.1)
  c1 : w.cell? ⟨b, 1, none⟩ = some (.int .i64 r.2.1)
  c2 : w.cell? ⟨b, 2, none⟩ = some (.int .i64 r.2.2)
  lt : b < w.heap.size
theorem BxK.keep {w w' : World} {b B : Nat} {r : Ky} (h : BxK w b r) (k : Below B w w') (hB : w.heap.size ≤ B) : BxK w' b r := by
  have hl := h.lt
  have hs := k.size
  exact ⟨(k.cell (p := ⟨b, 0, none⟩) (by show b < B; omega)).trans h.c0, (k.cell (p := ⟨b, 1, none⟩) (by show b < B; omega)).trans h.c1, (k.cell (p := ⟨b, 2, none⟩) (by show b < B; omega)).trans h.c2, by omega⟩
theorem BxK.new (w : World) (r : Ky) (t : TypeId) : BxK (w.alloc (.cells #[.int .i64 r.1, .int .i64 r.2.1, .int .i64 r.2.2] t)) w.heap.size r := by
  have hh := heap_alloc_last w (.cells #[.int .i64 r.1, .int .i64 r.2.1, .int .i64 r.2.2] t)
  exact ⟨cell_of_row _ _ 0 _ _ _ hh, cell_of_row _ _ 1 _ _ _ hh, cell_of_row _ _ 2 _ _ _ hh, by simp⟩
theorem makeM9 (w : World) : (Instr.makeMap 93 none).run Try.prog w = .ok (.map (some w.heap.size)) (w.alloc (.map #[] 0)) := by kernel_rfl
/-- What gather answers. -/
def GaAns (w : World) (l : List Ru) (e : Ending) (w' : World) : Prop :=
  ∃ n c : Int, chkR l = (n, c) ∧ Below w.heap.size w w' ∧ ((c ≠ 0 ∧ e = .returned (.tuple #[.map none, .int .i64 n, .int .i64 c])) ∨ (c = 0 ∧ n = 0 ∧ ∃ B, w.heap.size ≤ B ∧ e = .returned (.tuple #[.map (some B), .int .i64 0, .int .i64 0]) ∧ MpR w' B l))
set_option maxRecDepth 100000 in
set_option maxHeartbeats 2000000 in
theorem gather_any {l : List Ru} {v : Value} {w : World} (h : SlAt ruC 5 w v l) :
    Calls Try.prog 56 #[v] w fun e w' => GaAns w l e w' := by
  obtain ⟨a, cap, rfl, hl, hat⟩ := SlAt_rus h
  have Ha := hidIn hat
  clear hat h
  by_cases h64 : l.length ≤ 64
  · have h64' : ¬ (64 : Int) < (l.length : Int) := by omega
    go_enter Try.func56, Try.ntmps56
    have hmk := makeM9 w
    go_wp2
    clear hmk
    go_loopw [17] (fun i wr => ∃ (k : Nat), k ≤ l.length ∧ i = .int .i64 k ∧ Hid (MpR wr w.heap.size (l.take k) ∧ Below w.heap.size w wr ∧ ∀ j, j < k → badAt l j = 0)) (fun i _ => l.length - (intOf i).toNat)
    case atStart =>
      exact ⟨0, Nat.zero_le _, rfl, hidIn ⟨by rw [List.take_zero]; exact mpR_new w, by go_grown, fun j hj => by omega⟩⟩
    case round =>
      obtain ⟨k, hk, rfl, HR⟩ := hrel
      by_cases hlt : k < l.length
      · obtain ⟨bk, o, rfl, hbk, hcell⟩ := Ha.out (by omega)
        obtain ⟨r, hr⟩ : ∃ r, l[k]? = some r := ⟨l[k], List.getElem?_eq_getElem hlt⟩
        obtain ⟨hM, hbel, hbad⟩ := HR.out
        obtain ⟨q0, q1, q2, q3, q4⟩ := hcell k _ hr
        have c0 := (hbel.cell (p := ⟨bk, o + k * 5, none⟩) hbk).trans q0
        have c1 := (hbel.cell (p := ⟨bk, o + k * 5 + 1, none⟩) hbk).trans q1
        have c2 := (hbel.cell (p := ⟨bk, o + k * 5 + 2, none⟩) hbk).trans q2
        have c3 := (hbel.cell (p := ⟨bk, o + k * 5 + 3, none⟩) hbk).trans q3
        have c4 := (hbel.cell (p := ⟨bk, o + k * 5 + 4, none⟩) hbk).trans q4
        obtain ⟨W1, hW1⟩ : ∃ W1, wr.alloc (.cells #[.int .i64 r.1, .int .i64 r.2.1, .int .i64 r.2.2.1, .int .i64 r.2.2.2.1, .int .i64 r.2.2.2.2] 70) = W1 := ⟨_, rfl⟩
        have hw1 : Below wr.heap.size wr W1 := by rw [← hW1]; exact (Below.refl _ wr).alloc (Nat.le_refl _) _
        have hB1 : BxR W1 wr.heap.size r := by rw [← hW1]; exact BxR.new wr r _
        have hM1 : MpR W1 w.heap.size (l.take k) := hM.below hw1 hM.lt
        have hb1 : Below w.heap.size w W1 := hbel.trans (hw1.mono hbel.size)
        have hbad' : ∀ c, badAt l k = c → c ≠ 0 → chkR l = ((k : Int), c) := fun c hc hne => chk_stop h64 hlt hbad hc hne
        have hba : badAt l k = if ruOk r = true then (if (findR (l.take k) (kR r)).isSome = true then 7 else 0) else 2 := by unfold badAt; rw [hr]
        have hM1s := hM1.lt
        have HBAD := hidIn hbad'
        have HBA := hidIn hba
        have HB0 := hidIn hbad
        have HM1 := hidIn hM1
        have HB1 := hidIn hb1
        have HX1 := hidIn hB1
        have HW1 := hidIn hW1
        have HL := hidIn hr
        clear hM hbel hbad q0 q1 q2 q3 q4 hcell hr HR hW1 hb1 hM1 hbad' hba hw1 hM1s hB1
        have hki : (k : Int) < (l.length : Int) := by omega
        go_upto_region 7 with fail
        rw [HW1.out]
        obtain ⟨x0, x1, x2, x3, x4, xlt⟩ := HX1.out
        go_wp2_with fail
        refine (ftmay_any r _).mono ?_
        rintro e' w2 ⟨rfl, hb2⟩
        have HX2 := hidIn (HX1.out.keep hb2 (Nat.le_refl _))
        have HB2 := hidIn (HB1.out.trans (hb2.mono HB1.out.size))
        have HM2 := hidIn (HM1.out.below hb2 HM1.out.lt)
        clear x0 x1 x2 x3 x4 xlt hb2
        have HHb : ∃ b1, ruOk r = b1 := ⟨_, rfl⟩
        obtain ⟨b1, hb1⟩ := HHb
        have Hb1 := hidIn hb1
        rw [hb1]
        clear hb1
        cases b1
        · have HE : Hid (chkR l = ((k : Int), 2)) := hidIn (HBAD.out 2 (by rw [HBA.out, if_neg (by rw [Hb1.out]; simp)]) (by omega))
          go_wp2_with fail
          go_returns
          exact ⟨k, 2, HE.out, HB2.out, .inl ⟨by omega, rfl⟩⟩
        obtain ⟨x0, x1, x2, x3, x4, xlt⟩ := HX2.out
        obtain ⟨W3, hW3⟩ : ∃ W3, w2.alloc (.cells #[.int .i64 r.1, .int .i64 r.2.1, .int .i64 r.2.2.1] 100) = W3 := ⟨_, rfl⟩
        have hw3 : Below w2.heap.size w2 W3 := by rw [← hW3]; exact (Below.refl _ w2).alloc (Nat.le_refl _) _
        have HK3 : Hid (BxK W3 w2.heap.size (kR r)) := hidIn (by rw [← hW3]; exact BxK.new w2 (kR r) _)
        have HX3 := hidIn (HX2.out.keep hw3 (Nat.le_refl _))
        have HB3 := hidIn (HB2.out.trans (hw3.mono HB2.out.size))
        have HM3 := hidIn (HM2.out.below hw3 HM2.out.lt)
        have HW3 := hidIn hW3
        clear hw3 hW3
        go_upto_region 10 with fail
        rw [HW3.out]
        clear x0 x1 x2 x3 x4 xlt
        obtain ⟨x0, x1, x2, x3, x4, xlt⟩ := HX3.out
        obtain ⟨k0, k1, k2, klt⟩ := HK3.out
        simp only [kR] at k0 k1 k2
        have hlk := HM3.out.look (x := kR r) (wfM_ru Hb1.out)
        cases hf : findR (l.take k) (kR r) with
        | some s =>
          have HE : Hid (chkR l = ((k : Int), 7)) := hidIn (HBAD.out 7 (by rw [HBA.out, if_pos Hb1.out, hf]; rfl) (by omega))
          rw [hf] at hlk
          have HL : Hid ((Instr.lookup 93 (.map (some w.heap.size)) (.agg #[.int .i64 r.1, .int .i64 r.2.1, .int .i64 r.2.2.1]) true).run Try.prog W3 = .ok (.tuple #[.agg #[.int .i64 s.1, .int .i64 s.2.1, .int .i64 s.2.2.1, .int .i64 s.2.2.2.1, .int .i64 s.2.2.2.2], .bool true]) W3) := hidIn hlk
          clear hlk hf
          go_wp2_with (refine l_look9 rfl _ _ 93 true rfl HL.out ?_)
          go_returns
          refine ⟨k, 7, HE.out, ?_, .inl ⟨by omega, rfl⟩⟩
          have HBs := HB3.out.size
          exact HB3.out.alloc HBs _
        | none =>
          have h0 : badAt l k = 0 := by rw [HBA.out, if_pos Hb1.out, hf]; rfl
          have htk : l.take (k + 1) = l.take k ++ [r] := take_snoc HL.out
          have hall : ∀ j, j < k + 1 → badAt l j = 0 := fun j hj => by
            by_cases hjk : j < k
            · exact HB0.out j hjk
            · rw [show j = k from by omega]; exact h0
          have hok : RsOk (l.take k ++ [r]) := by rw [← htk]; exact rsOk_upto h64 (k + 1) (by omega) hall
          rw [hf] at hlk
          have HLk : Hid ((Instr.lookup 93 (.map (some w.heap.size)) (.agg #[.int .i64 r.1, .int .i64 r.2.1, .int .i64 r.2.2.1]) true).run Try.prog W3 = .ok (.tuple #[.agg #[.int .i64 0, .int .i64 0, .int .i64 0, .int .i64 0, .int .i64 0], .bool false]) W3) := hidIn hlk
          have HTK := hidIn htk
          have HALL := hidIn hall
          obtain ⟨W4, hW4⟩ : ∃ W4, W3.alloc (.cells #[.int .i64 0, .int .i64 0, .int .i64 0, .int .i64 0, .int .i64 0] 70) = W4 := ⟨_, rfl⟩
          have hw4 : Below W3.heap.size W3 W4 := by rw [← hW4]; exact (Below.refl _ W3).alloc (Nat.le_refl _) _
          have HK4 := hidIn (HK3.out.keep hw4 (Nat.le_refl _))
          have HX4 := hidIn (HX3.out.keep hw4 (Nat.le_refl _))
          have HB4 := hidIn (HB3.out.trans (hw4.mono HB3.out.size))
          have hM4 := HM3.out.below hw4 HM3.out.lt
          obtain ⟨w5, hrun, hM5, hF5⟩ := hM4.put hok
          have HP : Hid ((Instr.mapUpdate 93 (.map (some w.heap.size)) (.agg #[.int .i64 r.1, .int .i64 r.2.1, .int .i64 r.2.2.1]) (.agg #[.int .i64 r.1, .int .i64 r.2.1, .int .i64 r.2.2.1, .int .i64 r.2.2.2.1, .int .i64 r.2.2.2.2])).run Try.prog W4 = .ok () w5) := hidIn hrun
          have HM5 := hidIn hM5
          have HB5 : Hid (Below w.heap.size w w5) := hidIn (HB4.out.trans (hF5.below HB4.out.size (fun j hj => by omega)))
          have HW4 := hidIn hW4
          clear hlk hf h0 htk hall hok hW4 hw4 hM4 hrun hM5 hF5
          go_upto_region 11 with (refine l_look9 rfl _ _ 93 true rfl HLk.out ?_)
          rw [HW4.out]
          clear x0 x1 x2 x3 x4 xlt k0 k1 k2 klt
          obtain ⟨x0, x1, x2, x3, x4, xlt⟩ := HX4.out
          obtain ⟨k0, k1, k2, klt⟩ := HK4.out
          simp only [kR] at k0 k1 k2
          go_wp2_with (refine l_put9 rfl _ _ _ 93 rfl HP.out ?_)
          go_roundw
          case rel =>
            exact ⟨k + 1, by omega, by go_num, hidIn ⟨by rw [HTK.out]; exact HM5.out, HB5.out, HALL.out⟩⟩
          case measure => simp [intOf]; omega
      · have hke : k = l.length := by omega
        obtain ⟨hM, hbel, hbad⟩ := HR.out
        rw [hke, List.take_length] at hM
        have HE : Hid (chkR l = (0, 0)) := hidIn (chk_done h64 fun j hj => hbad j (by omega))
        have HM := hidIn hM
        have HB := hidIn hbel
        have hki : ¬ ((k : Int) < (l.length : Int)) := by omega
        clear hM hbel hbad HR
        go_wp2_with fail
        go_returns
        exact ⟨0, 0, HE.out, HB.out, .inr ⟨rfl, rfl, w.heap.size, Nat.le_refl _, rfl, HM.out⟩⟩
  · have h64' : (64 : Int) < (l.length : Int) := by omega
    have HE : Hid (chkR l = (64, 3)) := hidIn (chk_long (by omega))
    go_enter Try.func56, Try.ntmps56
    go_wp2
    refine bodyPost_ret (v := .tuple #[.map none, .int .i64 64, .int .i64 3]) (by simp [results, Try.results56, asAddr, go_sem]) rfl ?_
    exact ⟨64, 3, HE.out, by go_grown, .inl ⟨by omega, rfl⟩⟩
end Go.Proofs.Ytkhfpcnmnnboeaa.Fa
