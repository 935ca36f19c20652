/- Part: the closure that goes on. -/
import Derived.Test.YtpdpdhnllmlfdaaG9
import Derived.Test.YtpdpdhnllmlfdaaGP
namespace Go.Proofs.Ytpdpdhnllmlfdaa
open Go.RowKit

/-- The boxes of Part: who waits, the graph, who was met, the closure. -/
structure Bxs (base bw bg bm bf : Nat) : Prop where
  w : base ≤ bw
  g : base ≤ bg
  m : base ≤ bm
  f : base ≤ bf
  wg : bw ≠ bg
  wm : bw ≠ bm
  wf : bw ≠ bf
  gm : bg ≠ bm
  gf : bg ≠ bf
  mf : bm ≠ bf
def oneOf (bw bg bm bf : Nat) (Y : Nat → Prop) (k : Nat) : Prop := k = bw ∨ k = bg ∨ k = bm ∨ k = bf ∨ Y k
abbrev clo (bw bg bm bf : Nat) : Value := .func (.func 58) #[] #[.pointer (some ⟨bw, 0, none⟩), .pointer (some ⟨bg, 0, none⟩), .pointer (some ⟨bm, 0, none⟩), .pointer (some ⟨bf, 0, none⟩)]
structure PaM (w : World) (base bw bg bm bf : Nat) (Y : Nat → Prop) (vn ve : Value) (f : Nat → Bool) (q : List Int) (g off cap : Nat) : Prop where
  gr : w.heap[bg]? = some (.cells #[vn, ve] 49)
  m : Arr w bm 99 (mcl f)
  fn : w.heap[bf]? = some (.cells #[clo bw bg bm bf] 1)
  wt : w.heap[bw]? = some (.cells #[.slice (some ⟨g, off, none⟩) q.length cap] 46)
  q : QAt w base (oneOf bw bg bm bf Y) g off cap q
theorem PaM.keep {w w' : World} {base bw bg bm bf B g off cap : Nat} {Y : Nat → Prop} {vn ve : Value} {f : Nat → Bool} {q : List Int} (h : PaM w base bw bg bm bf Y vn ve f q g off cap) (hb : Below B w w') (hB : w.heap.size ≤ B) : PaM w' base bw bg bm bf Y vn ve f q g off cap := by
  have h1 := block_lt h.gr
  have h2 := h.m.lt
  have h3 := block_lt h.fn
  have h4 := block_lt h.wt
  exact ⟨(hb.block _ (by omega)).trans h.gr, h.m.keep hb (by omega), (hb.block _ (by omega)).trans h.fn, (hb.block _ (by omega)).trans h.wt, h.q.fr (Fr.of_below (S := fun _ => False) (hb.mono (by omega))) (fun h => h)⟩
theorem PaM.mark {w : World} {base bw bg bm bf g off cap : Nat} {Y : Nat → Prop} {vn ve : Value} {f : Nat → Bool} {q : List Int} (h : PaM w base bw bg bm bf Y vn ve f q g off cap) (hX : Bxs base bw bg bm bf) {n : Nat} (hn : n < 25) : PaM (w.setCell ⟨bm, n, none⟩ (.bool true)) base bw bg bm bf Y vn ve (mk1 f n) q g off cap := by
  have hq : g ≠ bm := fun e => h.q.nx (.inr (.inr (.inl e)))
  exact ⟨(Below.heap_setCell _ _ _ _ hX.gm).trans h.gr, by rw [← mcl_set f hn]; exact h.m.set n _, (Below.heap_setCell _ _ _ _ (fun e => hX.mf e.symm)).trans h.fn, (Below.heap_setCell _ _ _ _ hX.wm).trans h.wt, h.q.fr ((Fr.refl (fun k => k = bm) w).set (p := ⟨bm, n, none⟩) rfl _) hq⟩
/-- Another slice waits. -/
theorem PaM.wait {w w' : World} {base bw bg bm bf g off cap g' off' cap' : Nat} {Y : Nat → Prop} {vn ve : Value} {f : Nat → Bool} {q q' : List Int} (h : PaM w base bw bg bm bf Y vn ve f q g off cap) (hX : Bxs base bw bg bm bf) (hF : Fr (fun k => k = g) w w') (hq : QAt w' base (oneOf bw bg bm bf Y) g' off' cap' q') : PaM (w'.setCell ⟨bw, 0, none⟩ (.slice (some ⟨g', off', none⟩) q'.length cap')) base bw bg bm bf Y vn ve f q' g' off' cap' := by
  have n1 : bw ≠ g := fun e => h.q.nx (.inl e.symm)
  have n2 : bg ≠ g := fun e => h.q.nx (.inr (.inl e.symm))
  have n3 : bm ≠ g := fun e => h.q.nx (.inr (.inr (.inl e.symm)))
  have n4 : bf ≠ g := fun e => h.q.nx (.inr (.inr (.inr (.inl e.symm))))
  have n5 : g' ≠ bw := fun e => hq.nx (.inl e)
  have h1 := (hF.block _ (block_lt h.gr) n2).trans h.gr
  have h2 := (hF.block _ (block_lt h.m) n3).trans h.m
  have h3 := (hF.block _ (block_lt h.fn) n4).trans h.fn
  have h4 := (hF.block _ (block_lt h.wt) n1).trans h.wt
  refine ⟨(Below.heap_setCell _ _ _ _ (fun e => hX.wg e.symm)).trans h1, Arr.other h2 (fun e => hX.wm e.symm) _, (Below.heap_setCell _ _ _ _ (fun e => hX.wf e.symm)).trans h3, ?_, hq.fr ((Fr.refl (fun k => k = bw) w').set (p := ⟨bw, 0, none⟩) rfl _) n5⟩
  exact heap_setCell_same _ _ _ _ _ _ h4
theorem PaM.other {w : World} {base bw bg bm bf g off cap : Nat} {Y Z : Nat → Prop} {vn ve : Value} {f : Nat → Bool} {q : List Int} (h : PaM w base bw bg bm bf Y vn ve f q g off cap) (hZ : ¬ Z g) : PaM w base bw bg bm bf Z vn ve f q g off cap := by
  refine ⟨h.gr, h.m, h.fn, h.wt, h.q.mono ?_⟩
  rintro (e | e | e | e | e)
  · exact h.q.nx (.inl e)
  · exact h.q.nx (.inr (.inl e))
  · exact h.q.nx (.inr (.inr (.inl e)))
  · exact h.q.nx (.inr (.inr (.inr (.inl e))))
  · exact hZ e
theorem PaM.drop {w : World} {base bw bg bm bf g off cap : Nat} {Y : Nat → Prop} {vn ve : Value} {f : Nat → Bool} {q : List Int} (h : PaM w base bw bg bm bf Y vn ve f q g off cap) : PaM w base bw bg bm bf (fun _ => False) vn ve f q g off cap := h.other (fun h => h)

set_option maxRecDepth 100000 in
set_option maxHeartbeats 2000000 in
theorem goOn_any {ns : List Int} {es : List Ed} {n : Int} {bw bg bm bf : Nat} {vn ve : Value} {w0 : World} (hX : Bxs w0.heap.size bw bg bm bf) (hve : SlAt ec 3 w0 ve es) (hbd : ∀ z ∈ ns, 1 ≤ z ∧ z ≤ 24) (hed : ∀ e ∈ es, e.1 ∈ ns ∧ e.2.1 ∈ ns) (h384 : es.length ≤ 384) (fuel : Nat) :
    fuel ≤ 500 → ∀ (f : Nat → Bool) (q : List Int) (g off cap : Nat) (w : World), q.length + unm f ≤ fuel → Below w0.heap.size w0 w → PaM w w0.heap.size bw bg bm bf (fun _ => False) vn ve f q g off cap → PInv ns es n f q →
    Calls Try.prog 58 #[.pointer (some ⟨bw, 0, none⟩), .pointer (some ⟨bg, 0, none⟩), .pointer (some ⟨bm, 0, none⟩), .pointer (some ⟨bf, 0, none⟩)] w fun e w' =>
      (∃ r, e = .returned r) ∧ (∃ f' g' off' cap', PaM w' w0.heap.size bw bg bm bf (fun _ => False) vn ve f' [] g' off' cap' ∧ PInv ns es n f' []) ∧ Below w0.heap.size w0 w' := by
  induction fuel with
  | zero =>
    intro h500 f q g off cap w hfu hb0 hM hI
    have hq0 : q = [] := List.length_eq_zero_iff.1 (by omega)
    subst hq0
    have c0 := cell_of_row _ _ 0 _ _ _ hM.wt
    simp at c0
    have HM := hidIn hM
    have HI := hidIn hI
    clear hM hI hfu
    go_enter Try.func58, Try.ntmps58
    go_wp2_with fail
    go_returns
    exact ⟨⟨_, rfl⟩, ⟨_, _, _, _, HM.out, HI.out⟩, hb0⟩
  | succ fuel ih =>
    intro h500 f q g off cap w hfu hb0 hM hI
    cases q with
    | nil =>
      have c0 := cell_of_row _ _ 0 _ _ _ hM.wt
      simp at c0
      have HM := hidIn hM
      have HI := hidIn hI
      clear hM hI hfu ih
      go_enter Try.func58, Try.ntmps58
      go_wp2_with fail
      go_returns
      exact ⟨⟨_, rfl⟩, ⟨_, _, _, _, HM.out, HI.out⟩, hb0⟩
    | cons x q =>
      have hle := hM.q.le
      obtain ⟨c, rfl⟩ : ∃ c, cap = c + 1 := ⟨cap - 1, by simp at hle; omega⟩
      obtain ⟨go, hpop, hgo⟩ : ∃ go, QAt w w0.heap.size (oneOf bw bg bm bf (fun _ => False)) g go c q ∧ ((c = 0 ∧ go = off) ∨ (c ≠ 0 ∧ go = off + 1)) := by
        by_cases hc : c = 0
        · subst hc
          exact ⟨off, hM.q.pop.2 rfl, .inl ⟨rfl, rfl⟩⟩
        · exact ⟨off + 1, hM.q.pop.1, .inr ⟨hc, rfl⟩⟩
      have hM1 := hM.wait hX (Fr.refl _ w) hpop
      have c0 : w.cell? ⟨bw, 0, none⟩ = some (.slice (some ⟨g, off, none⟩) (q.length + 1) (c + 1)) := cell_of_row _ _ 0 _ _ _ hM.wt
      have f0 := frozen_new hM.wt 0
      have qc := hM.q.cell (j := 0) (z := x) rfl
      rw [Nat.add_zero] at qc
      have hx := hI.qa x (by simp)
      have hMid := hI.start hbd
      have hbW : Below w0.heap.size w0 (w.setCell ⟨bw, 0, none⟩ (.slice (some ⟨g, go, none⟩) q.length c)) := hb0.setCell (p := ⟨bw, 0, none⟩) hX.w _
      have hqle : q.length ≤ 1000 := by simp at hfu; omega
      have HM1 := hidIn hM1
      have HMid := hidIn hMid
      have HBW := hidIn hbW
      have HFu : Hid (q.length + unm f ≤ fuel) := hidIn (by simp at hfu; omega)
      have Hih := hidIn (ih (by omega))
      clear hM1 hMid hbW hfu ih hpop hM hI hb0 hle
      go_enter Try.func58, Try.ntmps58
      obtain ⟨W1, hW1⟩ : ∃ W1, w.setCell ⟨bw, 0, none⟩ (.slice (some ⟨g, go, none⟩) q.length c) = W1 := ⟨_, rfl⟩
      rw [hW1] at HM1 HBW
      have HW := hidIn hW1
      clear hW1
      have HMe : Hid (∃ o1 c1, PaM W1 w0.heap.size bw bg bm bf (fun _ => False) vn ve f q g o1 c1) := hidIn ⟨_, _, HM1.out⟩
      clear HM1
      have gr0 := cell_of_row _ _ 0 _ _ _ HMe.out.choose_spec.choose_spec.gr
      have gr1 := cell_of_row _ _ 1 _ _ _ HMe.out.choose_spec.choose_spec.gr
      have hg1 : g < W1.heap.size := HMe.out.choose_spec.choose_spec.q.lt
      simp at gr0 gr1
      have HF := hidIn (from_any (vn := vn) (hve.keep HBW.out (Nat.le_refl _)) x h384)
      rcases hgo with ⟨rfl, rfl⟩ | ⟨hc0, rfl⟩
      all_goals
        go_upto_region 3 with fail
        rw [HW.out]
        clear HW c0 f0 qc
        go_wp2_with fail
        refine HF.out.mono ?_
        rintro e' w2 ⟨⟨u, rfl, hu⟩, hb2⟩
        obtain ⟨ua, ucap, rfl⟩ := row_shape hu
        obtain ⟨o1, c1, hM1⟩ := HMe.out
        have HM2 := hidIn ((hM1.keep hb2 (Nat.le_refl _)).other (Z := fun k => (Value.slice ua (nearL es x).length ucap).ownBlock = some k) (fun e => by have := (hu.lt _ e).1; omega))
        have HB2 := hidIn (HBW.out.trans (hb2.mono HBW.out.size))
        have HU := hidIn (row_low hu HBW.out.size)
        have HUX : Hid (∀ k, (Value.slice ua (nearL es x).length ucap).ownBlock = some k → k ≠ bm ∧ k ≠ bw) := hidIn fun k hk => by
          have h1 := (hu.lt _ hk).1
          have h2 := hM1.m.lt
          have h3 := block_lt hM1.wt
          omega
        have hnl := nearL_length es x
        clear HF HMe gr0 gr1 hg1 hM1 hu hb2 HBW
        obtain ⟨L, hL⟩ : ∃ L, nearL es x = L := ⟨_, rfl⟩
        have HL := hidIn hL
        rw [hL] at HM2 HU HUX hnl ⊢
        clear hL
        go_wp2_with fail
        go_loopw [19] (fun i wr => ∃ (j : Nat), j ≤ L.length ∧ i = .int .i64 j ∧ Hid (∃ f2 q2 g2 o2 c2, PaM wr w0.heap.size bw bg bm bf (fun k => (Value.slice ua L.length ucap).ownBlock = some k) vn ve f2 q2 g2 o2 c2 ∧ PMid ns es n x f2 q2 j ∧ q2.length + unm f2 ≤ fuel ∧ wr.ownsRow w0.heap.size 75 2 (.slice ua L.length ucap) L.length (fl ac L) ∧ Below w0.heap.size w0 wr)) (fun i _ => L.length - (intOf i).toNat)
        case atStart => exact ⟨0, Nat.zero_le _, rfl, hidIn ⟨f, q, _, _, _, HM2.out, HMid.out, HFu.out, HU.out, HB2.out⟩⟩
        case round =>
          obtain ⟨j, hj, rfl, HR⟩ := hrel
          obtain ⟨f2, q2, g2, o2, c2, hM, hI, hfu, hrow, hbel⟩ := HR.out
          clear HR HM2 HB2 HU HMid HFu
          by_cases hlt : j < L.length
          · obtain ⟨⟨yy, cc⟩, hy⟩ : ∃ y, L[j]? = some y := ⟨L[j], List.getElem?_eq_getElem hlt⟩
            obtain ⟨a', cap', he, _, _, hcl⟩ := (slAt_of_row (cs := ac) (fun _ => rfl) hrow rfl).ads
            simp only [Value.slice.injEq, true_and] at he
            obtain ⟨rfl, rfl⟩ := he
            obtain ⟨bk, o, rfl, hbk, hcell⟩ := hcl (by omega)
            obtain ⟨q0, q1⟩ := hcell j _ hy
            simp only at q0 q1
            have hyb : 1 ≤ yy ∧ yy ≤ 24 := by
              obtain ⟨e0, h0, _, h2⟩ := mem_nearL (es := es) (x := x) (y := (yy, cc)) (by rw [HL.out]; exact List.mem_of_getElem? hy)
              simp only at h2
              rw [← h2]
              exact hbd _ (hed e0 h0).2
            obtain ⟨t, rfl⟩ : ∃ t : Nat, yy = (t : Int) := ⟨yy.toNat, by omega⟩
            have ht : t < 25 := by omega
            have hti : (t : Int) < 25 := by omega
            have bA : Below wr.heap.size wr (wr.alloc (.cells #[.int .i64 (t : Int), .int .i64 cc] 75)) := (Below.refl _ wr).alloc (Nat.le_refl _) _
            have hM5 := hM.keep bA (Nat.le_refl _)
            have row5 := row_below hrow bA (Nat.le_refl _)
            have hb5 := hbel.trans (bA.mono hbel.size)
            have hA := heap_alloc_last wr (.cells #[.int .i64 (t : Int), .int .i64 cc] 75)
            have a0 : (wr.alloc (.cells #[.int .i64 (t : Int), .int .i64 cc] 75)).cell? ⟨wr.heap.size, 0, none⟩ = some (.int .i64 (t : Int)) := cell_of_row _ _ 0 _ _ _ hA
            have mc := hM5.m.cell t
            rw [mcl_get _ ht] at mc
            have mf := hM5.m.frozen t
            have hji : (j : Int) < (L.length : Int) := by omega
            have hbmr : bm < wr.heap.size := hM.m.lt
            have HM5 := hidIn hM5
            have Hrow5 := hidIn row5
            have HB5 := hidIn hb5
            have HI := hidIn hI
            have Hy : Hid ((nearL es x)[j]? = some ((t : Int), cc)) := hidIn (by rw [HL.out]; exact hy)
            clear hcl hcell hy hM hrow hbel hI hM5 row5 hb5 bA hA hyb
            obtain ⟨b2, hb2⟩ : ∃ b2, f2 t = b2 := ⟨_, rfl⟩
            have Hb2 := hidIn hb2
            rw [hb2] at mc
            clear hb2
            go_upto_region 6 with fail
            generalize wr.alloc (.cells #[.int .i64 (t : Int), .int .i64 cc] 75) = W5 at *
            clear q0 q1
            cases b2
            · have hM6 := HM5.out.mark hX ht
              have a6 : (W5.setCell ⟨bm, t, none⟩ (.bool true)).cell? ⟨wr.heap.size, 0, none⟩ = some (.int .i64 (t : Int)) := by
                rw [World.cell?_setCell_other _ _ _ _ (by intro h; have := congrArg Addr.block h; simp at this; omega)]; exact a0
              have w6c : (W5.setCell ⟨bm, t, none⟩ (.bool true)).cell? ⟨bw, 0, none⟩ = some (.slice (some ⟨g2, o2, none⟩) q2.length c2) := cell_of_row _ _ 0 _ _ _ hM6.wt
              have row6 := row_fr Hrow5.out ((Fr.refl (fun k => k = bm) W5).set (p := ⟨bm, t, none⟩) rfl (.bool true)) (fun k hk => (HUX.out k hk).1)
              have hb6 : Below w0.heap.size w0 (W5.setCell ⟨bm, t, none⟩ (.bool true)) := HB5.out.setCell (p := ⟨bm, t, none⟩) hX.m _
              have HM6 := hidIn hM6
              have Hrow6 := hidIn row6
              have HB6 := hidIn hb6
              clear hM6 row6 hb6
              go_upto_region 8 with fail
              generalize W5.setCell ⟨bm, t, none⟩ (.bool true) = W6 at *
              obtain ⟨g3, o3, c3, w7, hrun, hq7, hF7, _⟩ := HM6.out.q.push (t : Int) (by omega) HB6.out.size (fun k hk => by
                rcases hk with rfl | rfl | rfl | rfl | hk
                · exact block_lt HM6.out.wt
                · exact block_lt HM6.out.gr
                · exact HM6.out.m.lt
                · exact block_lt HM6.out.fn
                · exact (Hrow6.out.lt k hk).2)
              have hM8 := HM6.out.wait hX hF7 hq7
              rw [List.length_append, List.length_singleton] at hM8
              have hbw7 := (hF7.block bw (block_lt HM6.out.wt) (fun e => HM6.out.q.nx (.inl e.symm))).trans HM6.out.wt
              have w7c : w7.cell? ⟨bw, 0, none⟩ = some (.slice (some ⟨g2, o2, none⟩) q2.length c2) := cell_of_row _ _ 0 _ _ _ hbw7
              have w7f := frozen_new hbw7 0
              have row7 := row_fr Hrow6.out hF7 (fun k hk e => HM6.out.q.nx (.inr (.inr (.inr (.inr (by rw [← e]; exact hk))))))
              have HRow8 : Hid ((w7.setCell ⟨bw, 0, none⟩ (.slice (some ⟨g3, o3, none⟩) (q2.length + 1) c3)).ownsRow w0.heap.size 75 2 (.slice (some ⟨bk, o, none⟩) L.length ucap) L.length (fl ac L)) := hidIn (row_fr row7 ((Fr.refl (fun k => k = bw) w7).set (p := ⟨bw, 0, none⟩) rfl _) (fun k hk => (HUX.out k hk).2))
              have HB8 : Hid (Below w0.heap.size w0 (w7.setCell ⟨bw, 0, none⟩ (.slice (some ⟨g3, o3, none⟩) (q2.length + 1) c3))) := hidIn ((HB6.out.trans (hF7.below HB6.out.size (fun k hk => by rw [hk]; exact HM6.out.q.hb))).setCell (p := ⟨bw, 0, none⟩) hX.w _)
              have HM8 := hidIn hM8
              have HRun := hidIn hrun
              have HU8 : Hid (q2.length + 1 + unm (mk1 f2 t) ≤ fuel) := hidIn (by have := unm_mk1 Hb2.out ht; omega)
              clear hM8 hrun hq7 hF7 hbw7 row7 HM6 Hrow6 HB6 Hrow5 HM5 HB5 mc mf a0
              go_wp2_with (refine l_append rfl _ _ 46 rfl HRun.out ?_)
              go_roundw
              case rel => exact ⟨j + 1, by omega, by go_num, hidIn ⟨mk1 f2 t, q2 ++ [(t : Int)], g3, o3, c3, HM8.out, HI.out.push hbd hed Hy.out, by rw [List.length_append]; exact HU8.out, HRow8.out, HB8.out⟩⟩
              case measure => simp [intOf]; omega
            · go_wp2_with fail
              go_roundw
              case rel => exact ⟨j + 1, by omega, by go_num, hidIn ⟨f2, q2, g2, o2, c2, HM5.out, HI.out.skip Hy.out (by simpa using Hb2.out), hfu, Hrow5.out, HB5.out⟩⟩
              case measure => simp [intOf]; omega
          · have hje : L.length ≤ j := by omega
            have hI2 := hI.stop (by rw [HL.out]; exact hje)
            have hji : ¬ ((j : Int) < (L.length : Int)) := by omega
            have fn0 := cell_of_row _ _ 0 _ _ _ hM.fn
            simp at fn0
            have HC := hidIn (Hih.out f2 q2 g2 o2 c2 wr hfu hbel hM.drop hI2)
            clear hM hI hrow hbel hI2 Hih
            go_wp2_with fail
            refine HC.out.mono ?_
            rintro e' w9 ⟨⟨r, rfl⟩, h9, hb9⟩
            have H9 := hidIn h9
            clear h9
            go_wp2_with fail
            go_end0
            exact ⟨⟨_, rfl⟩, H9.out, hb9⟩
end Go.Proofs.Ytpdpdhnllmlfdaa
