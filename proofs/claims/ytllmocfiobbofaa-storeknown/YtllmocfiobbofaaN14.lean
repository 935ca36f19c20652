/- Missing. -/
import Derived.Test.YtllmocfiobbofaaN13
namespace Go.Proofs.Ytllmocfiobbofaa
open Go.RowKit Go.Maps

set_option maxRecDepth 100000 in
set_option maxHeartbeats 2000000 in
theorem smissing_any {S M n : Nat} {f : Sf} {l : List Ed} {v : Value} {w : World} (h : StAt w S M n f) (hv : SlAt sc3 3 w v l) (hB : ∀ y ∈ l, (0 ≤ y.2.1 ∧ y.2.1 < 4294967296) ∧ 0 ≤ y.2.2 ∧ y.2.2 < 4294967296) :
    Calls Try.prog 28 #[ptr S, v] w fun e w' => MisAns w w' f (byS l) e ∧ Below w.heap.size w w' := by
  have HS := hidIn h
  have HT := hidIn (there_any h)
  have HBy := hidIn (byOrigin_any hv hB)
  obtain ⟨aa, cap, rfl, hq⟩ := hv
  clear h hq hB
  go_enter Try.func28, Try.ntmps28
  go_wp2_with fail
  refine HT.out.mono ?_
  rintro e w1 ⟨rfl, h1⟩
  rw [h1]
  clear HT h1 w1
  go_wp2_with fail
  refine HBy.out.mono ?_
  rintro e w2 ⟨h2, hb2⟩
  have HB2 := hidIn hb2
  clear HBy hb2
  have hz := zeroSts
  obtain ⟨G0, hG0⟩ : ∃ G0, (gs no3).toArray = G0 := ⟨_, rfl⟩
  have HA2 : Hid (Arr (w2.alloc (.cells G0 91)) w2.heap.size 91 (gs no3)) := hidIn (by
    show (w2.alloc (.cells G0 91)).heap[w2.heap.size]? = _
    rw [hG0]
    exact heap_alloc_last w2 _)
  have HG0 := hidIn hG0
  rw [hG0] at hz
  clear hG0
  rcases h2 with ⟨g, hg, rfl⟩ | ⟨hno, rfl⟩
  · have Hg := hidIn hg
    clear hg
    go_upto_region 6 with (refine l_storeS rfl _ _ rfl w2.heap.size g no3 rfl rfl HA2.out ?_; intro W3 hWr hWb)
    have HWr := hidIn hWr
    have HB3 : Hid (Below w.heap.size w W3) := hidIn ((HB2.out.alloc HB2.out.size (.cells G0 91)).trans (hWb _ HB2.out.size))
    have HAg := hidIn (against_any (g := g) (HS.out.keep HB3.out))
    clear hWr hWb hz
    go_wp2_with (refine l_loadS rfl _ rfl w2.heap.size g rfl HWr.out ?_)
    refine HAg.out.mono ?_
    rintro e w4 ⟨rfl, hb4⟩
    have HB4 := hidIn (HB3.out.trans (hb4.mono HB3.out.size))
    have HS4 := hidIn (HS.out.keep HB4.out)
    obtain ⟨RA, hRA⟩ : ∃ RA, (rcl (ansF f g)).toArray = RA := ⟨_, rfl⟩
    have HIx : Hid (∀ (k : Nat), k < 25 → ∀ w, (Instr.index 95 (.agg RA) (.int .i64 k)).run Try.prog w = .ok (.int .i64 (ansF f g k)) w) := hidIn fun k hk w => by rw [← hRA]; exact indexAns _ hk w
    rw [hRA]
    clear hRA hb4 HAg HB3 HWr
    go_wp2_with fail
    go_loopw [4, 5, 24] (fun u v q wr => ∃ k : Nat, k ≤ 25 ∧ q = .int .i64 k ∧ Hid (MisM w4 wr f g k u v)) (fun _ _ q _ => 25 - (intOf q).toNat)
    case atStart => exact ⟨0, Nat.zero_le _, rfl, hidIn ⟨[], World.ownsRow_nil _ _ _ _, rfl, fun x hx => by simp at hx, World.ownsRow_nil _ _ _ _, Nat.le_refl _, Nat.le_refl _, Below.refl _ _⟩⟩
    case round =>
      obtain ⟨k, hk, rfl, HR⟩ := hrel
      obtain ⟨a1, c1, a2, c2, rfl, rfl⟩ := HR.out.shape
      by_cases hlt : k < 25
      · have hki : (k : Int) < 25 := by omega
        have hix := HIx.out k hlt
        rcases ansF_vals f g k with ha | ha | ha
        · rw [ha] at hix
          obtain ⟨gg, gcap, w6, hrun, hM⟩ := HR.out.want hlt ha
          have HRun := hidIn hrun
          have HO := hidIn hM
          clear HR hrun hM ha
          generalize (sendL f g k).length = l1 at HO ⊢
          generalize (wantL f g k).length = l2 at HO HRun ⊢
          go_wp2_with (refine l_append rfl _ _ 46 rfl HRun.out ?_)
          go_roundw
          case rel => exact ⟨k + 1, by omega, by go_num, HO⟩
          case measure => simp [intOf]; omega
        · rw [ha] at hix
          have HO := hidIn (HR.out.none ha)
          clear HR ha
          generalize (sendL f g k).length = l1 at HO ⊢
          generalize (wantL f g k).length = l2 at HO ⊢
          go_wp2_with fail
          go_roundw
          case rel => exact ⟨k + 1, by omega, by go_num, HO⟩
          case measure => simp [intOf]; omega
        · rw [ha] at hix
          have hbr : Below w4.heap.size w4 wr := by obtain ⟨_, _, _, _, _, _, _, h⟩ := HR.out; exact h
          have hSr := HS4.out.keep hbr
          have h0 := hSr.slot
          have hSl := hSr.lts.1
          have HL : Hid (∀ wq, Below wr.heap.size wr wq → (Instr.lookup 79 (.map (some M)) (.int .i64 (k : Int)) false).run Try.prog wq = .ok (recV (rOf (f (k : Int))) (uOf (f (k : Int)))) wq) := hidIn fun wq hq => by
            have := (hSr.keep hq).m.look1 (x := (k : Int)) (wf9 (by omega))
            rw [sV_get] at this
            exact this
          obtain ⟨hu, hu16, _⟩ := hSr.u (k : Int)
          have HC := hidIn (copied_any hu (by omega))
          obtain ⟨ua, ucap, hue, _⟩ := hu
          rw [hue] at HL HC
          have Hba := hidIn ha
          have hlw : w4.heap.size ≤ wr.heap.size := hbr.size
          have Hlw := hidIn hlw
          clear hSr hue hu16 hbr ha hlw
          generalize hro : rOf (f (k : Int)) = r at HL HC
          have Hro := hidIn hro
          clear hro
          obtain ⟨ro, re, rs, rc, ri, rl⟩ := r
          simp only at HL HC
          generalize rl.length = nl at HL HC
          go_wp2_with (refine l_look rfl _ _ 79 false rfl (HL.out _ (Below.refl _ _)) ?_)
          refine HC.out.mono ?_
          rintro e w5 ⟨⟨a, c, rfl, hs, hn, hf⟩, hb5⟩
          simp only at hs hn ⊢
          obtain ⟨gg, gcap, w6, hrun, hM⟩ := (HR.out.keep hb5).send hlt Hba.out (x := (⟨ro, re, rs, rc, ri, rl⟩, .slice a rl.length c)) ⟨a, c, rfl, hs, hn, (show Fresh wr w5 a from hf).old Hlw.out⟩ Hro.out.symm
          have HRun := hidIn hrun
          have HO := hidIn hM
          clear HR hrun hM hs hn hf hb5 HC HL h0
          generalize rl.length = nl2 at HRun ⊢
          generalize (sendL f g k).length = l1 at HO HRun ⊢
          generalize (wantL f g k).length = l2 at HO ⊢
          go_wp2_with (refine l_append rfl _ _ 22 rfl HRun.out ?_)
          go_roundw
          case rel => exact ⟨k + 1, by omega, by go_num, HO⟩
          case measure => simp [intOf]; omega
      · have hki : ¬ (k : Int) < 25 := by omega
        obtain rfl : k = 25 := by omega
        have HO : Hid (MisAns w wr f (byS l) (.returned (.tuple #[.slice a1 (sendL f g 25).length c1, .slice a2 (wantL f g 25).length c2, .int .i64 0])) ∧ Below w.heap.size w wr) := hidIn (by
          obtain ⟨L, h1, h2, h3, h4, h5, h6, h7⟩ := HR.out
          refine ⟨.inr ⟨g, _, _, L, Hg.out, rfl, row_low h1 HB4.out.size, h2, fun x hx => ?_, row_low h4 HB4.out.size⟩, HB4.out.trans (h7.mono HB4.out.size)⟩
          obtain ⟨a', c', e1, e2, e3, e4⟩ := h3 x hx
          exact ⟨a', c', e1, e2, e3, e4.old HB4.out.size⟩)
        clear HR
        generalize (sendL f g 25).length = l1 at HO ⊢
        generalize (wantL f g 25).length = l2 at HO ⊢
        go_wp2_with fail
        go_returns
        exact HO.out
  · have Hno := hidIn hno
    clear hno
    go_wp2_with (refine l_storeS rfl _ _ rfl w2.heap.size no3 no3 rfl rfl HA2.out ?_; intro W3 hWr hWb)
    go_returns
    exact ⟨.inl ⟨Hno.out, rfl⟩, (HB2.out.alloc HB2.out.size (.cells G0 91)).trans (hWb _ HB2.out.size)⟩
end Go.Proofs.Ytllmocfiobbofaa
