/- The heap of things: sink, dropFirst. -/
import Derived.Test.YtgeoghhajjlofaaGreatDoorVH2
namespace Go.Proofs.YtgeoghhajjlofaaGreatDoor.Ad
open Go.RowKit

theorem sinkF_end (lt : Th → Th → Bool) (f : Nat) (es : List (Th × Int)) (i : Nat) (h : es.length ≤ 2 * i + 1) : sinkF lt f es i = es := by
  cases f with
  | zero => rfl
  | succ f =>
    rw [sinkF, List.getElem?_eq_none (by have := belowF_or lt es i; omega)]
theorem belowF_lt (lt : Th → Th → Bool) (es : List (Th × Int)) (i : Nat) (h : 2 * i + 1 < es.length) : belowF lt es i < es.length := by
  unfold belowF
  split
  · rename_i r l hr _
    have := (List.getElem?_eq_some_iff.1 hr).1
    split <;> omega
  · exact h
set_option maxRecDepth 100000 in
set_option maxHeartbeats 1000000 in
theorem sink_ok {w : World} {base hp i g n cap : Nat} {es : List (Th × Int)} {p : Int} (h : HpM w base hp (.slice (some ⟨g, 0, none⟩) n cap) es p) (hn : es.length = n) (hl : n ≤ 1000) (hi : i ≤ 1000) :
    Calls Tryz.prog 133 #[.pointer (some ⟨hp, 0, none⟩), .int .i64 i] w fun e w' => (∃ r, e = .returned r) ∧ HpM w' base hp (.slice (some ⟨g, 0, none⟩) n cap) (sinkF ltT n es i) p ∧ Fr (own hp (.slice (some ⟨g, 0, none⟩) n cap)) w w' := by
  have Hfin : ∃ fin, sinkF ltT n es i = fin := ⟨_, rfl⟩
  obtain ⟨fin, hfin⟩ := Hfin
  rw [hfin]
  have H0 := hidIn hfin
  have Hn := hidIn hn
  have Hh := hidIn h
  clear hfin hn h
  go_enter Tryz.func133, Tryz.ntmps133
  go_wp2
  go_loopw [1] (fun x wr => ∃ (k : Nat), k ≤ 1000 ∧ x = .int .i64 k ∧ Hid (∃ f es', n - k ≤ f ∧ es'.length = n ∧ sinkF ltT f es' k = fin ∧ HpM wr base hp (.slice (some ⟨g, 0, none⟩) n cap) es' p ∧ Fr (own hp (.slice (some ⟨g, 0, none⟩) n cap)) w wr)) (fun x _ => n - (intOf x).toNat)
  case atStart => exact ⟨i, hi, rfl, hidIn ⟨n, es, Nat.sub_le _ _, Hn.out, H0.out, Hh.out, Fr.refl _ _⟩⟩
  case round =>
    obtain ⟨k, hk, rfl, HR⟩ := hrel
    obtain ⟨f, es', hkf, hl', hsink, hM, hFr⟩ := HR.out
    clear HR
    obtain ⟨c0, c1, _⟩ := hM.c
    by_cases hend : 2 * k + 1 < n
    · obtain ⟨f, rfl⟩ : ∃ f', f = f' + 1 := ⟨f - 1, by omega⟩
      have hbl := belowF_lt ltT es' k (by omega)
      have hbo := belowF_or ltT es' k
      have HL := hidIn (below_ok hM (by omega) (show 2 * k + 1 < es'.length by omega))
      obtain ⟨a, ha⟩ : ∃ a, es'[k]? = some a := ⟨es'[k], List.getElem?_eq_getElem (by omega)⟩
      obtain ⟨b, hb⟩ : ∃ b, es'[belowF ltT es' k]? = some b := ⟨es'[belowF ltT es' k], List.getElem?_eq_getElem (by omega)⟩
      have hr2 : (if aheadE ltT b a = true then sinkF ltT f (swp es' k (belowF ltT es' k) a b) (belowF ltT es' k) else es') = fin := by
        rw [sinkF, hb, ha] at hsink
        exact hsink
      generalize belowF ltT es' k = m at *
      have HX := hidIn hM
      have HF := hidIn hFr
      have H2 := hidIn hr2
      have Ha := hidIn ha
      have Hb := hidIn hb
      have hkm : k < m := by omega
      clear hM hFr hsink hr2 ha hb hbo
      have hka : 2 * (k : Int) + 1 < (n : Int) := by omega
      have hkn : (k : Int) < (n : Int) := by omega
      have hmn : (m : Int) < (n : Int) := by omega
      by_cases hah : aheadE ltT b a = true
      · go_wp2_with (first
          | (go_at_call 136; refine HL.out.mono ?_; rintro e w1 ⟨rfl, hb1⟩; have HA := hidIn (ahead_ok (HX.out.below hb1 (Nat.le_refl _)) (by omega) Hb.out Ha.out); rw [hah] at HA)
          | (go_at_call 132; refine HA.out.mono ?_; rintro e w2 ⟨rfl, hb2⟩))
        have hM1 := (HX.out.below hb1 (Nat.le_refl _)).below hb2 (Nat.le_refl _)
        obtain ⟨_, d1, _⟩ := hM1.c
        obtain ⟨⟨a0, a1, a2⟩, fz⟩ := hM1.at Ha.out
        obtain ⟨⟨b0, b1, b2⟩, _⟩ := hM1.at Hb.out
        have fa0 := fz (k * 3)
        have fa1 := fz (k * 3 + 1)
        have fa2 := fz (k * 3 + 2)
        have fb0 := fz (m * 3)
        have fb1 := fz (m * 3 + 1)
        have fb2 := fz (m * 3 + 2)
        have H1 := hidIn hM1
        have HB := hidIn (Fr.trans (S := own hp (.slice (some ⟨g, 0, none⟩) n cap)) (Fr.of_below hb1) (Fr.of_below hb2))
        clear hM1 hb1 hb2 fz c0 c1
        go_region
        have HV : Hid (HpM _ base hp (.slice (some ⟨g, 0, none⟩) n cap) (swp es' k m a b) p) := hidIn ((H1.out.store k b).store m a).drew
        have HW : Hid (Fr (own hp (.slice (some ⟨g, 0, none⟩) n cap)) w _) := hidIn ((HF.out.trans HB.out).trans ((own_store (hp := hp) (n := n) (cap := cap) (g := g) (i := k) (w := w2) b).trans (own_store (i := m) a)).drew)
        generalize World.drew _ = V at HV HW ⊢
        clear d1 a0 a1 a2 b0 b1 b2 fa0 fa1 fa2 fb0 fb1 fb2 H1 HB HX HF
        go_wp2
        go_roundw
        case rel =>
          have := H2.out
          rw [if_pos hah] at this
          exact ⟨m, by omega, rfl, hidIn ⟨f, _, by omega, (swp_length _ _ _ _ _).trans hl', this, HV.out, HW.out⟩⟩
        case measure => simp [intOf]; omega
      · have hah' : aheadE ltT b a = false := by simpa using hah
        go_wp2_with (first
          | (go_at_call 136; refine HL.out.mono ?_; rintro e w1 ⟨rfl, hb1⟩; have HA := hidIn (ahead_ok (HX.out.below hb1 (Nat.le_refl _)) (by omega) Hb.out Ha.out); rw [hah'] at HA)
          | (go_at_call 132; refine HA.out.mono ?_; rintro e w2 ⟨rfl, hb2⟩))
        go_returns
        have := H2.out
        rw [if_neg hah] at this
        rw [← this]
        exact ⟨⟨_, rfl⟩, (HX.out.below hb1 (Nat.le_refl _)).below hb2 (Nat.le_refl _), HF.out.trans ((Fr.of_below hb1).trans (Fr.of_below hb2))⟩
    · rw [sinkF_end ltT f es' k (by omega)] at hsink
      have HH := hidIn hM
      have HF := hidIn hFr
      have Hf := hidIn hsink
      clear hM hFr hsink
      have hka : ¬ (2 * (k : Int) + 1 < (n : Int)) := by omega
      go_wp2
      go_returns
      rw [← Hf.out]
      exact ⟨⟨_, rfl⟩, HH.out, HF.out⟩
end Go.Proofs.YtgeoghhajjlofaaGreatDoor.Ad
