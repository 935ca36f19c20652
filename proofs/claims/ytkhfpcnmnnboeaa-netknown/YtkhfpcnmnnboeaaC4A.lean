/- A calendar of dandelion/api.Arrive: rise, sink. -/
import Derived.Test.YtkhfpcnmnnboeaaC3A
namespace Go.Proofs.Ytkhfpcnmnnboeaa.Ca.A
open Go.RowKit Go.Maps

theorem ownH_perm {v : Value} {es fs : List Th} (h : fs.Perm es) {k : Nat} (hk : ownH v fs k) : ownH v es k := hk.imp id fun ⟨e, he, hee⟩ => ⟨e, h.mem_iff.1 he, hee⟩
theorem Fr.perm {v : Value} {es fs : List Th} {w w' : World} (hF : Fr (ownH v fs) w w') (h : fs.Perm es) : Fr (ownH v es) w w' := hF.mono fun _ _ hk => ownH_perm h hk
set_option maxRecDepth 100000 in
set_option maxHeartbeats 1000000 in
theorem rise_ok {w : World} {cp mb i : Nat} {v : Value} {es : List Th} {p : Int} (h : HpC w cp v mb es p) (hl : es.length ≤ 100000) (hi : i < es.length) :
    Calls Try.prog 61 #[ptr cp, .int .i64 i] w fun e w' => (∃ r, e = .returned r) ∧ HpC w' cp v mb (riseF less i es i) p ∧ Fr (ownH v es) w w' := by
  generalize hn : es.length = n at *
  obtain ⟨fin, hfin⟩ : ∃ fin, riseF less i es i = fin := ⟨_, rfl⟩
  rw [hfin]
  have H0 := hidIn hfin
  have Hn := hidIn hn
  have Hh := hidIn h
  clear hfin hn h
  go_enter Try.func61, Try.ntmps61
  go_wp2
  go_loopw [1] (fun x wr => ∃ (k : Nat), k < n ∧ x = .int .i64 k ∧ Hid (∃ f es', k ≤ f ∧ es'.Perm es ∧ riseF less f es' k = fin ∧ HpC wr cp v mb es' p ∧ Fr (ownH v es) w wr)) (fun x _ => (intOf x).toNat)
  case atStart => exact ⟨i, hi, rfl, hidIn ⟨i, es, Nat.le_refl _, List.Perm.refl _, H0.out, Hh.out, Fr.refl _ _⟩⟩
  case round =>
    obtain ⟨k, hk, rfl, HR⟩ := hrel
    obtain ⟨f, es', hkf, hpm, hrise, hM, hFr⟩ := HR.out
    clear HR
    have hl' : es'.length = n := hpm.length_eq.trans Hn.out
    cases k with
    | zero =>
      have hf : es' = fin := by cases f <;> simpa [riseF] using hrise
      have HH := hidIn hM
      have HF := hidIn hFr
      have Hf := hidIn hf
      clear hM hFr hrise hf
      go_wp2
      go_returns
      rw [← Hf.out]
      exact ⟨⟨_, rfl⟩, HH.out, HF.out⟩
    | succ k =>
      obtain ⟨f, rfl⟩ : ∃ f', f = f' + 1 := ⟨f - 1, by omega⟩
      obtain ⟨m, hm⟩ : ∃ m, m = k / 2 := ⟨_, rfl⟩
      have hq : Int.tdiv (k : Int) 2 = (m : Int) := by rw [hm]; exact (Int.ofNat_tdiv k 2).symm
      have hmk : m ≤ k := by omega
      obtain ⟨a, ha⟩ : ∃ a, es'[k + 1]? = some a := ⟨es'[k + 1], List.getElem?_eq_getElem (by omega)⟩
      obtain ⟨b, hb⟩ : ∃ b, es'[m]? = some b := ⟨es'[m], List.getElem?_eq_getElem (by omega)⟩
      have e1 : (k + 1 - 1) / 2 = m := by omega
      have hr2 : (if aheadE less a b = true then riseF less f (swp es' (k + 1) m a b) m else es') = fin := by
        rw [riseF, if_neg (by omega), e1, ha, hb] at hrise
        exact hrise
      have HA := hidIn (ahead_ok hM (by omega) ha hb)
      have HX := hidIn hM
      have HF := hidIn hFr
      have H2 := hidIn hr2
      have HP := hidIn hpm
      have Ha := hidIn ha
      have Hb := hidIn hb
      have HL := hidIn hl'
      clear hM hFr hrise hr2 hm hpm ha hb hl' H0 Hh
      have hk9 : (k : Int) ≤ 100000 := by omega
      by_cases hah : aheadE less a b = true
      · rw [hah] at HA
        go_wp2_with (go_at_call 71; refine HA.out.mono ?_; rintro e w1 ⟨rfl, hb1⟩)
        go_wp2_with fail
        refine (swap_ok (HX.out.below hb1) (by rw [HL.out]; exact hl) Ha.out Hb.out).mono ?_
        rintro e w2 ⟨⟨r, rfl⟩, hM2, hF2⟩
        have HM2 := hidIn hM2
        have HF2 := hidIn hF2
        have HB1 := hidIn hb1
        clear hM2 hF2 hb1
        go_wp2
        go_roundw
        case rel =>
          have h3 := H2.out
          rw [if_pos hah] at h3
          exact ⟨m, by omega, rfl, hidIn ⟨f, _, by omega, (swp_perm Ha.out Hb.out (by omega)).trans HP.out, h3, HM2.out, (HF.out.trans (Fr.of_below HB1.out)).trans (Fr.perm HF2.out HP.out)⟩⟩
        case measure => simp [intOf]; omega
      · have hah' : aheadE less a b = false := by simpa using hah
        rw [hah'] at HA
        go_wp2_with (go_at_call 71; refine HA.out.mono ?_; rintro e w1 ⟨rfl, hb1⟩)
        go_returns
        have h3 := H2.out
        rw [if_neg hah] at h3
        rw [← h3]
        exact ⟨⟨_, rfl⟩, HX.out.below hb1, HF.out.trans (Fr.of_below hb1)⟩
theorem sinkF_end (f : Nat) (es : List Th) (i : Nat) (h : es.length ≤ 2 * i + 1) : sinkF less f es i = es := by
  cases f with
  | zero => rfl
  | succ f =>
    rw [sinkF, List.getElem?_eq_none (by have := belowF_or less es i; omega)]
theorem belowF_lt (es : List Th) (i : Nat) (h : 2 * i + 1 < es.length) : belowF less es i < es.length := by
  unfold belowF
  split
  · rename_i r l hr _
    have := (List.getElem?_eq_some_iff.1 hr).1
    split <;> omega
  · exact h
set_option maxRecDepth 100000 in
set_option maxHeartbeats 1000000 in
theorem sink_ok {w : World} {cp mb i n : Nat} {v : Value} {es : List Th} {p : Int} (h : HpC w cp v mb es p) (hn : es.length = n) (hl : n ≤ 100000) (hi : i ≤ 100000) :
    Calls Try.prog 67 #[ptr cp, .int .i64 i] w fun e w' => (∃ r, e = .returned r) ∧ HpC w' cp v mb (sinkF less n es i) p ∧ Fr (ownH v es) w w' := by
  obtain ⟨ad, cap, rfl, _, _⟩ := h.slice
  rw [hn] at h ⊢
  obtain ⟨fin, hfin⟩ : ∃ fin, sinkF less n es i = fin := ⟨_, rfl⟩
  rw [hfin]
  have H0 := hidIn hfin
  have Hn := hidIn hn
  have Hh := hidIn h
  clear hfin hn h
  go_enter Try.func67, Try.ntmps67
  go_wp2
  go_loopw [1] (fun x wr => ∃ (k : Nat), k ≤ 100000 ∧ x = .int .i64 k ∧ Hid (∃ f es', n - k ≤ f ∧ es'.Perm es ∧ sinkF less f es' k = fin ∧ HpC wr cp (.slice ad n cap) mb es' p ∧ Fr (ownH (.slice ad n cap) es) w wr)) (fun x _ => n - (intOf x).toNat)
  case atStart => exact ⟨i, hi, rfl, hidIn ⟨n, es, Nat.sub_le _ _, List.Perm.refl _, H0.out, Hh.out, Fr.refl _ _⟩⟩
  case round =>
    obtain ⟨k, hk, rfl, HR⟩ := hrel
    obtain ⟨f, es', hkf, hpm, hsink, hM, hFr⟩ := HR.out
    clear HR
    have hl' : es'.length = n := hpm.length_eq.trans Hn.out
    have c1 := hM.c.2.1
    by_cases hend : 2 * k + 1 < n
    · obtain ⟨f, rfl⟩ : ∃ f', f = f' + 1 := ⟨f - 1, by omega⟩
      have hbl := belowF_lt es' k (by omega)
      have hbo := belowF_or less es' k
      have HL := hidIn (below_ok hM (by omega) (show 2 * k + 1 < es'.length by omega))
      obtain ⟨a, ha⟩ : ∃ a, es'[k]? = some a := ⟨es'[k], List.getElem?_eq_getElem (by omega)⟩
      obtain ⟨b, hb⟩ : ∃ b, es'[belowF less es' k]? = some b := ⟨es'[belowF less es' k], List.getElem?_eq_getElem (by omega)⟩
      have hr2 : (if aheadE less b a = true then sinkF less f (swp es' k (belowF less es' k) a b) (belowF less es' k) else es') = fin := by
        rw [sinkF, hb, ha] at hsink
        exact hsink
      generalize belowF less es' k = m at *
      have HX := hidIn hM
      have HF := hidIn hFr
      have H2 := hidIn hr2
      have Ha := hidIn ha
      have Hb := hidIn hb
      have HP := hidIn hpm
      have HN := hidIn hl'
      have hkm : k < m := by omega
      have hmn : m < n := by omega
      clear hM hFr hsink hr2 ha hb hbo hpm hl' hbl H0 Hh
      have hka : 2 * (k : Int) + 1 < (n : Int) := by omega
      have hk9 : (k : Int) ≤ 100000 := by omega
      by_cases hah : aheadE less b a = true
      · go_wp2_with (first
          | (go_at_call 76; refine HL.out.mono ?_; rintro e w1 ⟨rfl, hb1⟩; have HA := hidIn (ahead_ok (HX.out.below hb1) (by rw [HN.out]; exact hl) Hb.out Ha.out); rw [hah] at HA)
          | (go_at_call 71; refine HA.out.mono ?_; rintro e w2 ⟨rfl, hb2⟩))
        go_wp2_with fail
        refine (swap_ok ((HX.out.below hb1).below hb2) (by rw [HN.out]; exact hl) Ha.out Hb.out).mono ?_
        rintro e w3 ⟨⟨r, rfl⟩, hM2, hF2⟩
        have HM2 := hidIn hM2
        have HF2 := hidIn hF2
        have HB1 := hidIn hb1
        have HB2 := hidIn hb2
        clear hM2 hF2 hb1 hb2 c1
        go_wp2
        go_roundw
        case rel =>
          have h3 := H2.out
          rw [if_pos hah] at h3
          exact ⟨m, by omega, rfl, hidIn ⟨f, _, by omega, (swp_perm Ha.out Hb.out (by omega)).trans HP.out, h3, HM2.out, ((HF.out.trans (Fr.of_below HB1.out)).trans (Fr.of_below HB2.out)).trans (Fr.perm HF2.out HP.out)⟩⟩
        case measure => simp [intOf]; omega
      · have hah' : aheadE less b a = false := by simpa using hah
        go_wp2_with (first
          | (go_at_call 76; refine HL.out.mono ?_; rintro e w1 ⟨rfl, hb1⟩; have HA := hidIn (ahead_ok (HX.out.below hb1) (by rw [HN.out]; exact hl) Hb.out Ha.out); rw [hah'] at HA)
          | (go_at_call 71; refine HA.out.mono ?_; rintro e w2 ⟨rfl, hb2⟩))
        go_returns
        have h3 := H2.out
        rw [if_neg hah] at h3
        rw [← h3]
        exact ⟨⟨_, rfl⟩, (HX.out.below hb1).below hb2, HF.out.trans ((Fr.of_below hb1).trans (Fr.of_below hb2))⟩
    · rw [sinkF_end f es' k (by omega)] at hsink
      have HH := hidIn hM
      have HF := hidIn hFr
      have Hf := hidIn hsink
      clear hM hFr hsink
      have hka : ¬ (2 * (k : Int) + 1 < (n : Int)) := by omega
      have hk9 : (k : Int) ≤ 100000 := by omega
      go_wp2
      go_returns
      rw [← Hf.out]
      exact ⟨⟨_, rfl⟩, HH.out, HF.out⟩
end Go.Proofs.Ytkhfpcnmnnboeaa.Ca.A
