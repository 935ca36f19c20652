/- The heap of numbers: its tree written; firstBelow, rise, sink. -/
import Derived.Test.YtndiafbldgbplaaJA
namespace Go.Proofs.Ytndiafbldgbplaa.In
open Go.RowKit
variable {O : OrdS}

theorem ecs_cons (e : Int × Int) (l : List (Int × Int)) : ecs (e :: l) = .int .i64 e.1 :: .int .i64 e.2 :: ecs l := by simp [ecs]
theorem ecs_set : ∀ (es : List (Int × Int)) (i : Nat) (b : Int × Int), ecs (es.set i b) = ((ecs es).set (i * 2) (.int .i64 b.1)).set (i * 2 + 1) (.int .i64 b.2)
  | [], i, b => by simp [ecs]
  | e :: l, 0, b => by rw [List.set_cons_zero, ecs_cons, ecs_cons]; rfl
  | e :: l, i + 1, b => by
    rw [List.set_cons_succ, ecs_cons, ecs_cons, ecs_set l i b]
    have h1 : (i + 1) * 2 = i * 2 + 1 + 1 := by omega
    rw [h1]
    rfl
theorem HpM.store {w : World} {base hp g n cap : Nat} {es : List (Int × Int)} {p : Int} (h : HpM O w base hp (.slice (some ⟨g, 0, none⟩) n cap) es p) (i : Nat) (b : Int × Int) (hD : O.D b.1) :
    HpM O ((w.setCell ⟨g, i * 2, none⟩ (.int .i64 b.1)).setCell ⟨g, i * 2 + 1, none⟩ (.int .i64 b.2)) base hp (.slice (some ⟨g, 0, none⟩) n cap) (es.set i b) p := by
  have hne : hp ≠ g := fun e => h.ne (by simp [Value.ownBlock, e])
  obtain ⟨h1, h2⟩ := h.row
  have hn : n = es.length := by
    rcases h2 with ⟨h3, _⟩ | ⟨g', cap', cur, h3, _⟩
    · simp at h3
    · simp at h3; exact h3.2.1
  subst hn
  have hgb : base ≤ g := (h.row.lt g rfl).1
  refine ⟨?_, ?_, h.ne, h.hb, h.bB, O.keep _ _ h.inv ((((Below.refl _ w).setCell (p := ⟨g, i * 2, none⟩) (by have := h.bB; show _ ≤ g; omega) _).setCell (p := ⟨g, i * 2 + 1, none⟩) (by have := h.bB; show _ ≤ g; omega) _)), fun e he => ?_⟩
  · rw [Below.heap_setCell _ _ _ _ hne, Below.heap_setCell _ _ _ _ hne]; exact h.blk
  · rw [ecs_set, List.length_set]
    exact row_set (row_set h.row _ _) _ _
  · rcases List.mem_or_eq_of_mem_set he with h1 | h1
    · exact h.dom e h1
    · rw [h1]; exact hD
theorem own_store {w : World} {hp g n cap i : Nat} (b : Int × Int) : Fr (own hp (.slice (some ⟨g, 0, none⟩) n cap)) w ((w.setCell ⟨g, i * 2, none⟩ (.int .i64 b.1)).setCell ⟨g, i * 2 + 1, none⟩ (.int .i64 b.2)) :=
  ((Fr.refl _ w).set (p := ⟨g, i * 2, none⟩) (.inr rfl) _).set (p := ⟨g, i * 2 + 1, none⟩) (.inr rfl) _
theorem HpM.drew {w : World} {base hp : Nat} {v : Value} {es : List (Int × Int)} {p : Int} (h : HpM O w base hp v es p) : HpM O w.drew base hp v es p := ⟨h.blk, h.row, h.ne, h.hb, h.bB, O.keep _ _ h.inv (Below.refl _ _).drew, h.dom⟩

set_option maxRecDepth 100000 in
set_option maxHeartbeats 1000000 in
theorem below_ok {w : World} {base hp i : Nat} {v : Value} {es : List (Int × Int)} {p : Int} (h : HpM O w base hp v es p) (hl : es.length ≤ 1000) (hi : 2 * i + 1 < es.length) :
    Calls Try.prog 37 #[.pointer (some ⟨hp, 0, none⟩), .int .i64 i] w fun e w' => e = .returned (.int .i64 (belowF O.lt es i : Nat)) ∧ Below w.heap.size w w' := by
  obtain ⟨l, hl1⟩ : ∃ l, es[2 * i + 1]? = some l := ⟨es[2 * i + 1], List.getElem?_eq_getElem hi⟩
  obtain ⟨g, cap, rfl, hg, _, hne⟩ := h.slice (by omega)
  obtain ⟨c0, c1, _⟩ := h.c
  by_cases hr : 2 * i + 2 < es.length
  · obtain ⟨r, hr1⟩ : ∃ r, es[2 * i + 2]? = some r := ⟨es[2 * i + 2], List.getElem?_eq_getElem hr⟩
    have HA := hidIn (ahead_ok h hl hr1 hl1)
    have e1 : ((2 * i + 2 : Nat) : Int) = 2 * (i : Int) + 2 := by omega
    have e2 : ((2 * i + 1 : Nat) : Int) = 2 * (i : Int) + 1 := by omega
    rw [e1, e2] at HA
    have hb : belowF O.lt es i = if aheadE O.lt r l = true then 2 * i + 2 else 2 * i + 1 := by unfold belowF; rw [hr1, hl1]
    have Hb := hidIn hb
    have hi2 : (2 * (i : Int) + 2) < (es.length : Int) := by omega
    have hi3 : (i : Int) ≤ 1000 := by omega
    clear hb e1 e2 hr1 hl1
    generalize aheadE O.lt r l = t at HA Hb
    generalize es.length = n at *
    go_enter Try.func37, Try.ntmps37
    go_wp2_with (go_at_call 34; refine HA.out.mono ?_; rintro e w1 ⟨rfl, hb1⟩; cases t)
    all_goals go_ret
    all_goals (refine ⟨?_, hb1⟩; rw [Hb.out]; simp)
  · have hb : belowF O.lt es i = 2 * i + 1 := by unfold belowF; rw [List.getElem?_eq_none (by omega)]
    have Hb := hidIn hb
    have hi2 : ¬ (2 * (i : Int) + 2) < (es.length : Int) := by omega
    have hi3 : (i : Int) ≤ 1000 := by omega
    clear hb hl1
    generalize es.length = n at *
    go_enter Try.func37, Try.ntmps37
    go_wp2
    go_ret
    refine ⟨?_, Below.refl _ _⟩
    rw [Hb.out]
    simp
set_option maxRecDepth 100000 in
set_option maxHeartbeats 1000000 in
theorem rise_ok {w : World} {base hp i : Nat} {v : Value} {es : List (Int × Int)} {p : Int} (h : HpM O w base hp v es p) (hl : es.length ≤ 1000) (hi : i < es.length) :
    Calls Try.prog 30 #[.pointer (some ⟨hp, 0, none⟩), .int .i64 i] w fun e w' => (∃ r, e = .returned r) ∧ HpM O w' base hp v (riseF O.lt i es i) p ∧ Fr (own hp v) w w' := by
  obtain ⟨g, cap, rfl, hg, _, hne⟩ := h.slice (by omega)
  generalize hn : es.length = n at *
  have Hfin : ∃ fin, riseF O.lt i es i = fin := ⟨_, rfl⟩
  obtain ⟨fin, hfin⟩ := Hfin
  rw [hfin]
  have H0 := hidIn hfin
  have Hn := hidIn hn
  have Hh := hidIn h
  clear hfin hn h
  go_enter Try.func30, Try.ntmps30
  go_wp2
  go_loopw [1] (fun x wr => ∃ (k : Nat), k < n ∧ x = .int .i64 k ∧ Hid (∃ f es', k ≤ f ∧ es'.length = n ∧ riseF O.lt f es' k = fin ∧ HpM O wr base hp (.slice (some ⟨g, 0, none⟩) n cap) es' p ∧ Fr (own hp (.slice (some ⟨g, 0, none⟩) n cap)) w wr)) (fun x _ => (intOf x).toNat)
  case atStart => exact ⟨i, hi, rfl, hidIn ⟨i, es, Nat.le_refl _, Hn.out, H0.out, Hh.out, Fr.refl _ _⟩⟩
  case round =>
    obtain ⟨k, hk, rfl, HR⟩ := hrel
    obtain ⟨f, es', hkf, hl', hrise, hM, hFr⟩ := HR.out
    clear HR
    cases k with
    | zero =>
      have hf : es' = fin := by cases f <;> simpa [riseF] using hrise
      have HH := hidIn hM
      have HF := hidIn hFr
      have Hf := hidIn hf
      clear hM hFr hrise hf
      go_wp2
      go_returns
      rw [← Hf.out]
      exact ⟨⟨_, rfl⟩, HH.out, HF.out⟩
    | succ k =>
      obtain ⟨f, rfl⟩ : ∃ f', f = f' + 1 := ⟨f - 1, by omega⟩
      obtain ⟨m, hm⟩ : ∃ m, m = k / 2 := ⟨_, rfl⟩
      have hq : Int.tdiv (k : Int) 2 = (m : Int) := by rw [hm]; exact (Int.ofNat_tdiv k 2).symm
      have hmk : m ≤ k := by omega
      obtain ⟨a, ha⟩ : ∃ a, es'[k + 1]? = some a := ⟨es'[k + 1], List.getElem?_eq_getElem (by omega)⟩
      obtain ⟨b, hb⟩ : ∃ b, es'[m]? = some b := ⟨es'[m], List.getElem?_eq_getElem (by omega)⟩
      have e1 : (k + 1 - 1) / 2 = m := by omega
      have hr2 : (if aheadE O.lt a b = true then riseF O.lt f (swp es' (k + 1) m a b) m else es') = fin := by
        rw [riseF, if_neg (by omega), e1, ha, hb] at hrise
        exact hrise
      have hM' := hM
      obtain ⟨c0, c1, _⟩ := hM.c
      have HA := hidIn (ahead_ok hM (by omega) ha hb)
      have HX := hidIn hM
      have HF := hidIn hFr
      have H2 := hidIn hr2
      clear hM hM' hFr hrise hr2 hm
      have hka : ((k + 1 : Nat) : Int) < (n : Int) := by omega
      by_cases hah : aheadE O.lt a b = true
      · rw [hah] at HA
        go_wp2_with (go_at_call 34; refine HA.out.mono ?_; rintro e w1 ⟨rfl, hb1⟩)
        have hM1 := HX.out.below hb1 (Nat.le_refl _)
        obtain ⟨_, d1, _⟩ := hM1.c
        obtain ⟨⟨a0, a1⟩, fz⟩ := hM1.at ha
        obtain ⟨⟨b0, b1⟩, _⟩ := hM1.at hb
        have fa0 := fz ((k + 1) * 2)
        have fa1 := fz ((k + 1) * 2 + 1)
        have fb0 := fz (m * 2)
        have fb1 := fz (m * 2 + 1)
        have hmn : (m : Int) < (n : Int) := by omega
        have H1 := hidIn hM1
        have HB := hidIn hb1
        have Ha := hidIn ha
        have Hb := hidIn hb
        have HDa := hidIn (hM1.dom a (List.mem_of_getElem? ha))
        have HDb := hidIn (hM1.dom b (List.mem_of_getElem? hb))
        clear hM1 hb1 fz ha hb c0 c1
        go_region
        have HV : Hid (HpM O _ base hp (.slice (some ⟨g, 0, none⟩) n cap) (swp es' (k + 1) m a b) p) := hidIn ((H1.out.store (k + 1) b HDb.out).store m a HDa.out).drew
        have HW : Hid (Fr (own hp (.slice (some ⟨g, 0, none⟩) n cap)) w _) := hidIn ((HF.out.trans (Fr.of_below HB.out)).trans ((own_store (hp := hp) (n := n) (cap := cap) (g := g) (i := k + 1) (w := w1) b).trans (own_store (i := m) a)).drew)
        generalize World.drew _ = V at HV HW ⊢
        clear d1 a0 a1 b0 b1 fa0 fa1 fb0 fb1 H1 HB HX HF
        go_wp2
        go_roundw
        case rel =>
          have := H2.out
          rw [if_pos hah] at this
          exact ⟨m, by omega, rfl, hidIn ⟨f, _, by omega, (swp_length _ _ _ _ _).trans hl', this, HV.out, HW.out⟩⟩
        case measure => simp [intOf]; omega
      · have hah' : aheadE O.lt a b = false := by simpa using hah
        rw [hah'] at HA
        go_wp2_with (go_at_call 34; refine HA.out.mono ?_; rintro e w1 ⟨rfl, hb1⟩)
        go_returns
        have := H2.out
        rw [if_neg hah] at this
        rw [← this]
        exact ⟨⟨_, rfl⟩, HX.out.below hb1 (Nat.le_refl _), HF.out.trans (Fr.of_below hb1)⟩
end Go.Proofs.Ytndiafbldgbplaa.In
