/- The heap of things: its tree written; firstBelow, rise, sink. -/
import Derived.Test.YtgeoghhajjlofaaGreatDoorVH1
namespace Go.Proofs.YtgeoghhajjlofaaGreatDoor.Ad
open Go.RowKit

/-- What a call leaves of what was there. -/
structure Fr (S : Nat → Prop) (w w' : World) : Prop where
  os : w'.os = w.os
  tape : w'.tape = w.tape
  output : w'.output = w.output
  size : w.heap.size ≤ w'.heap.size
  block : ∀ k, k < w.heap.size → ¬ S k → w'.heap[k]? = w.heap[k]?
theorem Fr.refl (S : Nat → Prop) (w : World) : Fr S w w := ⟨rfl, rfl, rfl, Nat.le_refl _, fun _ _ _ => rfl⟩
theorem Fr.trans {S : Nat → Prop} {a b c : World} (h : Fr S a b) (k : Fr S b c) : Fr S a c :=
  ⟨k.os.trans h.os, k.tape.trans h.tape, k.output.trans h.output, Nat.le_trans h.size k.size, fun i hi hs => (k.block i (Nat.lt_of_lt_of_le hi h.size) hs).trans (h.block i hi hs)⟩
theorem Fr.of_below {S : Nat → Prop} {w w' : World} (h : Below w.heap.size w w') : Fr S w w' := ⟨h.os, h.tape, h.output, h.size, fun k hk _ => h.block k hk⟩
theorem Fr.set {S : Nat → Prop} {a w : World} (h : Fr S a w) {p : Addr} (hp : S p.block) (u : Value) : Fr S a (w.setCell p u) :=
  h.trans ⟨rfl, rfl, rfl, by simp [World.setCell], fun k _ hs => Below.heap_setCell _ _ _ _ (fun e => hs (e ▸ hp))⟩
theorem Fr.drew {S : Nat → Prop} {a w : World} (h : Fr S a w) : Fr S a w.drew := ⟨h.os, h.tape, h.output, h.size, h.block⟩
theorem Fr.below {S : Nat → Prop} {w w' : World} {B : Nat} (h : Fr S w w') (hB : B ≤ w.heap.size) (hS : ∀ k, S k → B ≤ k) : Below B w w' :=
  ⟨h.os, h.tape, h.output, h.size, fun k hk => h.block k (by omega) (fun hs => by have := hS k hs; omega)⟩
theorem Fr.mono {S T : Nat → Prop} {w w' : World} (h : Fr S w w') (hT : ∀ k, k < w.heap.size → S k → T k) : Fr T w w' :=
  ⟨h.os, h.tape, h.output, h.size, fun k hk hs => h.block k hk (fun h1 => hs (hT k hk h1))⟩
/-- The heap's own blocks. -/
def own (hp : Nat) (v : Value) (k : Nat) : Prop := k = hp ∨ v.ownBlock = some k
theorem row_set {w : World} {base g n cap size : Nat} {e : TypeId} {xs : List Value} (h : w.ownsRow base e size (.slice (some ⟨g, 0, none⟩) n cap) n xs) (j : Nat) (u : Value) :
    (w.setCell ⟨g, j, none⟩ u).ownsRow base e size (.slice (some ⟨g, 0, none⟩) n cap) n (xs.set j u) := by
  refine ⟨by rw [List.length_set]; exact h.1, ?_⟩
  rcases h.2 with ⟨h1, _⟩ | ⟨g', cap', cur, h1, hb, hh, h2, h3, h4, h5⟩
  · simp at h1
  · simp at h1
    obtain ⟨rfl, rfl⟩ := h1
    refine .inr ⟨g, cap, cur.setIfInBounds j u, rfl, hb, heap_setCell_same w g j cur e u hh, h2, h3, by simpa using h4, ?_⟩
    rw [Array.toList_setIfInBounds, List.take_set, h5]
theorem ecs_cons (e : Th × Int) (l : List (Th × Int)) : ecs (e :: l) = .int .i64 e.1.1 :: .int .i64 e.1.2 :: .int .i64 e.2 :: ecs l := by simp [ecs]
theorem ecs_set : ∀ (es : List (Th × Int)) (i : Nat) (b : Th × Int), ecs (es.set i b) = (((ecs es).set (i * 3) (.int .i64 b.1.1)).set (i * 3 + 1) (.int .i64 b.1.2)).set (i * 3 + 2) (.int .i64 b.2)
  | [], i, b => by simp [ecs]
  | e :: l, 0, b => by rw [List.set_cons_zero, ecs_cons, ecs_cons]; rfl
  | e :: l, i + 1, b => by
    rw [List.set_cons_succ, ecs_cons, ecs_cons, ecs_set l i b]
    have h1 : (i + 1) * 3 = i * 3 + 1 + 1 + 1 := by omega
    rw [h1]
    rfl
theorem HpM.store {w : World} {base hp g n cap : Nat} {es : List (Th × Int)} {p : Int} (h : HpM w base hp (.slice (some ⟨g, 0, none⟩) n cap) es p) (i : Nat) (b : Th × Int) :
    HpM (((w.setCell ⟨g, i * 3, none⟩ (.int .i64 b.1.1)).setCell ⟨g, i * 3 + 1, none⟩ (.int .i64 b.1.2)).setCell ⟨g, i * 3 + 2, none⟩ (.int .i64 b.2)) base hp (.slice (some ⟨g, 0, none⟩) n cap) (es.set i b) p := by
  have hne : hp ≠ g := fun e => h.ne (by simp [Value.ownBlock, e])
  obtain ⟨h1, h2⟩ := h.row
  have hn : n = es.length := by
    rcases h2 with ⟨h3, _⟩ | ⟨g', cap', cur, h3, _⟩
    · simp at h3
    · simp at h3; exact h3.2.1
  subst hn
  refine ⟨?_, ?_, h.ne, h.hb⟩
  · rw [Below.heap_setCell _ _ _ _ hne, Below.heap_setCell _ _ _ _ hne, Below.heap_setCell _ _ _ _ hne]; exact h.blk
  · rw [ecs_set, List.length_set]
    exact row_set (row_set (row_set h.row _ _) _ _) _ _
theorem own_store {w : World} {hp g n cap i : Nat} (b : Th × Int) : Fr (own hp (.slice (some ⟨g, 0, none⟩) n cap)) w (((w.setCell ⟨g, i * 3, none⟩ (.int .i64 b.1.1)).setCell ⟨g, i * 3 + 1, none⟩ (.int .i64 b.1.2)).setCell ⟨g, i * 3 + 2, none⟩ (.int .i64 b.2)) :=
  (((Fr.refl _ w).set (p := ⟨g, i * 3, none⟩) (.inr rfl) _).set (p := ⟨g, i * 3 + 1, none⟩) (.inr rfl) _).set (p := ⟨g, i * 3 + 2, none⟩) (.inr rfl) _
theorem HpM.drew {w : World} {base hp : Nat} {v : Value} {es : List (Th × Int)} {p : Int} (h : HpM w base hp v es p) : HpM w.drew base hp v es p := ⟨h.blk, h.row, h.ne, h.hb⟩

set_option maxRecDepth 100000 in
set_option maxHeartbeats 1000000 in
theorem below_ok {w : World} {base hp i : Nat} {v : Value} {es : List (Th × Int)} {p : Int} (h : HpM w base hp v es p) (hl : es.length ≤ 1000) (hi : 2 * i + 1 < es.length) :
    Calls Tryz.prog 136 #[.pointer (some ⟨hp, 0, none⟩), .int .i64 i] w fun e w' => e = .returned (.int .i64 (belowF ltT es i : Nat)) ∧ Below w.heap.size w w' := by
  obtain ⟨l, hl1⟩ : ∃ l, es[2 * i + 1]? = some l := ⟨es[2 * i + 1], List.getElem?_eq_getElem hi⟩
  obtain ⟨g, cap, rfl, hg, _, hne⟩ := h.slice (by omega)
  obtain ⟨c0, c1, _⟩ := h.c
  by_cases hr : 2 * i + 2 < es.length
  · obtain ⟨r, hr1⟩ : ∃ r, es[2 * i + 2]? = some r := ⟨es[2 * i + 2], List.getElem?_eq_getElem hr⟩
    have HA := hidIn (ahead_ok h hl hr1 hl1)
    have e1 : ((2 * i + 2 : Nat) : Int) = 2 * (i : Int) + 2 := by omega
    have e2 : ((2 * i + 1 : Nat) : Int) = 2 * (i : Int) + 1 := by omega
    rw [e1, e2] at HA
    have hb : belowF ltT es i = if aheadE ltT r l = true then 2 * i + 2 else 2 * i + 1 := by unfold belowF; rw [hr1, hl1]
    have Hb := hidIn hb
    have hi2 : (2 * (i : Int) + 2) < (es.length : Int) := by omega
    have hi3 : (i : Int) ≤ 1000 := by omega
    clear hb e1 e2 hr1 hl1
    generalize aheadE ltT r l = t at HA Hb
    generalize es.length = n at *
    go_enter Tryz.func136, Tryz.ntmps136
    go_wp2_with (go_at_call 132; refine HA.out.mono ?_; rintro e w1 ⟨rfl, hb1⟩; cases t)
    all_goals go_ret
    all_goals (refine ⟨?_, hb1⟩; rw [Hb.out]; simp)
  · have hb : belowF ltT es i = 2 * i + 1 := by unfold belowF; rw [List.getElem?_eq_none (by omega)]
    have Hb := hidIn hb
    have hi2 : ¬ (2 * (i : Int) + 2) < (es.length : Int) := by omega
    have hi3 : (i : Int) ≤ 1000 := by omega
    clear hb hl1
    generalize es.length = n at *
    go_enter Tryz.func136, Tryz.ntmps136
    go_wp2
    go_ret
    refine ⟨?_, Below.refl _ _⟩
    rw [Hb.out]
    simp
set_option maxRecDepth 100000 in
set_option maxHeartbeats 1000000 in
theorem rise_ok {w : World} {base hp i : Nat} {v : Value} {es : List (Th × Int)} {p : Int} (h : HpM w base hp v es p) (hl : es.length ≤ 1000) (hi : i < es.length) :
    Calls Tryz.prog 120 #[.pointer (some ⟨hp, 0, none⟩), .int .i64 i] w fun e w' => (∃ r, e = .returned r) ∧ HpM w' base hp v (riseF ltT i es i) p ∧ Fr (own hp v) w w' := by
  obtain ⟨g, cap, rfl, hg, _, hne⟩ := h.slice (by omega)
  generalize hn : es.length = n at *
  have Hfin : ∃ fin, riseF ltT i es i = fin := ⟨_, rfl⟩
  obtain ⟨fin, hfin⟩ := Hfin
  rw [hfin]
  have H0 := hidIn hfin
  have Hn := hidIn hn
  have Hh := hidIn h
  clear hfin hn h
  go_enter Tryz.func120, Tryz.ntmps120
  go_wp2
  go_loopw [1] (fun x wr => ∃ (k : Nat), k < n ∧ x = .int .i64 k ∧ Hid (∃ f es', k ≤ f ∧ es'.length = n ∧ riseF ltT f es' k = fin ∧ HpM wr base hp (.slice (some ⟨g, 0, none⟩) n cap) es' p ∧ Fr (own hp (.slice (some ⟨g, 0, none⟩) n cap)) w wr)) (fun x _ => (intOf x).toNat)
  case atStart => exact ⟨i, hi, rfl, hidIn ⟨i, es, Nat.le_refl _, Hn.out, H0.out, Hh.out, Fr.refl _ _⟩⟩
  case round =>
    obtain ⟨k, hk, rfl, HR⟩ := hrel
    obtain ⟨f, es', hkf, hl', hrise, hM, hFr⟩ := HR.out
    clear HR
    cases k with
    | zero =>
      have hf : es' = fin := by cases f <;> simpa [riseF] using hrise
      have HH := hidIn hM
      have HF := hidIn hFr
      have Hf := hidIn hf
      clear hM hFr hrise hf
      go_wp2
      go_returns
      rw [← Hf.out]
      exact ⟨⟨_, rfl⟩, HH.out, HF.out⟩
    | succ k =>
      obtain ⟨f, rfl⟩ : ∃ f', f = f' + 1 := ⟨f - 1, by omega⟩
      obtain ⟨m, hm⟩ : ∃ m, m = k / 2 := ⟨_, rfl⟩
      have hq : Int.tdiv (k : Int) 2 = (m : Int) := by rw [hm]; exact (Int.ofNat_tdiv k 2).symm
      have hmk : m ≤ k := by omega
      obtain ⟨a, ha⟩ : ∃ a, es'[k + 1]? = some a := ⟨es'[k + 1], List.getElem?_eq_getElem (by omega)⟩
      obtain ⟨b, hb⟩ : ∃ b, es'[m]? = some b := ⟨es'[m], List.getElem?_eq_getElem (by omega)⟩
      have e1 : (k + 1 - 1) / 2 = m := by omega
      have hr2 : (if aheadE ltT a b = true then riseF ltT f (swp es' (k + 1) m a b) m else es') = fin := by
        rw [riseF, if_neg (by omega), e1, ha, hb] at hrise
        exact hrise
      have hM' := hM
      obtain ⟨c0, c1, _⟩ := hM.c
      have HA := hidIn (ahead_ok hM (by omega) ha hb)
      have HX := hidIn hM
      have HF := hidIn hFr
      have H2 := hidIn hr2
      clear hM hM' hFr hrise hr2 hm
      have hka : ((k + 1 : Nat) : Int) < (n : Int) := by omega
      by_cases hah : aheadE ltT a b = true
      · rw [hah] at HA
        go_wp2_with (go_at_call 132; refine HA.out.mono ?_; rintro e w1 ⟨rfl, hb1⟩)
        have hM1 := HX.out.below hb1 (Nat.le_refl _)
        obtain ⟨_, d1, _⟩ := hM1.c
        obtain ⟨⟨a0, a1, a2⟩, fz⟩ := hM1.at ha
        obtain ⟨⟨b0, b1, b2⟩, _⟩ := hM1.at hb
        have fa0 := fz ((k + 1) * 3)
        have fa1 := fz ((k + 1) * 3 + 1)
        have fa2 := fz ((k + 1) * 3 + 2)
        have fb0 := fz (m * 3)
        have fb1 := fz (m * 3 + 1)
        have fb2 := fz (m * 3 + 2)
        have hmn : (m : Int) < (n : Int) := by omega
        have H1 := hidIn hM1
        have HB := hidIn hb1
        have Ha := hidIn ha
        have Hb := hidIn hb
        clear hM1 hb1 fz ha hb c0 c1
        go_region
        have HV : Hid (HpM _ base hp (.slice (some ⟨g, 0, none⟩) n cap) (swp es' (k + 1) m a b) p) := hidIn ((H1.out.store (k + 1) b).store m a).drew
        have HW : Hid (Fr (own hp (.slice (some ⟨g, 0, none⟩) n cap)) w _) := hidIn ((HF.out.trans (Fr.of_below HB.out)).trans ((own_store (hp := hp) (n := n) (cap := cap) (g := g) (i := k + 1) (w := w1) b).trans (own_store (i := m) a)).drew)
        generalize World.drew _ = V at HV HW ⊢
        clear d1 a0 a1 a2 b0 b1 b2 fa0 fa1 fa2 fb0 fb1 fb2 H1 HB HX HF
        go_wp2
        go_roundw
        case rel =>
          have := H2.out
          rw [if_pos hah] at this
          exact ⟨m, by omega, rfl, hidIn ⟨f, _, by omega, (swp_length _ _ _ _ _).trans hl', this, HV.out, HW.out⟩⟩
        case measure => simp [intOf]; omega
      · have hah' : aheadE ltT a b = false := by simpa using hah
        rw [hah'] at HA
        go_wp2_with (go_at_call 132; refine HA.out.mono ?_; rintro e w1 ⟨rfl, hb1⟩)
        go_returns
        have := H2.out
        rw [if_neg hah] at this
        rw [← this]
        exact ⟨⟨_, rfl⟩, HX.out.below hb1 (Nat.le_refl _), HF.out.trans (Fr.of_below hb1)⟩
end Go.Proofs.YtgeoghhajjlofaaGreatDoor.Ad
