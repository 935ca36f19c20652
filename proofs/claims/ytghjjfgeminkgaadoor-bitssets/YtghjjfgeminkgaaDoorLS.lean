/- The law BitsSets, walked. -/
import Derived.Test.YtghjjfgeminkgaaDoorWK
import Derived.Test.YtghjjfgeminkgaaDoorLP
import Derived.Test.YtghjjfgeminkgaaDoorI1
namespace Go.Proofs.YtghjjfgeminkgaaDoor
open Go.RowKit

theorem cnt_and_or (n N M : Nat) : cntTo n (N &&& M) + cntTo n (N ||| M) = cntTo n N + cntTo n M := by
  induction n with
  | zero => simp [cntTo]
  | succ n ih =>
    have k : ∀ X, cntTo (n + 1) X = cntTo n X + cond (X.testBit n) 1 0 := fun X => by
      unfold cntTo
      rw [List.range_succ, List.filter_append, List.length_append]
      cases h : X.testBit n <;> simp [h]
    rw [k, k, k, k, Nat.testBit_and, Nat.testBit_or]
    cases N.testBit n <;> cases M.testBit n <;> simp <;> omega
theorem cnt_wo_and (n N M : Nat) : cntTo n (wo N M) + cntTo n (N &&& M) = cntTo n N := by
  induction n with
  | zero => simp [cntTo]
  | succ n ih =>
    have k : ∀ X, cntTo (n + 1) X = cntTo n X + cond (X.testBit n) 1 0 := fun X => by
      unfold cntTo
      rw [List.range_succ, List.filter_append, List.length_append]
      cases h : X.testBit n <;> simp [h]
    rw [k, k, k, Nat.testBit_and, testBit_wo]
    cases N.testBit n <;> cases M.testBit n <;> simp <;> omega
theorem eq_of {X Y : Nat} (h : X = Y) (w : World) : (Op.equalIn 10000 24 (.agg #[.int .u64 (wd X 0), .int .u64 (wd X 1), .int .u64 (wd X 2), .int .u64 (wd X 3)]) (.agg #[.int .u64 (wd Y 0), .int .u64 (wd Y 1), .int .u64 (wd Y 2), .int .u64 (wd Y 3)])).run Tryd.prog w = Result.ok true w := by
  subst h; exact eq_same X w
theorem eq_null {X : Nat} (h : X = 0) (w : World) : (Op.equalIn 10000 24 (.agg #[.int .u64 (wd X 0), .int .u64 (wd X 1), .int .u64 (wd X 2), .int .u64 (wd X 3)]) (.agg #[.int .u64 0, .int .u64 0, .int .u64 0, .int .u64 0])).run Tryd.prog w = Result.ok true w := by
  subst h; exact eq_zero 0 (by decide) w
theorem set1 (N M : Nat) : (N &&& M) &&& wo N M = 0 := by
  apply Nat.eq_of_testBit_eq; intro i
  rw [Nat.testBit_and, Nat.testBit_and, testBit_wo, Nat.zero_testBit]
  cases N.testBit i <;> cases M.testBit i <;> rfl
theorem set2 (N M : Nat) : (N &&& M) ||| wo N M = N := by
  apply Nat.eq_of_testBit_eq; intro i
  rw [Nat.testBit_or, Nat.testBit_and, testBit_wo]
  cases N.testBit i <;> cases M.testBit i <;> rfl
theorem set3 (N M : Nat) : wo N M ||| M = N ||| M := by
  apply Nat.eq_of_testBit_eq; intro i
  rw [Nat.testBit_or, Nat.testBit_or, testBit_wo]
  cases N.testBit i <;> cases M.testBit i <;> rfl
theorem set4 (N M C : Nat) : (N ||| M) &&& C = (N &&& C) ||| (M &&& C) := by
  apply Nat.eq_of_testBit_eq; intro i
  simp only [Nat.testBit_or, Nat.testBit_and]
  cases N.testBit i <;> cases M.testBit i <;> cases C.testBit i <;> rfl

theorem HasBs.other {W : World} {b X b' : Nat} (h : HasBs W b X) (hne : b ≠ b') (Y : Nat) : HasBs (World.putBs W b' Y) b X :=
  h.at ⟨(grown_put W b' Y).block b h.lt (by simp [hne]), (grown_put W b' Y).size⟩

def SInv (V : World) (N M C p : Nat) (l : Array Bool) (a : Act) (W : World) : Prop :=
  ∃ (l0 l1 l2 l3 l4 l5 l6 l7 l8 l9 l10 l11 l12 l13 l14 : Bool) (b7 b8 b9 : Nat), l = #[l0, l1, l2, l3, l4, l5, l6, l7, l8, l9, l10, l11, l12, l13, l14] ∧ a = { tmps := #[.agg #[.int .u64 (wd (N) 0), .int .u64 (wd (N) 1), .int .u64 (wd (N) 2), .int .u64 (wd (N) 3)], .agg #[.int .u64 (wd (M) 0), .int .u64 (wd (M) 1), .int .u64 (wd (M) 2), .int .u64 (wd (M) 3)], .agg #[.int .u64 (wd (C) 0), .int .u64 (wd (C) 1), .int .u64 (wd (C) 2), .int .u64 (wd (C) 3)], .pointer (some ⟨p, 0, none⟩), .pointer (some ⟨p + 1, 0, none⟩), .pointer (some ⟨p + 1 + 1, 0, none⟩), .bool false, cond l9 (.pointer (some ⟨b7, 0, none⟩)) undef, cond l10 (.pointer (some ⟨b8, 0, none⟩)) undef, cond l11 (.pointer (some ⟨b9, 0, none⟩)) undef, cond l0 (.agg #[.int .u64 (wd (N) 0), .int .u64 (wd (N) 1), .int .u64 (wd (N) 2), .int .u64 (wd (N) 3)]) undef, cond l1 (.agg #[.int .u64 (wd (M) 0), .int .u64 (wd (M) 1), .int .u64 (wd (M) 2), .int .u64 (wd (M) 3)]) undef, cond l2 (.agg #[.int .u64 (wd (N &&& M) 0), .int .u64 (wd (N &&& M) 1), .int .u64 (wd (N &&& M) 2), .int .u64 (wd (N &&& M) 3)]) undef, cond l3 (.agg #[.int .u64 (wd (N) 0), .int .u64 (wd (N) 1), .int .u64 (wd (N) 2), .int .u64 (wd (N) 3)]) undef, cond l4 (.agg #[.int .u64 (wd (M) 0), .int .u64 (wd (M) 1), .int .u64 (wd (M) 2), .int .u64 (wd (M) 3)]) undef, cond l5 (.agg #[.int .u64 (wd (N ||| M) 0), .int .u64 (wd (N ||| M) 1), .int .u64 (wd (N ||| M) 2), .int .u64 (wd (N ||| M) 3)]) undef, cond l6 (.agg #[.int .u64 (wd (N) 0), .int .u64 (wd (N) 1), .int .u64 (wd (N) 2), .int .u64 (wd (N) 3)]) undef, cond l7 (.agg #[.int .u64 (wd (M) 0), .int .u64 (wd (M) 1), .int .u64 (wd (M) 2), .int .u64 (wd (M) 3)]) undef, cond l8 (.agg #[.int .u64 (wd (wo N M) 0), .int .u64 (wd (wo N M) 1), .int .u64 (wd (wo N M) 2), .int .u64 (wd (wo N M) 3)]) undef, undef, undef, undef, undef, undef, undef, undef, undef, undef, undef, undef, undef, undef, undef, undef, undef, undef, undef, undef, undef, undef, undef, undef, undef, undef, undef, undef, undef, undef, undef, undef, undef, undef, undef, undef, undef, undef, undef, undef, undef, undef, undef, undef, undef, undef, undef, undef, undef, undef, undef, undef, undef, undef, undef, undef, undef, undef, undef, undef, undef, undef, undef, undef, undef, undef, undef, undef, undef, undef, undef, undef, undef, undef, undef, undef, undef, undef, undef, undef, undef, undef, undef, undef, undef, undef, undef, undef, undef, undef, undef], defers := [] } ∧ Below (p + 3) V W ∧
    (l9 = true → p + 3 ≤ b7 ∧ HasBs W b7 (cond l12 (N &&& M) 0)) ∧ (l10 = true → p + 3 ≤ b8 ∧ HasBs W b8 (cond l13 (N ||| M) 0)) ∧ (l11 = true → p + 3 ≤ b9 ∧ HasBs W b9 (cond l14 (wo N M) 0)) ∧
    (l9 = true → l10 = true → b7 ≠ b8) ∧ (l9 = true → l11 = true → b7 ≠ b9) ∧ (l10 = true → l11 = true → b8 ≠ b9) ∧ (l9 = false → l12 = false) ∧ (l10 = false → l13 = false) ∧ (l11 = false → l14 = false)

set_option maxRecDepth 100000 in
set_option maxHeartbeats 2000000 in
theorem sets_walk (N M C : Nat) (w : World) (ht : Tabs w) :
    Calls Tryd.prog 8 #[bs N, bs M, bs C] w fun e w' => e = .returned (.bool true) ∧ Below w.heap.size w w' := by
  unfold bs
  go_enter Tryd.func8, Tryd.ntmps8
  go_wp2
  generalize hV : ((w.alloc _).alloc _).alloc _ = V
  have bV : Below w.heap.size w V := by rw [← hV]; go_grown
  have sV : V.heap.size = w.heap.size + 3 := by rw [← hV]; simp
  have nV : HasBs V w.heap.size N := by rw [← hV]; exact ((hasBs_new w N).alloc _).alloc _
  have mV : HasBs V (w.heap.size + 1) M := by
    have := (hasBs_new (w.alloc (.cells #[.int .u64 (wd N 0), .int .u64 (wd N 1), .int .u64 (wd N 2), .int .u64 (wd N 3)] 24)) M).alloc (.cells #[.int .u64 (wd C 0), .int .u64 (wd C 1), .int .u64 (wd C 2), .int .u64 (wd C 3)] 24)
    rw [hV] at this
    simpa using this
  have cV : HasBs V (w.heap.size + 2) C := by
    have := hasBs_new ((w.alloc (.cells #[.int .u64 (wd N 0), .int .u64 (wd N 1), .int .u64 (wd N 2), .int .u64 (wd N 3)] 24)).alloc (.cells #[.int .u64 (wd M 0), .int .u64 (wd M 1), .int .u64 (wd M 2), .int .u64 (wd M 3)] 24)) C
    rw [hV] at this
    simpa using this
  have tV : Tabs V := ht.keep bV
  clear hV
  have HV := hidIn (And.intro sV (And.intro nV (And.intro mV (And.intro cV tV))))
  clear sV nV mV cV tV
  refine wp_region_any (by kernel_rfl) ?_
  change wpAny _ _ _ _ _ _ _ (World.drew _)
  refine wpAny_inv (SInv V N M C w.heap.size) ?step ?fin _ _ _ _ ?start (by decide)
  case start => exact ⟨false, false, false, false, false, false, false, false, false, false, false, false, false, false, false, 0, 0, 0, rfl, rfl, (Below.refl _ V).drew, by simp, by simp, by simp, by simp, by simp, by simp, by simp, by simp, by simp⟩
  case step =>
    rintro i o ho l a W ⟨l0, l1, l2, l3, l4, l5, l6, l7, l8, l9, l10, l11, l12, l13, l14, b7, b8, b9, rfl, rfl, hbel, h7, h8, h9, d78, d79, d89, e7, e8, e9⟩ hl hd K hK
    have hi : i < 15 := (Array.getElem?_eq_some_iff.1 ho).1
    obtain ⟨sV, nV, mV, _, _⟩ := HV.out
    have hsz : w.heap.size + 3 ≤ W.heap.size := by have := hbel.size; omega
    obtain ⟨n0, n1, n2, n3, _, _, _, _, _⟩ := nV.keep hbel (by omega)
    obtain ⟨m0, m1, m2, m3, _, _, _, _, _⟩ := mV.keep hbel (by omega)
    clear sV nV mV
    have hcs : i = 0 ∨ i = 1 ∨ i = 2 ∨ i = 3 ∨ i = 4 ∨ i = 5 ∨ i = 6 ∨ i = 7 ∨ i = 8 ∨ i = 9 ∨ i = 10 ∨ i = 11 ∨ i = 12 ∨ i = 13 ∨ i = 14 := by omega
    clear hi
    rcases hcs with rfl | rfl | rfl | rfl | rfl | rfl | rfl | rfl | rfl | rfl | rfl | rfl | rfl | rfl | rfl
    · simp only [List.getElem?_toArray, List.getElem?_cons_zero, Option.some.injEq] at ho
      subst ho
      simp at hl
      subst hl
      clear hd
      go_simp
      refine hK _ _ ?_
      exact ⟨true, l1, l2, l3, l4, l5, l6, l7, l8, l9, l10, l11, l12, l13, l14, b7, b8, b9, rfl, rfl, hbel, h7, h8, h9, d78, d79, d89, e7, e8, e9⟩
    · simp only [List.getElem?_toArray, List.getElem?_cons_zero, List.getElem?_cons_succ, Option.some.injEq] at ho
      subst ho
      simp at hl
      subst hl
      clear hd
      go_simp
      refine hK _ _ ?_
      exact ⟨l0, true, l2, l3, l4, l5, l6, l7, l8, l9, l10, l11, l12, l13, l14, b7, b8, b9, rfl, rfl, hbel, h7, h8, h9, d78, d79, d89, e7, e8, e9⟩
    · simp only [List.getElem?_toArray, List.getElem?_cons_zero, List.getElem?_cons_succ, Option.some.injEq] at ho
      subst ho
      simp at hl
      subst hl
      simp [Region.binds] at hd
      obtain ⟨rfl, rfl⟩ := hd
      go_simp
      refine (and_any N M _).mono ?_
      rintro e w1 ⟨rfl, hb1⟩
      refine hK _ _ ?_
      exact ⟨true, true, true, l3, l4, l5, l6, l7, l8, l9, l10, l11, l12, l13, l14, b7, b8, b9, rfl, rfl, hbel.trans (hb1.mono hsz), fun h => let ⟨x, y⟩ := h7 h; ⟨x, y.keep hb1 y.lt⟩, fun h => let ⟨x, y⟩ := h8 h; ⟨x, y.keep hb1 y.lt⟩, fun h => let ⟨x, y⟩ := h9 h; ⟨x, y.keep hb1 y.lt⟩, d78, d79, d89, e7, e8, e9⟩
    · simp only [List.getElem?_toArray, List.getElem?_cons_zero, List.getElem?_cons_succ, Option.some.injEq] at ho
      subst ho
      simp at hl
      subst hl
      clear hd
      go_simp
      refine hK _ _ ?_
      exact ⟨l0, l1, l2, true, l4, l5, l6, l7, l8, l9, l10, l11, l12, l13, l14, b7, b8, b9, rfl, rfl, hbel, h7, h8, h9, d78, d79, d89, e7, e8, e9⟩
    · simp only [List.getElem?_toArray, List.getElem?_cons_zero, List.getElem?_cons_succ, Option.some.injEq] at ho
      subst ho
      simp at hl
      subst hl
      clear hd
      go_simp
      refine hK _ _ ?_
      exact ⟨l0, l1, l2, l3, true, l5, l6, l7, l8, l9, l10, l11, l12, l13, l14, b7, b8, b9, rfl, rfl, hbel, h7, h8, h9, d78, d79, d89, e7, e8, e9⟩
    · simp only [List.getElem?_toArray, List.getElem?_cons_zero, List.getElem?_cons_succ, Option.some.injEq] at ho
      subst ho
      simp at hl
      subst hl
      simp [Region.binds] at hd
      obtain ⟨rfl, rfl, rfl⟩ := hd
      go_simp
      refine (or_any N M _).mono ?_
      rintro e w1 ⟨rfl, hb1⟩
      refine hK _ _ ?_
      exact ⟨l0, l1, true, true, true, true, l6, l7, l8, l9, l10, l11, l12, l13, l14, b7, b8, b9, rfl, rfl, hbel.trans (hb1.mono hsz), fun h => let ⟨x, y⟩ := h7 h; ⟨x, y.keep hb1 y.lt⟩, fun h => let ⟨x, y⟩ := h8 h; ⟨x, y.keep hb1 y.lt⟩, fun h => let ⟨x, y⟩ := h9 h; ⟨x, y.keep hb1 y.lt⟩, d78, d79, d89, e7, e8, e9⟩
    · simp only [List.getElem?_toArray, List.getElem?_cons_zero, List.getElem?_cons_succ, Option.some.injEq] at ho
      subst ho
      simp at hl
      subst hl
      clear hd
      go_simp
      refine hK _ _ ?_
      exact ⟨l0, l1, l2, l3, l4, l5, true, l7, l8, l9, l10, l11, l12, l13, l14, b7, b8, b9, rfl, rfl, hbel, h7, h8, h9, d78, d79, d89, e7, e8, e9⟩
    · simp only [List.getElem?_toArray, List.getElem?_cons_zero, List.getElem?_cons_succ, Option.some.injEq] at ho
      subst ho
      simp at hl
      subst hl
      clear hd
      go_simp
      refine hK _ _ ?_
      exact ⟨l0, l1, l2, l3, l4, l5, l6, true, l8, l9, l10, l11, l12, l13, l14, b7, b8, b9, rfl, rfl, hbel, h7, h8, h9, d78, d79, d89, e7, e8, e9⟩
    · simp only [List.getElem?_toArray, List.getElem?_cons_zero, List.getElem?_cons_succ, Option.some.injEq] at ho
      subst ho
      simp at hl
      subst hl
      simp [Region.binds] at hd
      obtain ⟨rfl, rfl, rfl⟩ := hd
      go_simp
      refine (wo_any N M _).mono ?_
      rintro e w1 ⟨rfl, hb1⟩
      refine hK _ _ ?_
      exact ⟨l0, l1, l2, l3, l4, true, true, true, true, l9, l10, l11, l12, l13, l14, b7, b8, b9, rfl, rfl, hbel.trans (hb1.mono hsz), fun h => let ⟨x, y⟩ := h7 h; ⟨x, y.keep hb1 y.lt⟩, fun h => let ⟨x, y⟩ := h8 h; ⟨x, y.keep hb1 y.lt⟩, fun h => let ⟨x, y⟩ := h9 h; ⟨x, y.keep hb1 y.lt⟩, d78, d79, d89, e7, e8, e9⟩
    · simp only [List.getElem?_toArray, List.getElem?_cons_zero, List.getElem?_cons_succ, Option.some.injEq] at ho
      subst ho
      simp at hl
      subst hl
      obtain rfl := e7 rfl
      clear hd
      go_simp
      refine hK _ _ ?_
      exact ⟨l0, l1, l2, l3, l4, l5, l6, l7, l8, true, l10, l11, false, l13, l14, W.heap.size, b8, b9, rfl, rfl, hbel.alloc hsz _, fun _ => ⟨hsz, hasBs_new W 0⟩, fun h => let ⟨x, y⟩ := h8 h; ⟨x, y.keep ((Below.refl _ W).alloc (Nat.le_refl _) _) y.lt⟩, fun h => let ⟨x, y⟩ := h9 h; ⟨x, y.keep ((Below.refl _ W).alloc (Nat.le_refl _) _) y.lt⟩, fun _ h => by have := (h8 h).2.lt; omega, fun _ h => by have := (h9 h).2.lt; omega, d89, (fun h => by cases h), e8, e9⟩
    · simp only [List.getElem?_toArray, List.getElem?_cons_zero, List.getElem?_cons_succ, Option.some.injEq] at ho
      subst ho
      simp at hl
      subst hl
      obtain rfl := e8 rfl
      clear hd
      go_simp
      refine hK _ _ ?_
      exact ⟨l0, l1, l2, l3, l4, l5, l6, l7, l8, l9, true, l11, l12, false, l14, b7, W.heap.size, b9, rfl, rfl, hbel.alloc hsz _, fun h => let ⟨x, y⟩ := h7 h; ⟨x, y.keep ((Below.refl _ W).alloc (Nat.le_refl _) _) y.lt⟩, fun _ => ⟨hsz, hasBs_new W 0⟩, fun h => let ⟨x, y⟩ := h9 h; ⟨x, y.keep ((Below.refl _ W).alloc (Nat.le_refl _) _) y.lt⟩, fun h _ => by have := (h7 h).2.lt; omega, d79, fun _ h => by have := (h9 h).2.lt; omega, e7, (fun h => by cases h), e9⟩
    · simp only [List.getElem?_toArray, List.getElem?_cons_zero, List.getElem?_cons_succ, Option.some.injEq] at ho
      subst ho
      simp at hl
      subst hl
      obtain rfl := e9 rfl
      clear hd
      go_simp
      refine hK _ _ ?_
      exact ⟨l0, l1, l2, l3, l4, l5, l6, l7, l8, l9, l10, true, l12, l13, false, b7, b8, W.heap.size, rfl, rfl, hbel.alloc hsz _, fun h => let ⟨x, y⟩ := h7 h; ⟨x, y.keep ((Below.refl _ W).alloc (Nat.le_refl _) _) y.lt⟩, fun h => let ⟨x, y⟩ := h8 h; ⟨x, y.keep ((Below.refl _ W).alloc (Nat.le_refl _) _) y.lt⟩, fun _ => ⟨hsz, hasBs_new W 0⟩, d78, fun h _ => by have := (h7 h).2.lt; omega, fun h _ => by have := (h8 h).2.lt; omega, e7, e8, (fun h => by cases h)⟩
    · simp only [List.getElem?_toArray, List.getElem?_cons_zero, List.getElem?_cons_succ, Option.some.injEq] at ho
      subst ho
      simp at hl
      subst hl
      simp [Region.binds] at hd
      have hq : l0 = true ∧ l1 = true ∧ l2 = true ∧ l8 = true ∧ l9 = true ∧ l10 = true ∧ l11 = true := by refine ⟨?_, ?_, ?_, ?_, ?_, ?_, ?_⟩ <;> simp [hd]
      obtain ⟨rfl, rfl, rfl, rfl, rfl, rfl, rfl⟩ := hq
      obtain ⟨x, y⟩ := h7 rfl
      have Y := hidIn y
      obtain ⟨c0, c1, c2, c3, f0, f1, f2, f3, _⟩ := y
      simp only [cond_false, wd_zero] at c0 c1 c2 c3
      go_simp
      refine hK _ _ ?_
      exact ⟨true, true, true, l3, l4, l5, l6, l7, true, true, true, true, true, l13, l14, b7, b8, b9, rfl, rfl, below_put hbel x, fun _ => ⟨x, Y.out.put _⟩, fun h => let ⟨x, y⟩ := h8 h; ⟨x, y.other (Ne.symm (d78 rfl rfl)) _⟩, fun h => let ⟨x, y⟩ := h9 h; ⟨x, y.other (Ne.symm (d79 rfl rfl)) _⟩, d78, d79, d89, (fun h => by cases h), (fun h => by cases h), (fun h => by cases h)⟩
    · simp only [List.getElem?_toArray, List.getElem?_cons_zero, List.getElem?_cons_succ, Option.some.injEq] at ho
      subst ho
      simp at hl
      subst hl
      simp [Region.binds] at hd
      have hq : l0 = true ∧ l1 = true ∧ l2 = true ∧ l3 = true ∧ l4 = true ∧ l5 = true ∧ l9 = true ∧ l10 = true ∧ l11 = true ∧ l12 = true := by refine ⟨?_, ?_, ?_, ?_, ?_, ?_, ?_, ?_, ?_, ?_⟩ <;> simp [hd]
      obtain ⟨rfl, rfl, rfl, rfl, rfl, rfl, rfl, rfl, rfl, rfl⟩ := hq
      obtain ⟨x, y⟩ := h8 rfl
      have Y := hidIn y
      obtain ⟨c0, c1, c2, c3, f0, f1, f2, f3, _⟩ := y
      simp only [cond_false, wd_zero] at c0 c1 c2 c3
      go_simp
      refine hK _ _ ?_
      exact ⟨true, true, true, true, true, true, l6, l7, l8, true, true, true, true, true, l14, b7, b8, b9, rfl, rfl, below_put hbel x, fun h => let ⟨x, y⟩ := h7 h; ⟨x, y.other (d78 rfl rfl) _⟩, fun _ => ⟨x, Y.out.put _⟩, fun h => let ⟨x, y⟩ := h9 h; ⟨x, y.other (Ne.symm (d89 rfl rfl)) _⟩, d78, d79, d89, (fun h => by cases h), (fun h => by cases h), (fun h => by cases h)⟩
    · simp only [List.getElem?_toArray, List.getElem?_cons_zero, List.getElem?_cons_succ, Option.some.injEq] at ho
      subst ho
      simp at hl
      subst hl
      simp [Region.binds] at hd
      have hq : l0 = true ∧ l1 = true ∧ l2 = true ∧ l3 = true ∧ l4 = true ∧ l5 = true ∧ l6 = true ∧ l7 = true ∧ l8 = true ∧ l9 = true ∧ l10 = true ∧ l11 = true ∧ l12 = true ∧ l13 = true := by refine ⟨?_, ?_, ?_, ?_, ?_, ?_, ?_, ?_, ?_, ?_, ?_, ?_, ?_, ?_⟩ <;> simp [hd]
      obtain ⟨rfl, rfl, rfl, rfl, rfl, rfl, rfl, rfl, rfl, rfl, rfl, rfl, rfl, rfl⟩ := hq
      obtain ⟨x, y⟩ := h9 rfl
      have Y := hidIn y
      obtain ⟨c0, c1, c2, c3, f0, f1, f2, f3, _⟩ := y
      simp only [cond_false, wd_zero] at c0 c1 c2 c3
      go_simp
      refine hK _ _ ?_
      exact ⟨true, true, true, true, true, true, true, true, true, true, true, true, true, true, true, b7, b8, b9, rfl, rfl, below_put hbel x, fun h => let ⟨x, y⟩ := h7 h; ⟨x, y.other (d79 rfl rfl) _⟩, fun h => let ⟨x, y⟩ := h8 h; ⟨x, y.other (d89 rfl rfl) _⟩, fun _ => ⟨x, Y.out.put _⟩, d78, d79, d89, (fun h => by cases h), (fun h => by cases h), (fun h => by cases h)⟩
  case fin =>
    rintro l a W ⟨l0, l1, l2, l3, l4, l5, l6, l7, l8, l9, l10, l11, l12, l13, l14, b7, b8, b9, rfl, rfl, hbel, h7, h8, h9, d78, d79, d89, _, _, _⟩ hnr
    obtain rfl : l0 = true := by simpa using hnr 0 _ rfl (by simp)
    obtain rfl : l1 = true := by simpa using hnr 1 _ rfl (by simp)
    obtain rfl : l3 = true := by simpa using hnr 3 _ rfl (by simp)
    obtain rfl : l4 = true := by simpa using hnr 4 _ rfl (by simp)
    obtain rfl : l6 = true := by simpa using hnr 6 _ rfl (by simp)
    obtain rfl : l7 = true := by simpa using hnr 7 _ rfl (by simp)
    obtain rfl : l9 = true := by simpa using hnr 9 _ rfl (by simp)
    obtain rfl : l10 = true := by simpa using hnr 10 _ rfl (by simp)
    obtain rfl : l11 = true := by simpa using hnr 11 _ rfl (by simp)
    obtain rfl : l2 = true := by simpa using hnr 2 _ rfl (by simp [Region.binds])
    obtain rfl : l5 = true := by simpa using hnr 5 _ rfl (by simp [Region.binds])
    obtain rfl : l8 = true := by simpa using hnr 8 _ rfl (by simp [Region.binds])
    obtain rfl : l12 = true := by simpa using hnr 12 _ rfl (by simp [Region.binds])
    obtain rfl : l13 = true := by simpa using hnr 13 _ rfl (by simp [Region.binds])
    obtain rfl : l14 = true := by simpa using hnr 14 _ rfl (by simp [Region.binds])
    clear hnr d78 d79 d89
    obtain ⟨sV, nV, mV, cV, tV⟩ := HV.out
    have hA := nV.keep hbel (by omega)
    have hB := mV.keep hbel (by omega)
    have hCc := cV.keep hbel (by omega)
    have h7' := (h7 rfl).2
    have h8' := (h8 rfl).2
    have h9' := (h9 rfl).2
    have bW : Below w.heap.size w W := bV.trans (hbel.mono (by omega))
    have tW : Tabs W := ht.keep bW
    clear h7 h8 h9 HV sV nV mV cV tV hbel
    simp only [cond_true] at h7' h8' h9' ⊢
    have q1 := eq_of (Nat.and_comm M N)
    have q2 := eq_of (Nat.or_comm M N)
    have q3 := eq_null (set1 N M)
    have q4 := eq_of (set2 N M)
    have q5 := eq_of (set3 N M)
    have q6 := eq_of (Nat.and_assoc N M C)
    have q7 := eq_of (Nat.or_assoc N M C)
    have q8 := eq_of (set4 N M C)
    have ca0 := cell_regrown hA.c0
    have ca1 := cell_regrown hA.c1
    have ca2 := cell_regrown hA.c2
    have ca3 := cell_regrown hA.c3
    have cb0 := cell_regrown hB.c0
    have cb1 := cell_regrown hB.c1
    have cb2 := cell_regrown hB.c2
    have cb3 := cell_regrown hB.c3
    have cc0 := cell_regrown hCc.c0
    have cc1 := cell_regrown hCc.c1
    have cc2 := cell_regrown hCc.c2
    have cc3 := cell_regrown hCc.c3
    have c70 := cell_regrown h7'.c0
    have c71 := cell_regrown h7'.c1
    have c72 := cell_regrown h7'.c2
    have c73 := cell_regrown h7'.c3
    have c80 := cell_regrown h8'.c0
    have c81 := cell_regrown h8'.c1
    have c82 := cell_regrown h8'.c2
    have c83 := cell_regrown h8'.c3
    have c90 := cell_regrown h9'.c0
    have c91 := cell_regrown h9'.c1
    have c92 := cell_regrown h9'.c2
    have c93 := cell_regrown h9'.c3
    go_wp2
    refine wp_region_quiet_below (by kernel_rfl) (by kernel_rfl) ?_
    repeat (go_big_quiet_step (first
      | (go_at_call 28; exact Calls.regrown_of (and_any _ _ _))
      | (go_at_call 30; exact Calls.regrown_of (or_any _ _ _))
      | (go_at_call 13; exact Calls.regrown_of (count_any _ _))
      | (go_at_call 27; exact Calls.regrown_of (works_any _ (tW.keep (below_regrown W _ _))))))
    refine wpQuiet_nil ?_
    intro _ hw'
    obtain ⟨⟨dq, osq⟩, hw''⟩ := hw'
    subst hw''
    have hbr := below_regrown W dq osq
    generalize Go.Sort.grow (redrawn W dq) osq = W2 at hbr ⊢
    replace hA := hA.keep hbr hA.lt
    replace hB := hB.keep hbr hB.lt
    replace hCc := hCc.keep hbr hCc.lt
    replace h7' := h7'.keep hbr h7'.lt
    replace h8' := h8'.keep hbr h8'.lt
    replace h9' := h9'.keep hbr h9'.lt
    replace bW := bW.trans (hbr.mono bW.size)
    replace tW := tW.keep hbr
    clear hbr ca0 ca1 ca2 ca3 cb0 cb1 cb2 cb3 cc0 cc1 cc2 cc3 c70 c71 c72 c73 c80 c81 c82 c83 c90 c91 c92 c93
    have ca0 := cell_regrown hA.c0
    have ca1 := cell_regrown hA.c1
    have ca2 := cell_regrown hA.c2
    have ca3 := cell_regrown hA.c3
    have cb0 := cell_regrown hB.c0
    have cb1 := cell_regrown hB.c1
    have cb2 := cell_regrown hB.c2
    have cb3 := cell_regrown hB.c3
    have cc0 := cell_regrown hCc.c0
    have cc1 := cell_regrown hCc.c1
    have cc2 := cell_regrown hCc.c2
    have cc3 := cell_regrown hCc.c3
    have c70 := cell_regrown h7'.c0
    have c71 := cell_regrown h7'.c1
    have c72 := cell_regrown h7'.c2
    have c73 := cell_regrown h7'.c3
    have c80 := cell_regrown h8'.c0
    have c81 := cell_regrown h8'.c1
    have c82 := cell_regrown h8'.c2
    have c83 := cell_regrown h8'.c3
    have c90 := cell_regrown h9'.c0
    have c91 := cell_regrown h9'.c1
    have c92 := cell_regrown h9'.c2
    have c93 := cell_regrown h9'.c3
    go_wp2
    refine wp_region_quiet_below (by kernel_rfl) (by kernel_rfl) ?_
    repeat (go_big_quiet_step (first
      | (go_at_call 28; exact Calls.regrown_of (and_any _ _ _))
      | (go_at_call 30; exact Calls.regrown_of (or_any _ _ _))
      | (go_at_call 13; exact Calls.regrown_of (count_any _ _))
      | (go_at_call 27; exact Calls.regrown_of (works_any _ (tW.keep (below_regrown W2 _ _))))))
    refine wpQuiet_nil ?_
    intro _ hw'
    obtain ⟨⟨dq, osq⟩, hw''⟩ := hw'
    subst hw''
    have hbr := below_regrown W2 dq osq
    generalize Go.Sort.grow (redrawn W2 dq) osq = W3 at hbr ⊢
    replace hA := hA.keep hbr hA.lt
    replace hB := hB.keep hbr hB.lt
    replace hCc := hCc.keep hbr hCc.lt
    replace h7' := h7'.keep hbr h7'.lt
    replace h8' := h8'.keep hbr h8'.lt
    replace h9' := h9'.keep hbr h9'.lt
    replace bW := bW.trans (hbr.mono bW.size)
    replace tW := tW.keep hbr
    clear hbr ca0 ca1 ca2 ca3 cb0 cb1 cb2 cb3 cc0 cc1 cc2 cc3 c70 c71 c72 c73 c80 c81 c82 c83 c90 c91 c92 c93
    have n1 := cntTo_le 256 (N &&& M)
    have n2 := cntTo_le 256 (N ||| M)
    have n3 := cntTo_le 256 N
    have n4 := cntTo_le 256 M
    have n5 := cntTo_le 256 (wo N M)
    have s1 : (((cntTo 256 (N &&& M) : Nat) : Int) + ((cntTo 256 (N ||| M) : Nat) : Int) == ((cntTo 256 N : Nat) : Int) + ((cntTo 256 M : Nat) : Int)) = true := by
      have := cnt_and_or 256 N M
      simp only [beq_iff_eq]
      omega
    have s2 : (((cntTo 256 (wo N M) : Nat) : Int) + ((cntTo 256 (N &&& M) : Nat) : Int) == ((cntTo 256 N : Nat) : Int)) = true := by
      have := cnt_wo_and 256 N M
      simp only [beq_iff_eq]
      omega
    clear q1 q2 q3 q4 q5 q6 q7 q8
    have ca0 := cell_regrown hA.c0
    have ca1 := cell_regrown hA.c1
    have ca2 := cell_regrown hA.c2
    have ca3 := cell_regrown hA.c3
    have cb0 := cell_regrown hB.c0
    have cb1 := cell_regrown hB.c1
    have cb2 := cell_regrown hB.c2
    have cb3 := cell_regrown hB.c3
    have cc0 := cell_regrown hCc.c0
    have cc1 := cell_regrown hCc.c1
    have cc2 := cell_regrown hCc.c2
    have cc3 := cell_regrown hCc.c3
    have c70 := cell_regrown h7'.c0
    have c71 := cell_regrown h7'.c1
    have c72 := cell_regrown h7'.c2
    have c73 := cell_regrown h7'.c3
    have c80 := cell_regrown h8'.c0
    have c81 := cell_regrown h8'.c1
    have c82 := cell_regrown h8'.c2
    have c83 := cell_regrown h8'.c3
    have c90 := cell_regrown h9'.c0
    have c91 := cell_regrown h9'.c1
    have c92 := cell_regrown h9'.c2
    have c93 := cell_regrown h9'.c3
    go_wp2
    refine wp_region_quiet_below (by kernel_rfl) (by kernel_rfl) ?_
    repeat (go_big_quiet_step (first
      | (go_at_call 28; exact Calls.regrown_of (and_any _ _ _))
      | (go_at_call 30; exact Calls.regrown_of (or_any _ _ _))
      | (go_at_call 13; exact Calls.regrown_of (count_any _ _))
      | (go_at_call 27; exact Calls.regrown_of (works_any _ (tW.keep (below_regrown W3 _ _))))))
    refine wpQuiet_nil ?_
    intro _ hw'
    obtain ⟨⟨dq, osq⟩, hw''⟩ := hw'
    subst hw''
    have hbr := below_regrown W3 dq osq
    generalize Go.Sort.grow (redrawn W3 dq) osq = W4 at hbr ⊢
    replace hA := hA.keep hbr hA.lt
    replace hB := hB.keep hbr hB.lt
    replace hCc := hCc.keep hbr hCc.lt
    replace h7' := h7'.keep hbr h7'.lt
    replace h8' := h8'.keep hbr h8'.lt
    replace h9' := h9'.keep hbr h9'.lt
    replace bW := bW.trans (hbr.mono bW.size)
    replace tW := tW.keep hbr
    clear hbr ca0 ca1 ca2 ca3 cb0 cb1 cb2 cb3 cc0 cc1 cc2 cc3 c70 c71 c72 c73 c80 c81 c82 c83 c90 c91 c92 c93
    go_wp2
    go_ret
    exact ⟨rfl, bW⟩
end Go.Proofs.YtghjjfgeminkgaaDoor
