/- A copy of numbers; rising; the keys of a map, sorted. -/
import Derived.Test.YtgpinecfmhenkaaDoorU1
import Derived.Test.YtgpinecfmhenkaaDoorShelf
import Derived.Sort.OwnSortedInts
import Derived.Lib.OwnBridge
import Derived.Shelf.SlIterI.Sorted
namespace Go.Proofs.YtgpinecfmhenkaaDoor
open Go.RowKit Go.Maps Go.Sort Go.Shelf

theorem cints_map (l : List Int) : fl ic l = l.map (Value.int .i64) := by
  induction l with
  | nil => rfl
  | cons a l ih => unfold fl at ih ⊢; rw [List.flatMap_cons, ih]; rfl
/-- A copy. -/
theorem cclone_any {w : World} {v : Value} {l : List Int} (h : SlAt ic 1 w v l) (hn : NilOk v) (hl : l.length * 8 ≤ 140737488355328) :
    Calls Tryd.prog 31 #[v] w fun e w' => (∃ v', e = .returned v' ∧ w'.ownsRow w.heap.size 3 1 v' l.length (fl ic l)) ∧ Below w.heap.size w w' := by
  obtain ⟨a, cap, rfl, _, _, hc⟩ := h.ints
  rcases hn with ⟨p, n, c, he⟩ | he
  · simp only [Value.slice.injEq] at he
    obtain ⟨rfl, rfl, rfl⟩ := he
    by_cases h0 : 0 < l.length
    · obtain ⟨bk, o, hp, hb, hc2⟩ := hc h0
      simp only [Option.some.injEq] at hp
      subst hp
      refine (Tryd.slices_Clone_int bk o l.length cap l w (Nat.le_refl _) hl (fun j hj => ?_)).mono ?_
      · rw [hc2 j l[j] (List.getElem?_eq_getElem hj)]
        simp [List.getD_eq_getElem?_getD, List.getElem?_eq_getElem hj]
      · rintro e w' ⟨v', rfl, hr, _, hb'⟩
        rw [List.take_length, ← cints_map] at hr
        exact ⟨⟨v', rfl, hr⟩, hb'⟩
    · have hl0 : l = [] := List.length_eq_zero_iff.1 (by omega)
      subst hl0
      refine (Tryd.slices_Clone_int_zero p cap w).mono ?_
      rintro e w' ⟨v', rfl, hr, _, hb'⟩
      exact ⟨⟨v', rfl, hr⟩, hb'⟩
  · simp only [Value.slice.injEq] at he
    obtain ⟨rfl, h0, rfl⟩ := he
    have hl0 : l = [] := List.length_eq_zero_iff.1 h0
    subst hl0
    refine (Tryd.slices_Clone_int_nil 0 0 w).mono ?_
    rintro e w' ⟨rfl, rfl⟩
    exact ⟨⟨_, rfl, World.ownsRow_nil _ _ _ _⟩, Below.refl _ _⟩
theorem ccompact_len (l : List Int) : (Lib.compact l).length ≤ l.length := by
  unfold Lib.compact Lib.compactUpTo
  rw [List.length_map]
  exact Nat.le_trans (List.length_filter_le _ _) (by simp)
set_option maxRecDepth 100000 in
set_option maxHeartbeats 2000000 in
theorem rising_any {l : List Int} {v : Value} {w : World} (h : SlAt ic 1 w v l) (hn : NilOk v) (hll : l.length ≤ 20000) :
    Calls Tryd.prog 29 #[v] w fun e w' => (∃ a cap, e = .returned (.slice a (rsL l).length cap) ∧ w'.ownsRow w.heap.size 3 1 (.slice a (rsL l).length cap) (rsL l).length (fl ic (rsL l))) ∧ Below w.heap.size w w' := by
  have HC := hidIn (cclone_any h hn (by omega))
  obtain ⟨a0, c0, rfl, _⟩ := h
  clear hn
  obtain ⟨jj, hjj⟩ : ∃ jj, rsL l = jj := ⟨_, rfl⟩
  have HJ : Hid (jj = Lib.compact (l.mergeSort fun x y => decide (x ≤ y))) := hidIn (by rw [← hjj]; rfl)
  rw [hjj]
  clear hjj
  go_enter Tryd.func29, Tryd.ntmps29
  go_wp2_with fail
  refine HC.out.mono ?_
  rintro e w2 ⟨⟨v', rfl, hrow2⟩, hb2⟩
  obtain ⟨a, cap, rfl⟩ := row_shape hrow2
  have HB2 := hidIn hb2
  clear hb2 HC
  rcases hrow2.2 with ⟨h1, h0⟩ | ⟨g, cap', cur, hu, hg, hh, h1, h2, h3, h4⟩
  · have hl0 : l = [] := List.length_eq_zero_iff.1 h0
    subst hl0
    simp at h1
    obtain ⟨rfl, rfl⟩ := h1
    have HS := hidIn (Tryd.slices_Sort_int_none none 0 w2)
    have HCp := hidIn (Tryd.slices_Compact_int_empty none 0 w2)
    have HJ0 : Hid (jj = []) := hidIn (by rw [HJ.out]; simp [Lib.compact, Lib.compactUpTo])
    simp only [List.length_nil]
    clear h0 hrow2
    go_wp2_with fail
    refine HS.out.mono ?_
    rintro e w3 ⟨rfl, hw3⟩
    rw [hw3]
    clear hw3 w3 HS
    go_wp2_with fail
    refine HCp.out.mono ?_
    rintro e w3 ⟨rfl, hw3⟩
    rw [hw3]
    clear hw3 w3 HCp
    go_wp2_with fail
    go_ret
    exact ⟨⟨none, 0, by rw [HJ0.out]; rfl, by rw [HJ0.out]; exact World.ownsRow_nil _ _ _ _⟩, HB2.out⟩
  · simp at hu
    obtain ⟨rfl, rfl⟩ := hu
    obtain ⟨ts, hts⟩ : ∃ ts, (l.mergeSort fun x y => decide (x ≤ y)) = ts := ⟨_, rfl⟩
    have htl : ts.length = l.length := by rw [← hts, List.length_mergeSort]
    have htake : cur.toList.take l.length = l.map (Value.int .i64) := by rw [Nat.mul_one, cints_map] at h4; exact h4
    have hS := Tryd.slices_Sort_int g 0 cap l w2 (holds_of_blockI hh htake) (block_lt hh) (by omega)
    rw [hts] at hS HJ
    have HS := hidIn hS
    have HT : Hid (∀ n os, (Sort.grow (Sort.putRow (Value.int .i64) (Sort.ahead w2 n) g 0 ts.toArray) os).ownsRow w.heap.size 3 1 (.slice (some ⟨g, 0, none⟩) l.length cap) l.length (ts.map (Value.int .i64)) ∧ Below w.heap.size w (Sort.grow (Sort.putRow (Value.int .i64) (Sort.ahead w2 n) g 0 ts.toArray) os)) := hidIn fun n os => ⟨ownsRow_sortedI htl hg hh h1 h2 h3, HB2.out.grown (grownBy_sortedI _) HB2.out.size (fun k hk => by cases hk; exact hg)⟩
    clear hS hts
    go_wp2_with fail
    refine HS.out.mono ?_
    rintro e w3 ⟨rfl, n, os, hw3⟩
    have h3' := HT.out n os
    rw [← hw3] at h3'
    obtain ⟨hrow3, hb3⟩ := h3'
    clear hw3 HS HT
    rw [← htl] at hrow3 ⊢
    have hcap3 : ts.length ≤ cap := by omega
    obtain ⟨cur3, hh3, ht3⟩ : ∃ cur3, w3.heap[g]? = some (.cells cur3 3 (0, 0)) ∧ cur3.toList.take ts.length = ts.map (Value.int .i64) := by
      rcases hrow3.2 with ⟨h, _⟩ | ⟨g', cap', cur3, h, _, hh3, _, _, _, h5⟩
      · simp at h
      · simp at h
        obtain ⟨rfl, _⟩ := h
        exact ⟨cur3, hh3, by rw [Nat.mul_one] at h5; exact h5⟩
    have HCp := hidIn (Tryd.slices_Compact_int g 0 cap ts w3 (holds_of_blockI hh3 ht3) (by omega) hcap3)
    have hcl := ccompact_len ts
    have HR3 : Hid (∀ q, (Sort.putRow (Value.int .i64) (Sort.ahead w3 q) g 0 (Lib.compact ts ++ List.replicate (ts.length - (Lib.compact ts).length) 0).toArray).ownsRow w.heap.size 3 1 (.slice (some ⟨g, 0, none⟩) (Lib.compact ts).length cap) (Lib.compact ts).length (fl ic (Lib.compact ts)) ∧ Below w.heap.size w (Sort.putRow (Value.int .i64) (Sort.ahead w3 q) g 0 (Lib.compact ts ++ List.replicate (ts.length - (Lib.compact ts).length) 0).toArray)) := hidIn fun q => by
      refine ⟨?_, Lib.below_putRow hb3 hg⟩
      have := Lib.ownsRow_putRow (q := q) (k := (Lib.compact ts).length) (ys := Lib.compact ts ++ List.replicate (ts.length - (Lib.compact ts).length) 0) hrow3 (by simp; omega) hcl
      rw [List.take_left] at this
      rw [cints_map]
      exact this
    clear hrow3 hb3 hh3 ht3 htl hcl
    go_wp2_with fail
    refine HCp.out.mono ?_
    rintro e w4 ⟨rfl, q, hw4⟩
    have h4' := HR3.out q
    rw [← hw4] at h4'
    have H4 := hidIn h4'
    clear hw4 HR3 HCp h4'
    go_wp2_with fail
    go_ret
    exact ⟨⟨_, _, by rw [HJ.out]; rfl, by rw [HJ.out]; exact H4.out.1⟩, H4.out.2⟩
/-- What maps.Keys hands back. -/
abbrev keyF (B : Nat) : Value := .func (.func 44) #[] #[.pointer (some ⟨B, 0, none⟩)]
theorem keysC_any (M : Nat) (w : World) : Calls Tryd.prog 28 #[.map (some M)] w fun e w' => e = .returned (keyF w.heap.size) ∧ w' = w.alloc (.cells #[.map (some M)] 68) :=
  (callsIn_wide (n := 5)).1 (AnyZI.keys_in Tryd.keysA Fence.wide 5 trivial rfl (some M) w)
theorem sortsA (m : Nat) : AnyZI.SortsIn Tryd.prog Tryd.sortedA_ren Fence.wide m :=
  ⟨fun blk off cap ss W hH hblk hsz => callsIn_wide.2 (Tryd.slices_Sort_int blk off cap ss W hH hblk hsz),
   fun p cap W => callsIn_wide.2 (Tryd.slices_Sort_int_none p cap W)⟩
set_option maxHeartbeats 1000000 in
theorem sortedC_any {w : World} {M n : Nat} {f : Int → Option Value} (h : MpZ w M n f) (hn : n ≤ 100000) (ks : List Int) (hr : ks.Pairwise fun x y => x < y) (hk : ∀ x, x ∈ ks ↔ (Lit.int .i64 x).wf = true ∧ (f x).isSome = true) :
    Calls Tryd.prog 27 #[keyF w.heap.size] (w.alloc (.cells #[.map (some M)] 68)) fun e w' => (∃ a cap, e = .returned (.slice a ks.length cap) ∧ w'.ownsRow w.heap.size 3 1 (.slice a ks.length cap) ks.length (fl ic ks)) ∧ Below w.heap.size w w' := by
  obtain ⟨D, hown, hks⟩ := h.keys ks hr hk
  have hsz : Maps.size D ≤ n := by
    obtain ⟨es, clock, hb, F, hs, rfl⟩ := hown
    simpa [Maps.size, length_sorted] using hs
  have hbl := hown.lt
  have hseq : SeqGives Fence.wide 2 Tryd.prog 44 #[.pointer (some ⟨w.heap.size, 0, none⟩)] encZ (fun ss => ss.Perm (intKeys D)) (Maps.size D) (w.alloc (.cells #[.map (some M)] 68)) :=
    AnyZI.keys_gives (ρ := Tryd.keysA_ren) { Tryd.keysA with } Fence.wide _ trivial rfl (by omega) w.heap.size M n D _ (by simp) (by simp) (by
      obtain ⟨es, clock, hb, Ft, hs, hD⟩ := hown
      exact ⟨es, clock, (Below.heap_alloc _ _ M hbl).trans hb, Ft, hs, hD⟩)
  have cS := AnyZI.sorted_in Tryd.sortedA Fence.wide 5 trivial trivial trivial trivial rfl (by omega) (sortsA _) (enters_of Tryd.func43 (by kernel_rfl) rfl) 44 #[.pointer (some ⟨w.heap.size, 0, none⟩)] trivial (enters_of Tryd.func44 (by kernel_rfl) rfl) _ _ (by unfold maxLen; omega) (by omega) _ hseq
  refine ((callsIn_wide (n := 5)).1 cS).mono ?_
  rintro e w' ⟨v, ss, rfl, hp, hrow, _, hb⟩
  obtain ⟨h1, h2⟩ := hks ss hp
  rw [h2, h1] at hrow
  have hrow' := row_low hrow (show w.heap.size ≤ (w.alloc (.cells #[.map (some M)] 68)).heap.size by simp)
  obtain ⟨a, cap, rfl⟩ := row_shape hrow'
  exact ⟨⟨a, cap, rfl, by rw [cints_map]; exact hrow'⟩, ((Below.refl _ w).alloc (Nat.le_refl _) _).trans (hb.mono (by simp))⟩
end Go.Proofs.YtgpinecfmhenkaaDoor
